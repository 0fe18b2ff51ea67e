/- H7: Hb Ib -/
import Derived.Test.YtghffnjnpgiicaaH5
import Derived.Test.YtghffnjnpgiicaaH6
/- isTrail and isActive. -/
namespace Go.Proofs.Ytghffnjnpgiicaa
open Go.RowKit

/-- The list is a trail of the web. -/
def okTrW (W : Web) (xs : List Int) : Bool := okSet xs W.count && decide (∀ i, i < xs.length - 1 → W.adj (at' xs i) (at' xs (i + 1)) = true)
/-- The trail is active in the web. -/
def actW (W : Web) (xs : List Int) : Bool := decide (∀ i, i < xs.length - 2 → W.pass (at' xs i) (at' xs (i + 1)) (at' xs (i + 2)) = true)

set_option maxHeartbeats 4000000 in
set_option maxRecDepth 100000 in
theorem isTrail_any (W : Web) (xs : List Int) (ao : Option Addr) (xb xo xc : Nat) (w : World) (hc : W.count ≤ 10) (hX : IntsAt w ao xb xo xs) :
    Calls Try.prog 64 #[.agg W.cells, .slice ao xs.length xc] w fun e w' => e = .returned (.bool (okTrW W xs)) ∧ Below w.heap.size w w' := by
  have HX := Lib.hid hX
  have hl := hX.len
  have hw0 := heap_alloc_new w (.cells W.cells 102)
  have HBX := Lib.hid hw0
  have c0 : (w.alloc (.cells W.cells 102)).cell? ⟨w.heap.size, 0, none⟩ = some (.int .i64 W.count) := by rw [web_cell hw0 (by omega)]; rfl
  have hB0 : Below w.heap.size w (w.alloc (.cells W.cells 102)) := (Below.refl _ _).alloc (Nat.le_refl _) _
  have HB0 := Lib.hid hB0
  clear hX hw0 hB0
  go_enter Try.func64, Try.ntmps64
  go_wp2_with fail
  refine (toMembers_any xs W.count ao xb xo xc _ (HX.out.alloc _) hc).mono ?_
  rintro e w2 ⟨⟨m, rfl, -⟩, hb2⟩
  have HB2 := Lib.hid (HB0.out.trans (hb2.mono HB0.out.size))
  have HBX2 := Lib.hid ((hb2.block _ (lt_of_block HBX.out)).trans HBX.out)
  clear hb2 c0
  obtain ⟨w3, e3, hm3, hb3⟩ := mem_world w2 m
  have HW3 := Lib.hid e3
  have HB3 := Lib.hid (HB2.out.trans (hb3.mono HB2.out.size))
  have HBX3 := Lib.hid ((hb3.block _ (lt_of_block HBX2.out)).trans HBX2.out)
  clear e3 hm3 hb3
  cases e1 : okSet xs W.count
  · have HF := Lib.hid (show okTrW W xs = false by unfold okTrW; rw [e1]; rfl)
    clear e1
    go_wp2_with (first
      | (refine wpList_store_row rfl 97 (.tmp 5) (.tmp 13) rfl w2.heap.size (memF m) rfl rfl 97 _ (heap_alloc_new _ _) (info_mem _) (old_mem _) (memF_all _) (wpList_world HW3.out ?_)))
    go_ret
    exact ⟨ret_bool HF.out.symm, HB3.out⟩
  · have HOK := Lib.hid e1
    clear e1
    go_wp2_with (first
      | (refine wpList_store_row rfl 97 (.tmp 5) (.tmp 13) rfl w2.heap.size (memF m) rfl rfl 97 _ (heap_alloc_new _ _) (info_mem _) (old_mem _) (memF_all _) (wpList_world HW3.out ?_)))
    go_loopw [7] (fun i wr => ∃ k : Nat, k ≤ xs.length ∧ i = .int .i64 ((k : Int) + 1) ∧ (∀ i, i < k → i < xs.length - 1 → W.adj (at' xs i) (at' xs (i + 1)) = true) ∧ Below w3.heap.size w3 wr) (fun i _ => xs.length + 1 - (intOf i).toNat)
    case atStart => exact ⟨0, by omega, rfl, fun j hj => absurd hj (by omega), Below.refl _ _⟩
    case round =>
      obtain ⟨k, hk, rfl, ha, hb⟩ := hrel
      have HA := Lib.hid ha
      have HB := Lib.hid hb
      have HBW := Lib.hid (HB3.out.trans (hb.mono HB3.out.size))
      have HBXr := Lib.hid ((hb.block _ (lt_of_block HBX3.out)).trans HBX3.out)
      clear ha hb
      by_cases hlt : k + 1 < xs.length
      · have hlt' : ((k : Int) + 1) < (xs.length : Int) := by omega
        have hX' := HX.out.below HBW.out (Nat.le_refl _)
        obtain ⟨rfl, hxb⟩ := hX'.ptr (by omega)
        obtain ⟨ea, ha⟩ := okSet_at HOK.out (show k < xs.length by omega)
        obtain ⟨eb, hb⟩ := okSet_at HOK.out hlt
        have d0 := hX'.cell k (by omega)
        have d1 := hX'.cell (k + 1) hlt
        obtain ⟨qa, hqa⟩ : ∃ qa, at' xs k = qa := ⟨_, rfl⟩
        obtain ⟨qb, hqb⟩ : ∃ qb, at' xs (k + 1) = qb := ⟨_, rfl⟩
        rw [hqa] at ea ha
        rw [hqb] at eb hb
        rw [ea] at d0
        rw [eb] at d1
        have HAD := Lib.hid (fun w' => adjacent_any W qa qb w' (by omega) (by omega))
        obtain ⟨av, hav⟩ : ∃ av, W.adj qa qb = av := ⟨_, rfl⟩
        have HAV := Lib.hid (show W.adj (at' xs k) (at' xs (k + 1)) = av by rw [hqa, hqb]; exact hav)
        rw [hav] at HAD
        have HC2 : Hid (∀ w', Below wr.heap.size wr w' → w'.heap[w.heap.size]? = some (.cells W.cells 102 (0, 0)) ∧ w'.cell? ⟨xb, xo + k, none⟩ = some (.int .i64 (qa : Int)) ∧ w'.cell? ⟨xb, xo + (k + 1), none⟩ = some (.int .i64 (qb : Int))) :=
          fun w' h => ⟨(h.block _ (lt_of_block HBXr.out)).trans HBXr.out, (h.cell (p := ⟨xb, xo + k, none⟩) hxb).trans d0, (h.cell (p := ⟨xb, xo + (k + 1), none⟩) hxb).trans d1⟩
        have hk1 : ((k : Int) + 1).toNat = k + 1 := by omega
        have i0 : (0 : Int) ≤ (k : Int) + 1 := by omega
        have i1 : k < xs.length := by omega
        clear hX' ea eb d0 d1 hqa hqb hav
        go_wp2
        refine wp_region_quiet (C := fun w' => Below wr.heap.size wr w') (by kernel_rfl) (by kernel_rfl) (Below.refl _ _).drew ?_
        refine quiet_next rfl (fun K hK => quiet_load 102 (.tmp 2) rfl w.heap.size rfl 102 W.cells (0, 0) _ (fun w' h => (HC2.out w' h).1) Try.underlying102 rfl (info_web _) (hK _ ?_))
        try go_frame
        refine quiet_next rfl (fun K hK => quiet_val (.slice (some ⟨xb, xo, none⟩) xs.length xc) (fun w' h => by go_simp) (hK _ ?_))
        try go_frame
        refine quiet_next rfl (fun K hK => quiet_val (.int .i64 ((k : Int) + 1)) (fun w' h => by go_simp) (hK _ ?_))
        try go_frame
        refine quiet_next rfl (fun K hK => quiet_val (.int .i64 (k : Int)) (fun w' h => by go_simp; exact IntWalk.i64_in _ (by omega)) (hK _ ?_))
        try go_frame
        refine quiet_next rfl (fun K hK => quiet_val (.pointer (some ⟨xb, xo + k, none⟩)) (fun w' h => by go_simp) (hK _ ?_))
        try go_frame
        refine quiet_next rfl (fun K hK => quiet_val (.int .i64 (qa : Int)) (fun w' h => by obtain ⟨_, c1, c2⟩ := HC2.out w' h; go_simp) (hK _ ?_))
        try go_frame
        refine quiet_next rfl (fun K hK => quiet_val (.slice (some ⟨xb, xo, none⟩) xs.length xc) (fun w' h => by go_simp) (hK _ ?_))
        try go_frame
        refine quiet_next rfl (fun K hK => quiet_val (.int .i64 ((k : Int) + 1)) (fun w' h => by go_simp) (hK _ ?_))
        try go_frame
        refine quiet_next rfl (fun K hK => quiet_val (.pointer (some ⟨xb, xo + (k + 1), none⟩)) (fun w' h => by go_simp) (hK _ ?_))
        try go_frame
        refine quiet_next rfl (fun K hK => quiet_val (.int .i64 (qb : Int)) (fun w' h => by obtain ⟨_, c1, c2⟩ := HC2.out w' h; go_simp) (hK _ ?_))
        try go_frame
        refine quiet_next rfl (fun K hK => quiet_call 77 #[.agg W.cells, .int .i64 (qa : Int), .int .i64 (qb : Int)] (.bool av) (fun w' h => by go_simp) (fun w' h => ?_) (hK _ ?_))
        · refine (HAD.out w').mono ?_
          rintro e w'' ⟨rfl, hb⟩
          exact ⟨rfl, h.trans (hb.mono h.size)⟩
        try go_frame
        refine quiet_next rfl (fun K hK => quiet_val (.bool (!av)) (fun w' h => by go_simp) (hK _ ?_))
        try go_frame
        refine wpQuiet_nil (fun wz hz => ?_)
        try go_frame
        have HZ := Lib.hid (HB.out.trans (hz.mono HB.out.size))
        clear hz
        cases av
        · have HF := Lib.hid (show okTrW W xs = false by
            unfold okTrW
            rw [HOK.out, Bool.true_and]
            exact decide_eq_false (fun q => by have := q k (by omega); rw [HAV.out] at this; cases this))
          go_wp2
          go_ret
          exact ⟨ret_bool HF.out.symm, HB3.out.trans (HZ.out.mono HB3.out.size)⟩
        · go_wp2
          go_roundw
          case rel => exact ⟨k + 1, by omega, by go_num, fun i hi h2 => by
            by_cases e : i = k
            · subst e; exact HAV.out
            · exact HA.out i (by omega) h2, HZ.out⟩
          case measure => simp [intOf]; omega
      · have HT := Lib.hid (show okTrW W xs = true by
          unfold okTrW
          rw [HOK.out, Bool.true_and]
          exact decide_eq_true (fun i hi => HA.out i (by omega) hi))
        go_wp2
        go_ret
        exact ⟨ret_bool HT.out.symm, HBW.out⟩

set_option maxHeartbeats 4000000 in
set_option maxRecDepth 100000 in
theorem isActive_any (W : Web) (xs : List Int) (ao : Option Addr) (xb xo xc : Nat) (w : World) (hc : W.count ≤ 10) (hX : IntsAt w ao xb xo xs) (hok : okSet xs W.count = true) :
    Calls Try.prog 65 #[.agg W.cells, .slice ao xs.length xc] w fun e w' => e = .returned (.bool (actW W xs)) ∧ Below w.heap.size w w' := by
  have HX := Lib.hid hX
  have HOK := Lib.hid hok
  have hl := hX.len
  have hw0 := heap_alloc_new w (.cells W.cells 102)
  have HBX := Lib.hid hw0
  have hB0 : Below w.heap.size w (w.alloc (.cells W.cells 102)) := (Below.refl _ _).alloc (Nat.le_refl _) _
  have HB0 := Lib.hid hB0
  have HXa := Lib.hid (hX.alloc (.cells W.cells 102))
  obtain ⟨wa, hwa⟩ : ∃ wa, w.alloc (.cells W.cells 102) = wa := ⟨_, rfl⟩
  rw [hwa] at HBX HB0 HXa
  have HWA := Lib.hid hwa
  clear hX hw0 hB0 hwa hok
  go_enter Try.func65, Try.ntmps65
  go_wp2
  rw [HWA.out]
  go_loopw [5] (fun i wr => ∃ k : Nat, k ≤ xs.length ∧ i = .int .i64 ((k : Int) + 2) ∧ (∀ i, i < k → i < xs.length - 2 → W.pass (at' xs i) (at' xs (i + 1)) (at' xs (i + 2)) = true) ∧ Below wa.heap.size wa wr) (fun i _ => xs.length + 2 - (intOf i).toNat)
  case atStart => exact ⟨0, by omega, rfl, fun j hj => absurd hj (by omega), Below.refl _ _⟩
  case round =>
    obtain ⟨k, hk, rfl, ha, hb⟩ := hrel
    have HA := Lib.hid ha
    have HB := Lib.hid hb
    have HBXr := Lib.hid ((hb.block _ (lt_of_block HBX.out)).trans HBX.out)
    clear ha hb
    by_cases hlt : k + 2 < xs.length
    · have hlt' : ((k : Int) + 2) < (xs.length : Int) := by omega
      have hX' := HXa.out.below HB.out (Nat.le_refl _)
      obtain ⟨rfl, hxb⟩ := hX'.ptr (by omega)
      obtain ⟨ea, ha⟩ := okSet_at HOK.out (show k < xs.length by omega)
      obtain ⟨ev, hv⟩ := okSet_at HOK.out (show k + 1 < xs.length by omega)
      obtain ⟨eb, hb⟩ := okSet_at HOK.out hlt
      have d0 := hX'.cell k (by omega)
      have d1 := hX'.cell (k + 1) (by omega)
      have d2 := hX'.cell (k + 2) hlt
      obtain ⟨qa, hqa⟩ : ∃ qa, at' xs k = qa := ⟨_, rfl⟩
      obtain ⟨qv, hqv⟩ : ∃ qv, at' xs (k + 1) = qv := ⟨_, rfl⟩
      obtain ⟨qb, hqb⟩ : ∃ qb, at' xs (k + 2) = qb := ⟨_, rfl⟩
      rw [hqa] at ea ha
      rw [hqv] at ev hv
      rw [hqb] at eb hb
      rw [ea] at d0
      rw [ev] at d1
      rw [eb] at d2
      have HAD := Lib.hid (fun w' => passes_any W qa qv qb w' (by omega) (by omega) (by omega))
      obtain ⟨av, hav⟩ : ∃ av, W.pass qa qv qb = av := ⟨_, rfl⟩
      have HAV := Lib.hid (show W.pass (at' xs k) (at' xs (k + 1)) (at' xs (k + 2)) = av by rw [hqa, hqv, hqb]; exact hav)
      rw [hav] at HAD
      have HC2 : Hid (∀ w', Below wr.heap.size wr w' → w'.heap[w.heap.size]? = some (.cells W.cells 102 (0, 0)) ∧ w'.cell? ⟨xb, xo + k, none⟩ = some (.int .i64 (qa : Int)) ∧ w'.cell? ⟨xb, xo + (k + 1), none⟩ = some (.int .i64 (qv : Int)) ∧ w'.cell? ⟨xb, xo + (k + 2), none⟩ = some (.int .i64 (qb : Int))) :=
        fun w' h => ⟨(h.block _ (lt_of_block HBXr.out)).trans HBXr.out, (h.cell (p := ⟨xb, xo + k, none⟩) hxb).trans d0, (h.cell (p := ⟨xb, xo + (k + 1), none⟩) hxb).trans d1, (h.cell (p := ⟨xb, xo + (k + 2), none⟩) hxb).trans d2⟩
      have hk1 : ((k : Int) + 1).toNat = k + 1 := by omega
      have hk2 : ((k : Int) + 2).toNat = k + 2 := by omega
      have i0 : (0 : Int) ≤ (k : Int) + 1 := by omega
      have i1 : k < xs.length := by omega
      have i2 : (k : Int) + 1 < (xs.length : Int) := by omega
      have i3 : (0 : Int) ≤ (k : Int) + 2 := by omega
      clear hX' ea ev eb d0 d1 d2 hqa hqv hqb hav
      go_wp2
      refine wp_region_quiet (C := fun w' => Below wr.heap.size wr w') (by kernel_rfl) (by kernel_rfl) (Below.refl _ _).drew ?_
      refine quiet_next rfl (fun K hK => quiet_load 102 (.tmp 2) rfl w.heap.size rfl 102 W.cells (0, 0) _ (fun w' h => (HC2.out w' h).1) Try.underlying102 rfl (info_web _) (hK _ ?_))
      try go_frame
      refine quiet_next rfl (fun K hK => quiet_val (.slice (some ⟨xb, xo, none⟩) xs.length xc) (fun w' h => by go_simp) (hK _ ?_))
      try go_frame
      refine quiet_next rfl (fun K hK => quiet_val (.int .i64 ((k : Int) + 2)) (fun w' h => by go_simp) (hK _ ?_))
      try go_frame
      refine quiet_next rfl (fun K hK => quiet_val (.int .i64 (k : Int)) (fun w' h => by go_simp; exact IntWalk.i64_in _ (by omega)) (hK _ ?_))
      try go_frame
      refine quiet_next rfl (fun K hK => quiet_val (.pointer (some ⟨xb, xo + k, none⟩)) (fun w' h => by go_simp) (hK _ ?_))
      try go_frame
      refine quiet_next rfl (fun K hK => quiet_val (.int .i64 (qa : Int)) (fun w' h => by obtain ⟨_, c1, c2, c3⟩ := HC2.out w' h; go_simp) (hK _ ?_))
      try go_frame
      refine quiet_next rfl (fun K hK => quiet_val (.slice (some ⟨xb, xo, none⟩) xs.length xc) (fun w' h => by go_simp) (hK _ ?_))
      try go_frame
      refine quiet_next rfl (fun K hK => quiet_val (.int .i64 ((k : Int) + 2)) (fun w' h => by go_simp) (hK _ ?_))
      try go_frame
      refine quiet_next rfl (fun K hK => quiet_val (.int .i64 ((k : Int) + 1)) (fun w' h => by go_simp; rw [IntWalk.i64_in _ (by omega)]; omega) (hK _ ?_))
      try go_frame
      refine quiet_next rfl (fun K hK => quiet_val (.pointer (some ⟨xb, xo + (k + 1), none⟩)) (fun w' h => by go_simp) (hK _ ?_))
      try go_frame
      refine quiet_next rfl (fun K hK => quiet_val (.int .i64 (qv : Int)) (fun w' h => by obtain ⟨_, c1, c2, c3⟩ := HC2.out w' h; go_simp) (hK _ ?_))
      try go_frame
      refine quiet_next rfl (fun K hK => quiet_val (.slice (some ⟨xb, xo, none⟩) xs.length xc) (fun w' h => by go_simp) (hK _ ?_))
      try go_frame
      refine quiet_next rfl (fun K hK => quiet_val (.int .i64 ((k : Int) + 2)) (fun w' h => by go_simp) (hK _ ?_))
      try go_frame
      refine quiet_next rfl (fun K hK => quiet_val (.pointer (some ⟨xb, xo + (k + 2), none⟩)) (fun w' h => by go_simp) (hK _ ?_))
      try go_frame
      refine quiet_next rfl (fun K hK => quiet_val (.int .i64 (qb : Int)) (fun w' h => by obtain ⟨_, c1, c2, c3⟩ := HC2.out w' h; go_simp) (hK _ ?_))
      try go_frame
      refine quiet_next rfl (fun K hK => quiet_call 79 #[.agg W.cells, .int .i64 (qa : Int), .int .i64 (qv : Int), .int .i64 (qb : Int)] (.bool av) (fun w' h => by go_simp) (fun w' h => ?_) (hK _ ?_))
      · refine (HAD.out w').mono ?_
        rintro e w'' ⟨rfl, hb⟩
        exact ⟨rfl, h.trans (hb.mono h.size)⟩
      try go_frame
      refine quiet_next rfl (fun K hK => quiet_val (.bool (!av)) (fun w' h => by go_simp) (hK _ ?_))
      try go_frame
      refine wpQuiet_nil (fun wz hz => ?_)
      try go_frame
      have HZ := Lib.hid (HB.out.trans (hz.mono HB.out.size))
      clear hz
      cases av
      · have HF := Lib.hid (show actW W xs = false from decide_eq_false (fun q => by have := q k (by omega); rw [HAV.out] at this; cases this))
        go_wp2
        go_ret
        exact ⟨ret_bool HF.out.symm, HB0.out.trans (HZ.out.mono HB0.out.size)⟩
      · go_wp2
        go_roundw
        case rel => exact ⟨k + 1, by omega, by go_num, fun i hi h2 => by
          by_cases e : i = k
          · subst e; exact HAV.out
          · exact HA.out i (by omega) h2, HZ.out⟩
        case measure => simp [intOf]; omega
    · have HT := Lib.hid (show actW W xs = true from decide_eq_true (fun i hi => HA.out i (by omega) hi))
      go_wp2
      go_ret
      exact ⟨ret_bool HT.out.symm, HB0.out.trans (HB.out.mono HB0.out.size)⟩

/-- The web's words and the reference's. -/
theorem okTrW_is {P T : List (List Int)} (hn : IsNet P T) {set : List Int} (xs : List Int) : okTrW (wb P set) xs = okTrail P xs := by
  unfold okTrW okTrail
  show (okSet xs P.length && _) = _
  cases e : okSet xs P.length
  · rfl
  · rw [Bool.true_and, Bool.true_and, Bool.eq_iff_iff, decide_eq_true_eq, decide_eq_true_eq]
    constructor
    · intro h i hi
      rw [← adj_edge (set := set) (okSet_at e (show i < xs.length by omega)).2 (okSet_at e (show i + 1 < xs.length by omega)).2]; exact h i hi
    · intro h i hi
      rw [adj_edge (okSet_at e (show i < xs.length by omega)).2 (okSet_at e (show i + 1 < xs.length by omega)).2]; exact h i hi
theorem actW_is {P T : List (List Int)} (hn : IsNet P T) {set : List Int} (hok : okSet set P.length = true) {xs : List Int} (e : okSet xs P.length = true) : actW (wb P set) xs = actv P xs set := by
  unfold actW actv
  rw [Bool.eq_iff_iff, decide_eq_true_eq, decide_eq_true_eq]
  constructor
  · intro h i hi
    rw [← pass_is hn hok (okSet_at e (show i + 1 < xs.length by omega)).2]; exact h i hi
  · intro h i hi
    rw [pass_is hn hok (okSet_at e (show i + 1 < xs.length by omega)).2]; exact h i hi

end Go.Proofs.Ytghffnjnpgiicaa

/- Active. -/
namespace Go.Proofs.Ytghffnjnpgiicaa
open Go.RowKit

theorem NewInts.cap {B n cap : Nat} {ao : Option Addr} {w : World} {xs : List Int} (h : NewInts B w (.slice ao n cap) xs) : xs.length ≤ cap := by
  rcases h.own.2 with ⟨h1, h2⟩ | ⟨g, cap, cur, h1, _, _, h2, _⟩
  · simp at h1; omega
  · simp at h1; omega

/-- The arguments of Active are right. -/
def okAct (P T : List (List Int)) (xs set : List Int) : Bool := isNet P T && okSet set P.length && decide (2 ≤ xs.length) && okTrail P xs && !hasI set (nth xs 0) && !hasI set (nth xs (xs.length - 1))
def actI (P T : List (List Int)) (xs set : List Int) : Bool := okAct P T xs set && actv P xs set
def actE (P T : List (List Int)) (xs set : List Int) : Int := if okAct P T xs set = true then 0 else 2

theorem act_no {P T : List (List Int)} {xs set : List Int} (h : okAct P T xs set = false) : actI P T xs set = false ∧ actE P T xs set = 2 := by
  unfold actI actE; rw [h]; exact ⟨rfl, rfl⟩
theorem act_yes {P T : List (List Int)} {xs set : List Int} (h : okAct P T xs set = true) : actI P T xs set = actv P xs set ∧ actE P T xs set = 0 := by
  unfold actI actE; rw [h]; exact ⟨rfl, rfl⟩

/-- A new variable with a web in it. -/
theorem web_world (w2 : World) (W : Web) : ∃ w3, (w2.alloc (.cells Try.zeroCells102 102)).setRow w2.heap.size W.cells = w3 ∧ w3.heap[w2.heap.size]? = some (.cells W.cells 102 (0, 0)) ∧ Below w2.heap.size w2 w3 :=
  ⟨_, rfl, setRow_heap _ _ _ _ _ _ (heap_alloc_new _ _), below_setRow ((Below.refl _ _).alloc (Nat.le_refl _) _) (Nat.le_refl _) _⟩

theorem ret_bi {a : Bool} {b : Int} {c : Bool} {d : Int} (h : a = c) (h2 : b = d) : Ending.returned (.tuple #[.bool a, .int .i64 b]) = .returned (.tuple #[.bool c, .int .i64 d]) := by rw [h, h2]

set_option maxHeartbeats 4000000 in
set_option maxRecDepth 100000 in
theorem active_any (P T : List (List Int)) (v : Value) (xs set : List Int) (ao : Option Addr) (xb xo xc : Nat) (so : Option Addr) (sb sf sc : Nat) (w : World) (h : NetAt w v P T) (hX : IntsAt w ao xb xo xs) (hS : IntsAt w so sb sf set) :
    Calls Try.prog 32 #[v, .slice ao xs.length xc, .slice so set.length sc] w fun e w' => e = .returned (.tuple #[.bool (actI P T xs set), .int .i64 (actE P T xs set)]) ∧ Below w.heap.size w w' := by
  have HNet := Lib.hid h
  have HX := Lib.hid hX
  have HS := Lib.hid hS
  have hl := hX.len
  obtain ⟨pa, b, o, pc, A, B, O, C, ta, b', o', tc, A', B', O', C', rfl, hP, hT⟩ := h.ex
  have HBW := Lib.hid ((Below.refl w.heap.size w).alloc (Nat.le_refl _) (.cells #[.slice pa P.length pc, .slice ta T.length tc] 24))
  clear h hP hT hX hS
  cases hn : isNet P T
  · have HN' := Lib.hid hn
    have HR := Lib.hid (act_no (show okAct P T xs set = false by unfold okAct; rw [hn]; rfl))
    clear hn
    go_enter Try.func32, Try.ntmps32
    go_wp2_with fail
    refine (isNetwork_any P T _ _ (HNet.out.alloc _)).mono ?_
    rw [HN'.out]
    rintro e w1 ⟨rfl, hb1⟩
    have HB1 := Lib.hid (HBW.out.trans (hb1.mono (by simp)))
    clear hb1
    go_wp2
    go_ret2
    exact ⟨ret_bi HR.out.1.symm HR.out.2.symm, HB1.out⟩
  · have HN' := Lib.hid hn
    have HN := Lib.hid (of_decide_eq_true hn : IsNet P T)
    have h10 := HN.out.le
    clear hn
    go_enter Try.func32, Try.ntmps32
    go_wp2_with fail
    refine (isNetwork_any P T _ _ (HNet.out.alloc _)).mono ?_
    rw [HN'.out]
    rintro e w1 ⟨rfl, hb1⟩
    have HB1 := Lib.hid (HBW.out.trans (hb1.mono (by simp)))
    have c0 := (hb1.block w.heap.size (by simp)).trans (heap_alloc_new _ _)
    have C0 := Lib.hid c0
    obtain ⟨d0, d1, -, -⟩ := cells_of2 c0
    clear c0 hb1
    go_wp2_with fail
    refine (toMembers_any set P.length so sb sf sc _ (HS.out.below HB1.out (Nat.le_refl _)) h10).mono ?_
    rintro e w2 ⟨⟨m, rfl, hm⟩, hb2⟩
    have HM := Lib.hid hm
    have HB2 := Lib.hid (HB1.out.trans (hb2.mono HB1.out.size))
    have C2 := Lib.hid ((hb2.block _ (lt_of_block C0.out)).trans C0.out)
    clear hb2 d0 d1 C0 hm
    obtain ⟨w3, e3, hm3, hb3⟩ := mem_world w2 m
    have HW3 := Lib.hid e3
    have HM3 := Lib.hid hm3
    have HB3 := Lib.hid (HB2.out.trans (hb3.mono HB2.out.size))
    have c3 := (hb3.block _ (lt_of_block C2.out)).trans C2.out
    clear e3 hm3 hb3 C2
    cases e4 : okSet set P.length
    · have HR := Lib.hid (act_no (show okAct P T xs set = false by unfold okAct; rw [e4]; simp))
      clear e4 c3
      go_wp2_with (first
        | (refine wpList_store_row rfl 97 (.tmp 8) (.tmp 20) rfl w2.heap.size (memF m) rfl rfl 97 _ (heap_alloc_new _ _) (info_mem _) (old_mem _) (memF_all _) (wpList_world HW3.out ?_)))
      go_ret2
      exact ⟨ret_bi HR.out.1.symm HR.out.2.symm, HB3.out⟩
    · obtain rfl := HM.out e4
      have E4 := Lib.hid e4
      obtain ⟨d0, d1, -, -⟩ := cells_of2 c3
      clear e4 c3
      go_wp2_with (first
        | (refine wpList_store_row rfl 97 (.tmp 8) (.tmp 20) rfl w2.heap.size (memF fun v => hasI set (v : Int)) rfl rfl 97 _ (heap_alloc_new _ _) (info_mem _) (old_mem _) (memF_all _) (wpList_world HW3.out ?_))
        | (refine wpList_load_row rfl 97 (.tmp 8) rfl w2.heap.size rfl 97 (memF fun v => hasI set (v : Int)) (0, 0) _ HM3.out Try.underlying97 rfl (info_mem _) ?_))
      refine (newWeb_any P T _ _ _ (HNet.out.below HB3.out (Nat.le_refl _)) HN.out).mono ?_
      rintro e w4 ⟨rfl, hb4⟩
      obtain ⟨W, hW⟩ : ∃ W, (webOf P fun v : Nat => hasI set (v : Int)) = W := ⟨_, rfl⟩
      have hWB : W = wb P set := hW.symm
      have HWB := Lib.hid hWB
      have hwc : W.count ≤ 10 := by rw [hWB]; exact h10
      rw [hW]
      have HB4 := Lib.hid (HB3.out.trans (hb4.mono HB3.out.size))
      have HM4 := Lib.hid ((hb4.block _ (lt_of_block HM3.out)).trans HM3.out)
      clear hb4 d0 d1 hW hWB
      obtain ⟨w5, e5, hw5, hb5⟩ := web_world w4 W
      have HW5 := Lib.hid e5
      have HX5 := Lib.hid hw5
      have HB5 := Lib.hid (HB4.out.trans (hb5.mono HB4.out.size))
      have HM5 := Lib.hid ((hb5.block _ (lt_of_block HM4.out)).trans HM4.out)
      have hx5 := HX.out.below HB5.out (Nat.le_refl _)
      have hlt5 := lt_of_block HM5.out
      clear e5 hw5 hb5 HW3 HM3 HM4
      go_wp2_with (refine wpList_store_row rfl 102 (.tmp 10) (.tmp 26) rfl w4.heap.size W.cells ?_ ?_ 102 Try.zeroCells102 ?_ ?_ ?_ ?_ ?_; exact rfl; exact rfl; exact heap_alloc_new _ _; exact info_web _; exact old_web _; exact Web.cells_all _; refine wpList_world HW5.out ?_)
      by_cases h2 : xs.length < 2
      · have HR := Lib.hid (act_no (show okAct P T xs set = false by unfold okAct; rw [decide_eq_false (show ¬ 2 ≤ xs.length by omega)]; simp))
        have t2 : decide ((xs.length : Int) < 2) = true := decide_eq_true (by omega)
        clear hx5
        rw [t2]
        go_wp2
        go_ret2
        exact ⟨ret_bi HR.out.1.symm HR.out.2.symm, HB5.out⟩
      · have hlow : 2 ≤ xs.length := by omega
        have t2 : decide ((xs.length : Int) < 2) = false := decide_eq_false (by omega)
        obtain ⟨rfl, hxb⟩ := hx5.ptr (by omega)
        have ht := isTrail_any W xs (some ⟨xb, xo, none⟩) xb xo xc w5 hwc hx5
        have hti : okTrW W xs = okTrail P xs := by rw [HWB.out]; exact okTrW_is HN.out xs
        rw [hti] at ht
        clear hti h2
        cases e6 : okTrail P xs
        · rw [e6] at ht
          have HT := Lib.hid ht
          have HR := Lib.hid (act_no (show okAct P T xs set = false by unfold okAct; rw [e6]; simp))
          clear ht e6 hx5
          rw [t2]
          go_wp2_with (refine BigFrame.wpList_want (by kernel_rfl) (fun K hK => wp_load_row 102 (.tmp 10) rfl w4.heap.size rfl 102 W.cells (0, 0) _ HX5.out Try.underlying102 rfl (info_web _) (hK _ _ ?_)))
          refine HT.out.mono ?_
          rintro e w6 ⟨rfl, hb6⟩
          have HB6 := Lib.hid (HB5.out.trans (hb6.mono HB5.out.size))
          clear hb6
          go_wp2
          go_ret2
          exact ⟨ret_bi HR.out.1.symm HR.out.2.symm, HB6.out⟩
        · rw [e6] at ht
          have HT := Lib.hid ht
          have E6 := Lib.hid e6
          have hoks : okSet xs P.length = true := by unfold okTrail at e6; rw [Bool.and_eq_true] at e6; exact e6.1
          have HOKS := Lib.hid hoks
          obtain ⟨ea, ha⟩ := okSet_at hoks (show 0 < xs.length by omega)
          obtain ⟨ez, hz⟩ := okSet_at hoks (show xs.length - 1 < xs.length by omega)
          have c0 := hx5.cell 0 (by omega)
          have c1 := hx5.cell (xs.length - 1) (by omega)
          rw [Nat.add_zero] at c0
          obtain ⟨qa, hqa⟩ : ∃ qa, at' xs 0 = qa := ⟨_, rfl⟩
          obtain ⟨qz, hqz⟩ : ∃ qz, at' xs (xs.length - 1) = qz := ⟨_, rfl⟩
          rw [hqa] at ea ha
          rw [hqz] at ez hz
          rw [ea] at c0
          rw [ez] at c1
          have HEA := Lib.hid ea
          have HEZ := Lib.hid ez
          have ha10 : qa < 10 := by omega
          have hz10 : qz < 10 := by omega
          have hk1 : ((xs.length : Int) - 1).toNat = xs.length - 1 := by omega
          have i1 : (0 : Int) ≤ (xs.length : Int) - 1 := by omega
          have i2 : (xs.length : Int) - 1 < (xs.length : Int) := by omega
          have hlt4 : xb < w5.heap.size := hxb
          have HXW : Hid (∀ w', Below w5.heap.size w5 w' → w'.cell? ⟨xb, xo, none⟩ = some (.int .i64 (qa : Int)) ∧ w'.cell? ⟨xb, xo + (xs.length - 1), none⟩ = some (.int .i64 (qz : Int)) ∧ w'.cell? ⟨w2.heap.size, qa, none⟩ = some (.bool (hasI set (qa : Int))) ∧ w'.cell? ⟨w2.heap.size, qz, none⟩ = some (.bool (hasI set (qz : Int)))) :=
            fun w' hb => ⟨(hb.cell (p := ⟨xb, xo, none⟩) hlt4).trans c0, (hb.cell (p := ⟨xb, xo + (xs.length - 1), none⟩) hlt4).trans c1,
              by rw [cell_of_row _ _ _ _ _ _ ((hb.block _ hlt5).trans HM5.out), memF, arrF_get ha10], by rw [cell_of_row _ _ _ _ _ _ ((hb.block _ hlt5).trans HM5.out), memF, arrF_get hz10]⟩
          clear ht e6 hoks ea ez c0 c1 hqa hqz hx5
          rw [t2]
          go_wp2_with (refine BigFrame.wpList_want (by kernel_rfl) (fun K hK => wp_load_row 102 (.tmp 10) rfl w4.heap.size rfl 102 W.cells (0, 0) _ HX5.out Try.underlying102 rfl (info_web _) (hK _ _ ?_)))
          refine HT.out.mono ?_
          rintro e w6 ⟨rfl, hb6⟩
          have HB6 := Lib.hid (HB5.out.trans (hb6.mono HB5.out.size))
          have HX6 := Lib.hid ((hb6.block _ (lt_of_block HX5.out)).trans HX5.out)
          obtain ⟨c0, c1, c2, c3⟩ := HXW.out w6 hb6
          have hx6 := (HX.out.below HB6.out (Nat.le_refl _))
          have HX6' := Lib.hid hx6
          clear hb6 hx6
          cases e7 : hasI set (qa : Int)
          · rw [e7] at c2
            cases e8 : hasI set (qz : Int)
            · rw [e8] at c3
              have HR := Lib.hid (act_yes (show okAct P T xs set = true by unfold okAct; rw [HN'.out, E4.out, decide_eq_true hlow, E6.out, HEA.out, HEZ.out, e7, e8]; rfl))
              clear e7 e8
              have hac := isActive_any W xs (some ⟨xb, xo, none⟩) xb xo xc w6 hwc HX6'.out (by rw [HWB.out]; exact HOKS.out)
              have hai : actW W xs = actv P xs set := by rw [HWB.out]; exact actW_is HN.out E4.out HOKS.out
              rw [hai] at hac
              have HAC := Lib.hid hac
              clear hac hai
              go_wp2_with (first
                | (refine wpList_load_row rfl 102 (.tmp 10) rfl w4.heap.size rfl 102 W.cells (0, 0) _ HX6.out Try.underlying102 rfl (info_web _) ?_))
              refine HAC.out.mono ?_
              rintro e w7 ⟨rfl, hb7⟩
              have HB7 := Lib.hid (HB6.out.trans (hb7.mono HB6.out.size))
              clear hb7
              go_wp2
              go_ret2
              exact ⟨ret_bi HR.out.1.symm HR.out.2.symm, HB7.out⟩
            · rw [e8] at c3
              have HR := Lib.hid (act_no (show okAct P T xs set = false by unfold okAct; rw [HEZ.out, e8]; simp))
              clear e7 e8
              go_wp2
              go_ret2
              exact ⟨ret_bi HR.out.1.symm HR.out.2.symm, HB6.out⟩
          · rw [e7] at c2
            have HR := Lib.hid (act_no (show okAct P T xs set = false by unfold okAct; rw [HEA.out, e7]; simp))
            clear e7 c3
            go_wp2
            go_ret2
            exact ⟨ret_bi HR.out.1.symm HR.out.2.symm, HB6.out⟩

end Go.Proofs.Ytghffnjnpgiicaa

