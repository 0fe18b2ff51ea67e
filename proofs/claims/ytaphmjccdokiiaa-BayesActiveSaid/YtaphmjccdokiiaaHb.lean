/- isTrail and isActive. -/
import Derived.Test.YtaphmjccdokiiaaDb
namespace Go.Proofs.Ytaphmjccdokiiaa
open Go.RowKit

/-- The list is a trail of the web. -/
def okTrW (W : Web) (xs : List Int) : Bool := okSet xs W.count && decide (∀ i, i < xs.length - 1 → W.adj (at' xs i) (at' xs (i + 1)) = true)
/-- The trail is active in the web. -/
def actW (W : Web) (xs : List Int) : Bool := decide (∀ i, i < xs.length - 2 → W.pass (at' xs i) (at' xs (i + 1)) (at' xs (i + 2)) = true)

set_option maxHeartbeats 4000000 in
set_option maxRecDepth 100000 in
theorem isTrail_any (W : Web) (xs : List Int) (ao : Option Addr) (xb xo xc : Nat) (w : World) (hc : W.count ≤ 10) (hX : IntsAt w ao xb xo xs) :
    Calls Try.prog 64 #[.agg W.cells, .slice ao xs.length xc] w fun e w' => e = .returned (.bool (okTrW W xs)) ∧ Below w.heap.size w w' := by
  have HX := Lib.hid hX
  have hl := hX.len
  have hw0 := heap_alloc_new w (.cells W.cells 102)
  have HBX := Lib.hid hw0
  have c0 : (w.alloc (.cells W.cells 102)).cell? ⟨w.heap.size, 0, none⟩ = some (.int .i64 W.count) := by rw [web_cell hw0 (by omega)]; rfl
  have hB0 : Below w.heap.size w (w.alloc (.cells W.cells 102)) := (Below.refl _ _).alloc (Nat.le_refl _) _
  have HB0 := Lib.hid hB0
  clear hX hw0 hB0
  go_enter Try.func64, Try.ntmps64
  go_wp2_with fail
  refine (toMembers_any xs W.count ao xb xo xc _ (HX.out.alloc _) hc).mono ?_
  rintro e w2 ⟨⟨m, rfl, -⟩, hb2⟩
  have HB2 := Lib.hid (HB0.out.trans (hb2.mono HB0.out.size))
  have HBX2 := Lib.hid ((hb2.block _ (lt_of_block HBX.out)).trans HBX.out)
  clear hb2 c0
  obtain ⟨w3, e3, hm3, hb3⟩ := mem_world w2 m
  have HW3 := Lib.hid e3
  have HB3 := Lib.hid (HB2.out.trans (hb3.mono HB2.out.size))
  have HBX3 := Lib.hid ((hb3.block _ (lt_of_block HBX2.out)).trans HBX2.out)
  clear e3 hm3 hb3
  cases e1 : okSet xs W.count
  · have HF := Lib.hid (show okTrW W xs = false by unfold okTrW; rw [e1]; rfl)
    clear e1
    go_wp2_with (first
      | (refine wpList_store_row rfl 97 (.tmp 5) (.tmp 13) rfl w2.heap.size (memF m) rfl rfl 97 _ (heap_alloc_new _ _) (info_mem _) (old_mem _) (memF_all _) (wpList_world HW3.out ?_)))
    go_ret
    exact ⟨ret_bool HF.out.symm, HB3.out⟩
  · have HOK := Lib.hid e1
    clear e1
    go_wp2_with (first
      | (refine wpList_store_row rfl 97 (.tmp 5) (.tmp 13) rfl w2.heap.size (memF m) rfl rfl 97 _ (heap_alloc_new _ _) (info_mem _) (old_mem _) (memF_all _) (wpList_world HW3.out ?_)))
    go_loopw [7] (fun i wr => ∃ k : Nat, k ≤ xs.length ∧ i = .int .i64 ((k : Int) + 1) ∧ (∀ i, i < k → i < xs.length - 1 → W.adj (at' xs i) (at' xs (i + 1)) = true) ∧ Below w3.heap.size w3 wr) (fun i _ => xs.length + 1 - (intOf i).toNat)
    case atStart => exact ⟨0, by omega, rfl, fun j hj => absurd hj (by omega), Below.refl _ _⟩
    case round =>
      obtain ⟨k, hk, rfl, ha, hb⟩ := hrel
      have HA := Lib.hid ha
      have HB := Lib.hid hb
      have HBW := Lib.hid (HB3.out.trans (hb.mono HB3.out.size))
      have HBXr := Lib.hid ((hb.block _ (lt_of_block HBX3.out)).trans HBX3.out)
      clear ha hb
      by_cases hlt : k + 1 < xs.length
      · have hlt' : ((k : Int) + 1) < (xs.length : Int) := by omega
        have hX' := HX.out.below HBW.out (Nat.le_refl _)
        obtain ⟨rfl, hxb⟩ := hX'.ptr (by omega)
        obtain ⟨ea, ha⟩ := okSet_at HOK.out (show k < xs.length by omega)
        obtain ⟨eb, hb⟩ := okSet_at HOK.out hlt
        have d0 := hX'.cell k (by omega)
        have d1 := hX'.cell (k + 1) hlt
        obtain ⟨qa, hqa⟩ : ∃ qa, at' xs k = qa := ⟨_, rfl⟩
        obtain ⟨qb, hqb⟩ : ∃ qb, at' xs (k + 1) = qb := ⟨_, rfl⟩
        rw [hqa] at ea ha
        rw [hqb] at eb hb
        rw [ea] at d0
        rw [eb] at d1
        have HAD := Lib.hid (fun w' => adjacent_any W qa qb w' (by omega) (by omega))
        obtain ⟨av, hav⟩ : ∃ av, W.adj qa qb = av := ⟨_, rfl⟩
        have HAV := Lib.hid (show W.adj (at' xs k) (at' xs (k + 1)) = av by rw [hqa, hqb]; exact hav)
        rw [hav] at HAD
        have HC2 : Hid (∀ w', Below wr.heap.size wr w' → w'.heap[w.heap.size]? = some (.cells W.cells 102 (0, 0)) ∧ w'.cell? ⟨xb, xo + k, none⟩ = some (.int .i64 (qa : Int)) ∧ w'.cell? ⟨xb, xo + (k + 1), none⟩ = some (.int .i64 (qb : Int))) :=
          fun w' h => ⟨(h.block _ (lt_of_block HBXr.out)).trans HBXr.out, (h.cell (p := ⟨xb, xo + k, none⟩) hxb).trans d0, (h.cell (p := ⟨xb, xo + (k + 1), none⟩) hxb).trans d1⟩
        have hk1 : ((k : Int) + 1).toNat = k + 1 := by omega
        have i0 : (0 : Int) ≤ (k : Int) + 1 := by omega
        have i1 : k < xs.length := by omega
        clear hX' ea eb d0 d1 hqa hqb hav
        go_wp2
        refine wp_region_quiet (C := fun w' => Below wr.heap.size wr w') (by kernel_rfl) (by kernel_rfl) (Below.refl _ _).drew ?_
        refine quiet_next rfl (fun K hK => quiet_load 102 (.tmp 2) rfl w.heap.size rfl 102 W.cells (0, 0) _ (fun w' h => (HC2.out w' h).1) Try.underlying102 rfl (info_web _) (hK _ ?_))
        try go_frame
        refine quiet_next rfl (fun K hK => quiet_val (.slice (some ⟨xb, xo, none⟩) xs.length xc) (fun w' h => by go_simp) (hK _ ?_))
        try go_frame
        refine quiet_next rfl (fun K hK => quiet_val (.int .i64 ((k : Int) + 1)) (fun w' h => by go_simp) (hK _ ?_))
        try go_frame
        refine quiet_next rfl (fun K hK => quiet_val (.int .i64 (k : Int)) (fun w' h => by go_simp; exact IntWalk.i64_in _ (by omega)) (hK _ ?_))
        try go_frame
        refine quiet_next rfl (fun K hK => quiet_val (.pointer (some ⟨xb, xo + k, none⟩)) (fun w' h => by go_simp) (hK _ ?_))
        try go_frame
        refine quiet_next rfl (fun K hK => quiet_val (.int .i64 (qa : Int)) (fun w' h => by obtain ⟨_, c1, c2⟩ := HC2.out w' h; go_simp) (hK _ ?_))
        try go_frame
        refine quiet_next rfl (fun K hK => quiet_val (.slice (some ⟨xb, xo, none⟩) xs.length xc) (fun w' h => by go_simp) (hK _ ?_))
        try go_frame
        refine quiet_next rfl (fun K hK => quiet_val (.int .i64 ((k : Int) + 1)) (fun w' h => by go_simp) (hK _ ?_))
        try go_frame
        refine quiet_next rfl (fun K hK => quiet_val (.pointer (some ⟨xb, xo + (k + 1), none⟩)) (fun w' h => by go_simp) (hK _ ?_))
        try go_frame
        refine quiet_next rfl (fun K hK => quiet_val (.int .i64 (qb : Int)) (fun w' h => by obtain ⟨_, c1, c2⟩ := HC2.out w' h; go_simp) (hK _ ?_))
        try go_frame
        refine quiet_next rfl (fun K hK => quiet_call 77 #[.agg W.cells, .int .i64 (qa : Int), .int .i64 (qb : Int)] (.bool av) (fun w' h => by go_simp) (fun w' h => ?_) (hK _ ?_))
        · refine (HAD.out w').mono ?_
          rintro e w'' ⟨rfl, hb⟩
          exact ⟨rfl, h.trans (hb.mono h.size)⟩
        try go_frame
        refine quiet_next rfl (fun K hK => quiet_val (.bool (!av)) (fun w' h => by go_simp) (hK _ ?_))
        try go_frame
        refine wpQuiet_nil (fun wz hz => ?_)
        try go_frame
        have HZ := Lib.hid (HB.out.trans (hz.mono HB.out.size))
        clear hz
        cases av
        · have HF := Lib.hid (show okTrW W xs = false by
            unfold okTrW
            rw [HOK.out, Bool.true_and]
            exact decide_eq_false (fun q => by have := q k (by omega); rw [HAV.out] at this; cases this))
          go_wp2
          go_ret
          exact ⟨ret_bool HF.out.symm, HB3.out.trans (HZ.out.mono HB3.out.size)⟩
        · go_wp2
          go_roundw
          case rel => exact ⟨k + 1, by omega, by go_num, fun i hi h2 => by
            by_cases e : i = k
            · subst e; exact HAV.out
            · exact HA.out i (by omega) h2, HZ.out⟩
          case measure => simp [intOf]; omega
      · have HT := Lib.hid (show okTrW W xs = true by
          unfold okTrW
          rw [HOK.out, Bool.true_and]
          exact decide_eq_true (fun i hi => HA.out i (by omega) hi))
        go_wp2
        go_ret
        exact ⟨ret_bool HT.out.symm, HBW.out⟩

set_option maxHeartbeats 4000000 in
set_option maxRecDepth 100000 in
theorem isActive_any (W : Web) (xs : List Int) (ao : Option Addr) (xb xo xc : Nat) (w : World) (hc : W.count ≤ 10) (hX : IntsAt w ao xb xo xs) (hok : okSet xs W.count = true) :
    Calls Try.prog 65 #[.agg W.cells, .slice ao xs.length xc] w fun e w' => e = .returned (.bool (actW W xs)) ∧ Below w.heap.size w w' := by
  have HX := Lib.hid hX
  have HOK := Lib.hid hok
  have hl := hX.len
  have hw0 := heap_alloc_new w (.cells W.cells 102)
  have HBX := Lib.hid hw0
  have hB0 : Below w.heap.size w (w.alloc (.cells W.cells 102)) := (Below.refl _ _).alloc (Nat.le_refl _) _
  have HB0 := Lib.hid hB0
  have HXa := Lib.hid (hX.alloc (.cells W.cells 102))
  obtain ⟨wa, hwa⟩ : ∃ wa, w.alloc (.cells W.cells 102) = wa := ⟨_, rfl⟩
  rw [hwa] at HBX HB0 HXa
  have HWA := Lib.hid hwa
  clear hX hw0 hB0 hwa hok
  go_enter Try.func65, Try.ntmps65
  go_wp2
  rw [HWA.out]
  go_loopw [5] (fun i wr => ∃ k : Nat, k ≤ xs.length ∧ i = .int .i64 ((k : Int) + 2) ∧ (∀ i, i < k → i < xs.length - 2 → W.pass (at' xs i) (at' xs (i + 1)) (at' xs (i + 2)) = true) ∧ Below wa.heap.size wa wr) (fun i _ => xs.length + 2 - (intOf i).toNat)
  case atStart => exact ⟨0, by omega, rfl, fun j hj => absurd hj (by omega), Below.refl _ _⟩
  case round =>
    obtain ⟨k, hk, rfl, ha, hb⟩ := hrel
    have HA := Lib.hid ha
    have HB := Lib.hid hb
    have HBXr := Lib.hid ((hb.block _ (lt_of_block HBX.out)).trans HBX.out)
    clear ha hb
    by_cases hlt : k + 2 < xs.length
    · have hlt' : ((k : Int) + 2) < (xs.length : Int) := by omega
      have hX' := HXa.out.below HB.out (Nat.le_refl _)
      obtain ⟨rfl, hxb⟩ := hX'.ptr (by omega)
      obtain ⟨ea, ha⟩ := okSet_at HOK.out (show k < xs.length by omega)
      obtain ⟨ev, hv⟩ := okSet_at HOK.out (show k + 1 < xs.length by omega)
      obtain ⟨eb, hb⟩ := okSet_at HOK.out hlt
      have d0 := hX'.cell k (by omega)
      have d1 := hX'.cell (k + 1) (by omega)
      have d2 := hX'.cell (k + 2) hlt
      obtain ⟨qa, hqa⟩ : ∃ qa, at' xs k = qa := ⟨_, rfl⟩
      obtain ⟨qv, hqv⟩ : ∃ qv, at' xs (k + 1) = qv := ⟨_, rfl⟩
      obtain ⟨qb, hqb⟩ : ∃ qb, at' xs (k + 2) = qb := ⟨_, rfl⟩
      rw [hqa] at ea ha
      rw [hqv] at ev hv
      rw [hqb] at eb hb
      rw [ea] at d0
      rw [ev] at d1
      rw [eb] at d2
      have HAD := Lib.hid (fun w' => passes_any W qa qv qb w' (by omega) (by omega) (by omega))
      obtain ⟨av, hav⟩ : ∃ av, W.pass qa qv qb = av := ⟨_, rfl⟩
      have HAV := Lib.hid (show W.pass (at' xs k) (at' xs (k + 1)) (at' xs (k + 2)) = av by rw [hqa, hqv, hqb]; exact hav)
      rw [hav] at HAD
      have HC2 : Hid (∀ w', Below wr.heap.size wr w' → w'.heap[w.heap.size]? = some (.cells W.cells 102 (0, 0)) ∧ w'.cell? ⟨xb, xo + k, none⟩ = some (.int .i64 (qa : Int)) ∧ w'.cell? ⟨xb, xo + (k + 1), none⟩ = some (.int .i64 (qv : Int)) ∧ w'.cell? ⟨xb, xo + (k + 2), none⟩ = some (.int .i64 (qb : Int))) :=
        fun w' h => ⟨(h.block _ (lt_of_block HBXr.out)).trans HBXr.out, (h.cell (p := ⟨xb, xo + k, none⟩) hxb).trans d0, (h.cell (p := ⟨xb, xo + (k + 1), none⟩) hxb).trans d1, (h.cell (p := ⟨xb, xo + (k + 2), none⟩) hxb).trans d2⟩
      have hk1 : ((k : Int) + 1).toNat = k + 1 := by omega
      have hk2 : ((k : Int) + 2).toNat = k + 2 := by omega
      have i0 : (0 : Int) ≤ (k : Int) + 1 := by omega
      have i1 : k < xs.length := by omega
      have i2 : (k : Int) + 1 < (xs.length : Int) := by omega
      have i3 : (0 : Int) ≤ (k : Int) + 2 := by omega
      clear hX' ea ev eb d0 d1 d2 hqa hqv hqb hav
      go_wp2
      refine wp_region_quiet (C := fun w' => Below wr.heap.size wr w') (by kernel_rfl) (by kernel_rfl) (Below.refl _ _).drew ?_
      refine quiet_next rfl (fun K hK => quiet_load 102 (.tmp 2) rfl w.heap.size rfl 102 W.cells (0, 0) _ (fun w' h => (HC2.out w' h).1) Try.underlying102 rfl (info_web _) (hK _ ?_))
      try go_frame
      refine quiet_next rfl (fun K hK => quiet_val (.slice (some ⟨xb, xo, none⟩) xs.length xc) (fun w' h => by go_simp) (hK _ ?_))
      try go_frame
      refine quiet_next rfl (fun K hK => quiet_val (.int .i64 ((k : Int) + 2)) (fun w' h => by go_simp) (hK _ ?_))
      try go_frame
      refine quiet_next rfl (fun K hK => quiet_val (.int .i64 (k : Int)) (fun w' h => by go_simp; exact IntWalk.i64_in _ (by omega)) (hK _ ?_))
      try go_frame
      refine quiet_next rfl (fun K hK => quiet_val (.pointer (some ⟨xb, xo + k, none⟩)) (fun w' h => by go_simp) (hK _ ?_))
      try go_frame
      refine quiet_next rfl (fun K hK => quiet_val (.int .i64 (qa : Int)) (fun w' h => by obtain ⟨_, c1, c2, c3⟩ := HC2.out w' h; go_simp) (hK _ ?_))
      try go_frame
      refine quiet_next rfl (fun K hK => quiet_val (.slice (some ⟨xb, xo, none⟩) xs.length xc) (fun w' h => by go_simp) (hK _ ?_))
      try go_frame
      refine quiet_next rfl (fun K hK => quiet_val (.int .i64 ((k : Int) + 2)) (fun w' h => by go_simp) (hK _ ?_))
      try go_frame
      refine quiet_next rfl (fun K hK => quiet_val (.int .i64 ((k : Int) + 1)) (fun w' h => by go_simp; rw [IntWalk.i64_in _ (by omega)]; omega) (hK _ ?_))
      try go_frame
      refine quiet_next rfl (fun K hK => quiet_val (.pointer (some ⟨xb, xo + (k + 1), none⟩)) (fun w' h => by go_simp) (hK _ ?_))
      try go_frame
      refine quiet_next rfl (fun K hK => quiet_val (.int .i64 (qv : Int)) (fun w' h => by obtain ⟨_, c1, c2, c3⟩ := HC2.out w' h; go_simp) (hK _ ?_))
      try go_frame
      refine quiet_next rfl (fun K hK => quiet_val (.slice (some ⟨xb, xo, none⟩) xs.length xc) (fun w' h => by go_simp) (hK _ ?_))
      try go_frame
      refine quiet_next rfl (fun K hK => quiet_val (.int .i64 ((k : Int) + 2)) (fun w' h => by go_simp) (hK _ ?_))
      try go_frame
      refine quiet_next rfl (fun K hK => quiet_val (.pointer (some ⟨xb, xo + (k + 2), none⟩)) (fun w' h => by go_simp) (hK _ ?_))
      try go_frame
      refine quiet_next rfl (fun K hK => quiet_val (.int .i64 (qb : Int)) (fun w' h => by obtain ⟨_, c1, c2, c3⟩ := HC2.out w' h; go_simp) (hK _ ?_))
      try go_frame
      refine quiet_next rfl (fun K hK => quiet_call 79 #[.agg W.cells, .int .i64 (qa : Int), .int .i64 (qv : Int), .int .i64 (qb : Int)] (.bool av) (fun w' h => by go_simp) (fun w' h => ?_) (hK _ ?_))
      · refine (HAD.out w').mono ?_
        rintro e w'' ⟨rfl, hb⟩
        exact ⟨rfl, h.trans (hb.mono h.size)⟩
      try go_frame
      refine quiet_next rfl (fun K hK => quiet_val (.bool (!av)) (fun w' h => by go_simp) (hK _ ?_))
      try go_frame
      refine wpQuiet_nil (fun wz hz => ?_)
      try go_frame
      have HZ := Lib.hid (HB.out.trans (hz.mono HB.out.size))
      clear hz
      cases av
      · have HF := Lib.hid (show actW W xs = false from decide_eq_false (fun q => by have := q k (by omega); rw [HAV.out] at this; cases this))
        go_wp2
        go_ret
        exact ⟨ret_bool HF.out.symm, HB0.out.trans (HZ.out.mono HB0.out.size)⟩
      · go_wp2
        go_roundw
        case rel => exact ⟨k + 1, by omega, by go_num, fun i hi h2 => by
          by_cases e : i = k
          · subst e; exact HAV.out
          · exact HA.out i (by omega) h2, HZ.out⟩
        case measure => simp [intOf]; omega
    · have HT := Lib.hid (show actW W xs = true from decide_eq_true (fun i hi => HA.out i (by omega) hi))
      go_wp2
      go_ret
      exact ⟨ret_bool HT.out.symm, HB0.out.trans (HB.out.mono HB0.out.size)⟩

/-- The web's words and the reference's. -/
theorem okTrW_is {P T : List (List Int)} (hn : IsNet P T) {set : List Int} (xs : List Int) : okTrW (wb P set) xs = okTrail P xs := by
  unfold okTrW okTrail
  show (okSet xs P.length && _) = _
  cases e : okSet xs P.length
  · rfl
  · rw [Bool.true_and, Bool.true_and, Bool.eq_iff_iff, decide_eq_true_eq, decide_eq_true_eq]
    constructor
    · intro h i hi
      rw [← adj_edge (set := set) (okSet_at e (show i < xs.length by omega)).2 (okSet_at e (show i + 1 < xs.length by omega)).2]; exact h i hi
    · intro h i hi
      rw [adj_edge (okSet_at e (show i < xs.length by omega)).2 (okSet_at e (show i + 1 < xs.length by omega)).2]; exact h i hi
theorem actW_is {P T : List (List Int)} (hn : IsNet P T) {set : List Int} (hok : okSet set P.length = true) {xs : List Int} (e : okSet xs P.length = true) : actW (wb P set) xs = actv P xs set := by
  unfold actW actv
  rw [Bool.eq_iff_iff, decide_eq_true_eq, decide_eq_true_eq]
  constructor
  · intro h i hi
    rw [← pass_is hn hok (okSet_at e (show i + 1 < xs.length by omega)).2]; exact h i hi
  · intro h i hi
    rw [pass_is hn hok (okSet_at e (show i + 1 < xs.length by omega)).2]; exact h i hi

end Go.Proofs.Ytaphmjccdokiiaa
