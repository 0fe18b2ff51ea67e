/- forced: the walk. -/
import Derived.Test.YtaphmjccdokiiaaLb
import Derived.Deep.RegionHeld3
import Derived.Deep.Cut
import Derived.Deep.CutRange
namespace Go.Proofs.Ytaphmjccdokiiaa
open Go.RowKit

theorem below_dr {B : Nat} {w0 w : World} (h : Below B w0 w) : Below B w0 w.drew := h.trans ⟨rfl, rfl, rfl, Nat.le_refl _, fun _ _ => rfl⟩

theorem row_set {xss : List (List Int)} {k j : Nat} {xs : List Int} (hk : k < xss.length) : row (xss.set k xs) j = if j = k then xs else row xss j := by
  unfold row
  simp only [List.getD_eq_getElem?_getD, List.getElem?_set]
  by_cases e : j = k
  · subst e; simp [hk]
  · rw [if_neg (fun q => e q.symm), if_neg e]

theorem NewInts.except {B : Nat} {w w' : World} {u : Value} {xs : List Int} (a : Nat) (h : NewInts B w u xs) (hh : ∀ g, g ≠ a → B ≤ g → g < w.heap.size → w'.heap[g]? = w.heap[g]?) (ht : ∀ cs fr, w.heap[a]? ≠ some (.cells cs 3 fr)) : NewInts B w' u xs := by
  refine ⟨⟨h.own.1, ?_⟩, h.wf, h.len⟩
  rcases h.own.2 with h2 | ⟨g, cap, cur, h1, h2, h3, h4⟩
  · exact .inl h2
  · exact .inr ⟨g, cap, cur, h1, h2, (hh g (fun e => ht _ _ (e ▸ h3)) h2 (lt_of_block h3)).trans h3, h4⟩

theorem NewRows.except {B : Nat} {w w' : World} {v : Value} {xss : List (List Int)} (a : Nat) (h : NewRows B w v xss) (hh : ∀ g, g ≠ a → B ≤ g → g < w.heap.size → w'.heap[g]? = w.heap[g]?) (hv : v.ownBlock ≠ some a) (ht : ∀ cs fr, w.heap[a]? ≠ some (.cells cs 3 fr)) : NewRows B w' v xss := by
  obtain ⟨vs, h1, h2, h3⟩ := h.ex
  refine ⟨vs, ⟨h1.1, ?_⟩, fun j hj => let ⟨u, e, hu⟩ := h2 j hj; ⟨u, e, hu.except a hh ht⟩, h3⟩
  rcases h1.2 with q | ⟨g, cap, cur, q1, q2, q3, q4⟩
  · exact .inl q
  · refine .inr ⟨g, cap, cur, q1, q2, (hh g (fun e => hv ?_) q2 (lt_of_block q3)).trans q3, q4⟩
    rw [q1]; simp [Value.ownBlock, e]

theorem NewRows.put {B : Nat} {w : World} {g cap k : Nat} {xss : List (List Int)} {u : Value} {xs : List Int} (h : NewRows B w (.slice (some ⟨g, 0, none⟩) xss.length cap) xss) (hk : k < xss.length) (hu : NewInts B w u xs) :
    NewRows B (w.setCell ⟨g, k, none⟩ u) (.slice (some ⟨g, 0, none⟩) xss.length cap) (xss.set k xs) := by
  obtain ⟨vs, h1, h2, h3⟩ := h.ex
  rcases h1.2 with ⟨q, _⟩ | ⟨g', cap', cur, q1, q2, q3, q4, q5, q6, q7⟩
  · simp at q
  · simp at q1
    obtain ⟨rfl, rfl⟩ := q1
    have hl : vs.length = xss.length := by have := h1.1; omega
    have ht : ∀ cs fr, w.heap[g]? ≠ some (.cells cs 3 fr) := fun cs fr e => by rw [q3] at e; simp at e
    have hh : ∀ g', g' ≠ g → B ≤ g' → g' < w.heap.size → (w.setCell ⟨g, k, none⟩ u).heap[g']? = w.heap[g']? := fun g' e _ _ => heap_setCell_other _ _ _ _ e
    refine ⟨vs.set k u, ⟨by simp; omega, .inr ⟨g, cap, cur.setIfInBounds k u, by simp, q2, heap_setCell_same _ _ _ _ _ _ q3, by simpa using q4, q5, by simpa using q6, ?_⟩⟩, fun j hj => ?_, fun x hx => ?_⟩
    · refine List.ext_getElem? fun i => ?_
      have := congrArg (fun l : List Value => l[i]?) q7
      simp only [List.getElem?_take] at this ⊢
      simp only [List.length_set, Nat.mul_one, Array.toList_setIfInBounds, List.getElem?_set] at this ⊢
      by_cases hi : i < xss.length
      · rw [if_pos hi] at this ⊢
        by_cases e : k = i
        · subst e
          simp [hl, hk]; omega
        · rw [if_neg e, if_neg e]; exact this
      · rw [if_neg hi] at this ⊢
        rw [if_neg (by omega)]; exact this
    · rw [List.length_set] at hj
      rw [row_set hk]
      by_cases e : j = k
      · subst e
        rw [if_pos rfl]
        exact ⟨u, by simp [List.getElem?_set, hl, hk], hu.except g hh ht⟩
      · rw [if_neg e]
        obtain ⟨u', e1, e2⟩ := h2 j hj
        exact ⟨u', by rw [List.getElem?_set, if_neg (fun q => e q.symm)]; exact e1, e2.except g hh ht⟩
    · rcases List.mem_or_eq_of_mem_set hx with hx | hx
      · exact h3 x hx
      · rw [hx]; exact hu.oneCell

/-- What the first statement of forced leaves. -/
structure FGot (w wx : World) (P T : List (List Int)) (p : Value) : Prop where
  ex : ∃ nb g1 c1 g2 c2, p = .pointer (some ⟨nb, 0, none⟩) ∧ w.heap.size + 2 ≤ nb ∧ wx.heap[nb]? = some (.cells #[.slice (some ⟨g1, 0, none⟩) P.length c1, .slice (some ⟨g2, 0, none⟩) T.length c2] 24 (0, 0)) ∧
    NewRows (w.heap.size + 2) wx (.slice (some ⟨g1, 0, none⟩) P.length c1) P ∧ NewRows (w.heap.size + 2) wx (.slice (some ⟨g2, 0, none⟩) T.length c2) T ∧ g1 ≠ g2
  below : Below w.heap.size w wx
  res : wx.heap[w.heap.size + 1]? = some (.cells #[.slice none 0 0, .slice none 0 0] 24 (0, 0))

theorem rows_slice {B : Nat} {w : World} {v : Value} {xss : List (List Int)} (h : NewRows B w v xss) (hp : 0 < xss.length) : ∃ g cap, v = .slice (some ⟨g, 0, none⟩) xss.length cap ∧ B ≤ g ∧ g < w.heap.size := by
  obtain ⟨vs, h1, _⟩ := h.ex
  rcases h1.2 with ⟨_, h2⟩ | ⟨g, cap, cur, h1, h2, h3, _⟩
  · omega
  · exact ⟨g, cap, h1, h2, lt_of_block h3⟩

theorem FGot.mk' {w wx w1 w2 : World} {P T : List (List Int)} {v1 v2 : Value} {B1 B2 nb : Nat} (hp : 0 < P.length) (ht : 0 < T.length) (n1 : NewRows B1 w1 v1 P) (n2 : NewRows B2 w2 v2 T)
    (h12 : Below w1.heap.size w1 w2) (hB1 : w.heap.size + 2 ≤ B1) (hB2 : w1.heap.size ≤ B2) (k : ∀ g, g < w2.heap.size → g ≠ nb → wx.heap[g]? = w2.heap[g]?) (d1 : nb < B1 ∨ w1.heap.size ≤ nb) (d2 : nb < B2 ∨ w2.heap.size ≤ nb) (hnb : w.heap.size + 2 ≤ nb)
    (hn : wx.heap[nb]? = some (.cells #[v1, v2] 24 (0, 0))) (hb : Below w.heap.size w wx) (hr : wx.heap[w.heap.size + 1]? = some (.cells #[.slice none 0 0, .slice none 0 0] 24 (0, 0))) :
    FGot w wx P T (.pointer (some ⟨nb, 0, none⟩)) := by
  have s12 := h12.size
  obtain ⟨g1, c1, rfl, k1, k2⟩ := rows_slice n1 hp
  obtain ⟨g2, c2, rfl, k3, k4⟩ := rows_slice n2 ht
  exact ⟨⟨nb, g1, c1, g2, c2, rfl, hnb, hn, (n1.blocks fun g h1 h2 => by rw [k g (by omega) (by omega), h12.block g h2]).mono hB1, (n2.blocks fun g h1 h2 => k g h2 (by omega)).mono (by omega), by omega⟩, hb, hr⟩

/-- A cell of an outer list. -/
theorem rows_cell {B : Nat} {w : World} {g cap k : Nat} {xss : List (List Int)} (h : NewRows B w (.slice (some ⟨g, 0, none⟩) xss.length cap) xss) (hk : k < xss.length) : g < w.heap.size ∧ B ≤ g ∧ (∃ u, w.cell? ⟨g, k, none⟩ = some u) ∧ w.frozen? ⟨g, k, none⟩ = false ∧ ∀ cs fr, w.heap[g]? ≠ some (.cells cs 3 fr) := by
  obtain ⟨vs, h1, h2, h3⟩ := h.ex
  rcases h1.2 with ⟨q, _⟩ | ⟨g', cap', cur, q1, q2, q3, q4, q5, q6, q7⟩
  · simp at q
  · simp at q1
    obtain ⟨rfl, rfl⟩ := q1
    refine ⟨lt_of_block q3, q2, ⟨cur[k]'(by omega), ?_⟩, frozen_of_row _ _ _ _ _ q3, fun cs fr e => by rw [q3] at e; simp at e⟩
    rw [cell_of_row _ _ _ _ _ _ q3, Array.getElem?_eq_getElem (by omega)]

set_option maxHeartbeats 4000000 in
set_option maxRecDepth 100000 in
theorem forced_any (P T : List (List Int)) (v : Value) (x : Nat) (val : Int) (w : World) (h : NetAt w v P T) (hn : IsNet P T) (hx : x < P.length) (hv : val = 0 ∨ val = 1) :
    Calls Try.prog 67 #[v, .int .i64 x, .int .i64 val] w fun e w' => (∃ v1 v2, e = .returned (.agg #[v1, v2]) ∧ NewRows w.heap.size w' v1 (P.set x []) ∧ NewRows w.heap.size w' v2 (T.set x [16 * val])) ∧ Below w.heap.size w w' := by
  have HN := Lib.hid hn
  obtain ⟨pa, b, o, pc, A, B, O, C, ta, b', o', tc, A', B', O', C', rfl, hP, hT⟩ := h.ex
  have h10 := hn.le
  have htab := hn.tab
  have HTAB := Lib.hid htab
  obtain ⟨wa, hwa⟩ : ∃ wa, (w.alloc (.cells #[.slice pa P.length pc, .slice ta T.length tc] 24)).alloc (.cells #[.slice none 0 0, .slice none 0 0] 24) = wa := ⟨_, rfl⟩
  have HWA := Lib.hid hwa
  have hs : wa.heap.size = w.heap.size + 2 := by rw [← hwa]; simp
  have HS := Lib.hid hs
  have hb0 : Below w.heap.size w wa := by rw [← hwa]; exact ((Below.refl _ _).alloc (Nat.le_refl _) _).alloc (by simp) _
  have HB0 := Lib.hid hb0
  have HT2 := Lib.hid (show ∀ w', Below wa.heap.size wa w' → w'.heap[w.heap.size]? = some (.cells #[.slice pa P.length pc, .slice ta T.length tc] 24 (0, 0)) ∧ w'.heap[w.heap.size + 1]? = some (.cells #[.slice none 0 0, .slice none 0 0] 24 (0, 0)) from
    fun w' h => two2 (by rw [hwa]; exact h.mono (by omega)) (Nat.le_refl _))
  have HTC := Lib.hid (show ∀ w', Below wa.heap.size wa w' → w'.cell? ⟨w.heap.size, 0, none⟩ = some (.slice pa P.length pc) ∧ w'.cell? ⟨w.heap.size, 1, none⟩ = some (.slice ta T.length tc) from
    fun w' h => by obtain ⟨c0, c1, -, -⟩ := cells_of2 (HT2.out w' h).1; exact ⟨c0, c1⟩)
  have HPa := Lib.hid (hP.below hb0 (Nat.le_refl _))
  have HTa := Lib.hid (hT.below hb0 (Nat.le_refl _))
  have HLP := Lib.hid (show ∀ i, i < P.length → (row P i).length ≤ 1000 from fun i hi => by have := (hn.par i hi).1; omega)
  have HLT := Lib.hid (show ∀ i, i < T.length → (row T i).length ≤ 1000 from fun i hi => by
    have h1 := (hn.ok i (by omega)).1
    have h2 := (hn.par i (by omega)).1
    have h3 : 2 ^ (row P i).length ≤ 2 ^ 3 := Nat.pow_le_pow_right (by omega) h2
    omega)
  have HD := Lib.hid (below_dr (Below.refl wa.heap.size wa))
  have HDA := Lib.hid (below_dr ((Below.refl wa.heap.size wa).alloc (Nat.le_refl _) (.cells #[.slice none 0 0, .slice none 0 0] 24)))
  have HHA : Hid ((wa.alloc (.cells #[.slice none 0 0, .slice none 0 0] 24)).drew.heap[wa.heap.size]? = some (.cells #[.slice none 0 0, .slice none 0 0] 24 (0, 0))) := heap_alloc_new wa _
  have HCp := Lib.hid (show ∀ W, Below wa.heap.size wa W → Calls Try.prog 80 #[.slice pa P.length pc] W fun e w' => ∃ u, e = .returned u ∧ NewRows W.heap.size w' u P ∧ Below W.heap.size W w' ∧ Below wa.heap.size wa w' from
    fun W hW => (copied_any P pa b o pc A B O C W (HPa.out.below hW (Nat.le_refl _)) (by omega) HLP.out).mono fun e w' ⟨⟨u, h1, h2⟩, h3⟩ => ⟨u, h1, h2, h3, hW.trans (h3.mono hW.size)⟩)
  have HCt := Lib.hid (show ∀ W, Below wa.heap.size wa W → Calls Try.prog 80 #[.slice ta T.length tc] W fun e w' => ∃ u, e = .returned u ∧ NewRows W.heap.size w' u T ∧ Below W.heap.size W w' ∧ Below wa.heap.size wa w' from
    fun W hW => (copied_any T ta b' o' tc A' B' O' C' W (HTa.out.below hW (Nat.le_refl _)) (by omega) HLT.out).mono fun e w' ⟨⟨u, h1, h2⟩, h3⟩ => ⟨u, h1, h2, h3, hW.trans (h3.mono hW.size)⟩)
  have hpos : 0 < P.length := by omega
  have htos : 0 < T.length := by omega
  clear h hP hT hn hwa hs hb0 htab
  go_enter Try.func67, Try.ntmps67
  go_upto_region 1 with fail
  rw [HWA.out]
  go_cut [7] from 8 to 27 (fun p wx => FGot w wx P T p)
  case first =>
    go_region_held3 (fun w' => w'.cell? ⟨w.heap.size, 0, none⟩ = some (.slice pa P.length pc) ∧ w'.cell? ⟨w.heap.size, 1, none⟩ = some (.slice ta T.length tc))
      (first | exact HTC.out _ HB2.out | exact HTC.out _ (HB2.out.alloc HB2.out.size _) | exact HTC.out _ HB1.out | exact HTC.out _ (HB1.out.alloc HB1.out.size _) | exact HTC.out _ HD.out | exact HTC.out _ (HD.out.alloc HD.out.size _) | exact HTC.out _ ((HB2.out.setCell (p := ⟨_, 0, none⟩) (by first | exact HB1.out.size | exact HD.out.size) _).setCell (p := ⟨_, 1, none⟩) (by first | exact HB1.out.size | exact HD.out.size) _))
      (first
        | (go_simp; go_at_call 80; with_reducible refine (HCp.out _ HD.out).mono ?_; rintro e w1 ⟨v1, rfl, n1, -, hb1⟩; obtain ⟨g1, c1, rfl, -, -⟩ := rows_slice n1 hpos; have HB1 := Lib.hid hb1; have HN1 := Lib.hid n1; clear hb1 n1)
        | (go_simp; go_at_call 80; with_reducible refine (HCt.out _ HB1.out).mono ?_; rintro e w2 ⟨v2, rfl, n2, hb, hb2⟩; obtain ⟨g2, c2, rfl, -, -⟩ := rows_slice n2 htos; have HB12 := Lib.hid hb; have HB2 := Lib.hid hb2; have HN2 := Lib.hid n2; first | (have HH2 := Lib.hid ((HB12.out.block _ (lt_of_block HH1.out)).trans HH1.out); obtain ⟨z0, z1, z2, z3⟩ := cells_of2 HH2.out) | skip; clear hb hb2 n2)
        | (go_simp; go_at_call 80; with_reducible refine (HCt.out _ (HB1.out.alloc HB1.out.size _)).mono ?_; rintro e w2 ⟨v2, rfl, n2, hb, hb2⟩; obtain ⟨g2, c2, rfl, -, -⟩ := rows_slice n2 htos; have HH2 := Lib.hid ((hb.block w1.heap.size (by simp)).trans (heap_alloc_new w1 _)); have HB12 := Lib.hid (((Below.refl _ w1).alloc (Nat.le_refl _) _).trans (hb.mono (by simp))); have HB2 := Lib.hid hb2; have HN2 := Lib.hid n2; obtain ⟨z0, z1, z2, z3⟩ := cells_of2 HH2.out; clear hb hb2 n2)
        | (go_simp; go_at_call 80; with_reducible refine (HCp.out _ HDA.out).mono ?_; rintro e w1 ⟨v1, rfl, n1, hb, hb1⟩; obtain ⟨g1, c1, rfl, -, -⟩ := rows_slice n1 hpos; have HH1 := Lib.hid ((hb.block _ (lt_of_block HHA.out)).trans HHA.out); have HB1 := Lib.hid hb1; have HN1 := Lib.hid n1; clear hb hb1 n1))
    all_goals (go_wp2_with fail; go_meet)
    all_goals
      have s1 := HB12.out.size
      have s3 := HB1.out.size
      have s4 := HS.out
      try have s6 := lt_of_block HH2.out
      try have s7 := lt_of_block HH1.out
      have hres := (HT2.out _ HB2.out).2
      have hdr : ∀ z : World, z.drew.heap.size = z.heap.size := fun _ => rfl
    · refine FGot.mk' hpos htos HN1.out HN2.out HB12.out ?_ ?_ (fun g h1 h2 => Below.heap_alloc _ _ _ h1) ?_ ?_ ?_ (heap_alloc_new _ _) (HB0.out.trans ((HB2.out.alloc HB2.out.size _).mono (by omega))) ((Below.heap_alloc _ _ _ (by have := lt_of_block hres; omega)).trans hres)
      all_goals first | omega | (simp only [hdr, World.size_alloc]; omega)
    all_goals
      refine FGot.mk' hpos htos HN1.out HN2.out HB12.out ?_ ?_ (fun g h1 h2 => by rw [heap_setCell_other _ _ _ _ h2, heap_setCell_other _ _ _ _ h2]) ?_ ?_ ?_ (heap_setCell_same _ _ _ _ _ _ (heap_setCell_same _ _ _ _ _ _ HH2.out)) (HB0.out.trans (((HB2.out.setCell (p := ⟨_, 0, none⟩) ?_ _).setCell (p := ⟨_, 1, none⟩) ?_ _).mono (by omega))) ?_
      all_goals first | omega | (simp only [hdr, World.size_alloc]; omega) | (refine (heap_setCell_other _ _ _ _ ?_).trans ((heap_setCell_other _ _ _ _ ?_).trans hres) <;> (show w.heap.size + 1 ≠ _; first | omega | (simp only [hdr]; omega)))
  case rest =>
    obtain ⟨⟨nb, g1, c1, g2, c2, rfl, hnb, hblk, r1, r2, hne⟩, hbw, hres⟩ := hcut
    have hxT : x < T.length := by have := HTAB.out; omega
    obtain ⟨l1, l1', ⟨u1, k1⟩, f1, t1⟩ := rows_cell r1 hx
    obtain ⟨l2, l2', ⟨u2, k2⟩, f2, t2⟩ := rows_cell r2 hxT
    obtain ⟨d0, d1, -, -⟩ := cells_of2 hblk
    obtain ⟨e0, e1, fe0, fe1⟩ := cells_of2 hres
    have hlnb := lt_of_block hblk
    have hlres := lt_of_block hres
    have hng1 : nb ≠ g1 := fun e => by
      subst e
      rcases r1.ex with ⟨vs, q, _⟩
      rcases q.2 with ⟨q, _⟩ | ⟨g', cap', cur, q1, q2, q3, _⟩
      · simp at q
      · simp at q1; obtain ⟨rfl, rfl⟩ := q1; rw [hblk] at q3; simp at q3
    have hng2 : nb ≠ g2 := fun e => by
      subst e
      rcases r2.ex with ⟨vs, q, _⟩
      rcases q.2 with ⟨q, _⟩ | ⟨g', cap', cur, q1, q2, q3, _⟩
      · simp at q
      · simp at q1; obtain ⟨rfl, rfl⟩ := q1; rw [hblk] at q3; simp at q3
    have HBLK := Lib.hid hblk
    have HR1 := Lib.hid r1
    have HR2 := Lib.hid r2
    have HT1 := Lib.hid t1
    have HTT2 := Lib.hid t2
    have HBW := Lib.hid hbw
    have HRES := Lib.hid hres
    have hng1' := hng1.symm
    have hng2' := hng2.symm
    have hne' := hne.symm
    have hr1 : w.heap.size + 1 ≠ g1 := by omega
    have hr2 : w.heap.size + 1 ≠ g2 := by omega
    have hr3 : w.heap.size + 1 ≠ nb := by omega
    clear hblk r1 r2 t1 t2 hbw hres HCp HCt HPa HTa HD HDA HHA HT2 HTC HWA HB0
    have hv0 : 0 ≤ val := by omega
    have hv1 : val ≤ 1 := by omega
    obtain ⟨W4, hW4⟩ : ∃ W4, (((wc.setCell ⟨g1, x, none⟩ (.slice (some ⟨wc.heap.size, 0, none⟩) 0 0)).setCell ⟨g2, x, none⟩ (.slice (some ⟨wc.heap.size + 1, 0, none⟩) 1 1)).alloc (.cells #[] 3)).alloc (.cells #[.int .i64 (val * 16)] 3) = W4 := ⟨_, rfl⟩
    have HW4 := Lib.hid hW4
    have hres4 : W4.heap[w.heap.size + 1]? = some (.cells #[.slice none 0 0, .slice none 0 0] 24 (0, 0)) := by
      rw [← hW4, Below.heap_alloc _ _ _ (by simp; omega), Below.heap_alloc _ _ _ (by simpa using hlres), heap_setCell_other _ _ _ _ hr2, heap_setCell_other _ _ _ _ hr1]; exact HRES.out
    have HR4 := Lib.hid hres4
    have hb4 : Below w.heap.size w W4 := by
      rw [← hW4]
      exact (((HBW.out.setCell (show w.heap.size ≤ g1 by omega) _).setCell (show w.heap.size ≤ g2 by omega) _).alloc (by simp; omega) _).alloc (by simp; omega) _
    have HB4 := Lib.hid hb4
    have hnew : NewRows (w.heap.size + 2) W4 (.slice (some ⟨g1, 0, none⟩) P.length c1) (P.set x []) ∧ NewRows (w.heap.size + 2) W4 (.slice (some ⟨g2, 0, none⟩) T.length c2) (T.set x [16 * val]) := by
      have hA := heap_alloc_new wc (.cells #[] 3)
      have p1 := (HR1.out.below ((Below.refl _ _).alloc (Nat.le_refl _) (.cells #[] 3)) (Nat.le_refl _)).put hx (newInts_of_cells (B := w.heap.size + 2) (xs := []) hA (by omega) (by simp) (fun i => by simp [nth]))
      have q1 := (HR2.out.below ((Below.refl _ _).alloc (Nat.le_refl _) (.cells #[] 3)) (Nat.le_refl _)).except g1 (w' := (wc.alloc (.cells #[] 3)).setCell ⟨g1, x, none⟩ (.slice (some ⟨wc.heap.size, 0, none⟩) 0 0)) (fun g e _ _ => heap_setCell_other _ _ _ _ e) (by simp [Value.ownBlock]; omega) (fun cs fr => by rw [Below.heap_alloc _ _ _ l1]; exact HT1.out cs fr)
      rw [World.setCell_alloc_past _ _ _ _ l1] at q1
      have p1' := p1
      rw [show ((([] : List Int).length) = 0) from rfl, World.setCell_alloc_past _ _ _ _ l1] at p1'
      obtain ⟨wd, hwd⟩ : ∃ wd, (wc.setCell ⟨g1, x, none⟩ (.slice (some ⟨wc.heap.size, 0, none⟩) 0 0)).alloc (.cells #[] 3) = wd := ⟨_, rfl⟩
      have hsd : wd.heap.size = wc.heap.size + 1 := by rw [← hwd]; simp
      rw [hwd] at p1' q1
      have hA2 := heap_alloc_new wd (.cells #[.int .i64 (val * 16)] 3)
      have htt : ∀ cs fr, (wd.alloc (.cells #[.int .i64 (val * 16)] 3)).heap[g2]? ≠ some (.cells cs 3 fr) := fun cs fr => by
        rw [Below.heap_alloc _ _ _ (by omega), ← hwd, Below.heap_alloc _ _ _ (by simpa using l2), heap_setCell_other _ _ _ _ (Ne.symm hne)]; exact HTT2.out cs fr
      have q2 := (q1.below ((Below.refl _ _).alloc (Nat.le_refl _) (.cells #[.int .i64 (val * 16)] 3)) (Nat.le_refl _)).put hxT (newInts_of_cells (B := w.heap.size + 2) (xs := [val * 16]) hA2 (by omega) (by simp) (fun i => by
        match i with
        | 0 => simp [nth]; omega
        | i + 1 => simp [nth]))
      have p2 := (p1'.below ((Below.refl _ _).alloc (Nat.le_refl _) (.cells #[.int .i64 (val * 16)] 3)) (Nat.le_refl _)).except g2 (w' := (wd.alloc (.cells #[.int .i64 (val * 16)] 3)).setCell ⟨g2, x, none⟩ (.slice (some ⟨wd.heap.size, 0, none⟩) 1 1)) (fun g e _ _ => heap_setCell_other _ _ _ _ e) (by simp [Value.ownBlock]; omega) htt
      have e4 : (wd.alloc (.cells #[.int .i64 (val * 16)] 3)).setCell ⟨g2, x, none⟩ (.slice (some ⟨wd.heap.size, 0, none⟩) 1 1) = W4 := by
        rw [World.setCell_alloc_past _ _ _ _ (by omega), ← hW4, hsd, ← hwd, World.setCell_alloc_past _ _ _ _ (by simpa using l2)]
      rw [show (([val * 16] : List Int).length) = 1 from rfl, e4, Int.mul_comm] at q2
      rw [e4] at p2
      exact ⟨p2, q2⟩
    have HNEW := Lib.hid hnew
    have HR4s := hres4
    rw [← hW4] at HR4s
    replace HR4s := Lib.hid HR4s
    clear hW4 hres4 hb4 hnew
    go_wp2_with ((refine wpList_store_row rfl 24 (.tmp 6) (.tmp 27) rfl (w.heap.size + 1) _ rfl rfl 24 _ HR4s.out (by kernel_rfl) rfl (by simp [Value.oneCell']) ?_))
    rw [HW4.out]
    refine bodyPost_ret (v := .agg #[.slice (some ⟨g1, 0, none⟩) P.length c1, .slice (some ⟨g2, 0, none⟩) T.length c2]) ?_ rfl ⟨⟨_, _, rfl, ?_, ?_⟩, ?_⟩
    · rw [results_cell_row (ty := 24) (p := 6) rfl _ _ (w.heap.size + 1) 24 _ (0, 0) _ rfl (setRow_heap _ _ _ _ _ _ HR4.out) Try.underlying24 rfl (by kernel_rfl)]
    · exact (HNEW.out.1.blocks (fun g h1 h2 => Go.setRow_other _ _ _ _ (by omega))).mono (by omega)
    · exact (HNEW.out.2.blocks (fun g h1 h2 => Go.setRow_other _ _ _ _ (by omega))).mono (by omega)
    · exact below_setRow HB4.out (by omega) _

end Go.Proofs.Ytaphmjccdokiiaa
