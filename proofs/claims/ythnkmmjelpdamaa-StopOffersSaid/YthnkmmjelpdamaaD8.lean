/- Prophet and Threshold. -/
import Derived.Test.YthnkmmjelpdamaaD6
import Derived.Test.YthnkmmjelpdamaaD7
namespace Go.Proofs.Ythnkmmjelpdamaa
open Go.RowKit Go.Shelf

theorem store4 {w : World} {G : Nat} {T : TypeId} {x0 x1 y0 y1 : Value} (h0 : w.heap[G]? = some (.cells #[x0, x1] T (0, 0))) (h1 : w.heap[G + 1]? = some (.cells #[y0, y1] T (0, 0))) (a b c d : Value) :
    let w2 := (((w.setCell ⟨G, 0, none⟩ a).setCell ⟨G, 1, none⟩ b).setCell ⟨G + 1, 0, none⟩ c).setCell ⟨G + 1, 1, none⟩ d
    w2.cell? ⟨G, 0, none⟩ = some a ∧ w2.cell? ⟨G, 1, none⟩ = some b ∧ w2.cell? ⟨G + 1, 0, none⟩ = some c ∧ w2.cell? ⟨G + 1, 1, none⟩ = some d := by
  have e0 : (((w.setCell ⟨G, 0, none⟩ a).setCell ⟨G, 1, none⟩ b)).heap[G]? = some (.cells #[a, b] T (0, 0)) := by
    rw [heap_setCell_same _ _ _ _ _ _ (heap_setCell_same _ _ _ _ _ _ h0)]; rfl
  have e1 : (((w.setCell ⟨G, 0, none⟩ a).setCell ⟨G, 1, none⟩ b)).heap[G + 1]? = some (.cells #[y0, y1] T (0, 0)) := by
    rw [heap_setCell_other _ _ _ _ (by show G + 1 ≠ G; omega), heap_setCell_other _ _ _ _ (by show G + 1 ≠ G; omega)]; exact h1
  have f1 : ((((w.setCell ⟨G, 0, none⟩ a).setCell ⟨G, 1, none⟩ b).setCell ⟨G + 1, 0, none⟩ c).setCell ⟨G + 1, 1, none⟩ d).heap[G + 1]? = some (.cells #[c, d] T (0, 0)) := by
    rw [heap_setCell_same _ _ _ _ _ _ (heap_setCell_same _ _ _ _ _ _ e1)]; rfl
  have f0 : ((((w.setCell ⟨G, 0, none⟩ a).setCell ⟨G, 1, none⟩ b).setCell ⟨G + 1, 0, none⟩ c).setCell ⟨G + 1, 1, none⟩ d).heap[G]? = some (.cells #[a, b] T (0, 0)) := by
    rw [heap_setCell_other _ _ _ _ (by show G ≠ G + 1; omega), heap_setCell_other _ _ _ _ (by show G ≠ G + 1; omega)]; exact e0
  exact ⟨(block_of_cells f0).1, (block_of_cells f0).2.1, (block_of_cells f1).1, (block_of_cells f1).2.1⟩

set_option maxHeartbeats 1000000 in
theorem prophet_no (L : List (List (Int × Int))) (ao : Option Addr) (b o cap : Nat) (A : Nat → Option Addr) (B O C : Nat → Nat) (w : World) (h : OffsAt w ao b o L A B O C) (hok : okOffs L = false) :
    Calls Try.prog 34 #[.slice ao L.length cap] w fun e w' => e = .returned (.tuple #[.agg #[.int .i64 0, .int .i64 0], .agg #[.int .i64 0, .int .i64 0], .int .i64 2]) ∧ Below w.heap.size w w' := by
  obtain ⟨w0, hw0⟩ : ∃ w0, (w.alloc (.cells #[.int .i64 0, .int .i64 0] 47)).alloc (.cells #[.int .i64 0, .int .i64 0] 47) = w0 := ⟨_, rfl⟩
  have hao := areOffers_any L ao b o cap A B O C w0 (by rw [← hw0]; exact (h.alloc _).alloc _)
  rw [hok] at hao
  have hb0 : Below w.heap.size w w0 := by rw [← hw0]; exact ((Below.refl _ w).alloc (Nat.le_refl _) _).alloc (by simp) _
  have hz0 : w0.heap[w.heap.size]? = some (.cells #[.int .i64 0, .int .i64 0] 47 (0, 0)) := by rw [← hw0, Below.heap_alloc _ _ _ (by simp)]; exact heap_alloc_new _ _
  have hz1 : w0.heap[w.heap.size + 1]? = some (.cells #[.int .i64 0, .int .i64 0] 47 (0, 0)) := by
    rw [← hw0]
    have := heap_alloc_new (w.alloc (.cells #[.int .i64 0, .int .i64 0] 47)) (.cells #[.int .i64 0, .int .i64 0] 47)
    simpa using this
  have hs0 : w0.heap.size = w.heap.size + 2 := by rw [← hw0]; simp
  have HAO := Lib.hid hao
  have HB0 := Lib.hid hb0
  have HZ0 := Lib.hid hz0
  have HZ1 := Lib.hid hz1
  have HW0 := Lib.hid hw0
  clear hao hb0 hz0 hz1 hw0 h hok
  go_enter Try.func34, Try.ntmps34
  go_wp2_with fail
  rw [HW0.out]
  refine HAO.out.mono ?_
  rintro e w1 ⟨rfl, hb1⟩
  have hy0 := (hb1.block w.heap.size (by omega)).trans HZ0.out
  have hy1 := (hb1.block (w.heap.size + 1) (by omega)).trans HZ1.out
  have HB1 := Lib.hid (HB0.out.trans (hb1.mono (by omega)))
  have HST := Lib.hid (store4 hy0 hy1 (.int .i64 0) (.int .i64 0) (.int .i64 0) (.int .i64 0))
  obtain ⟨c0, c1, f0, f1⟩ := block_of_cells hy0
  obtain ⟨d0, d1, e0, e1⟩ := block_of_cells hy1
  clear hb1 hy0 hy1
  go_wp2
  obtain ⟨g0, g1, g2, g3⟩ := HST.out
  refine bodyPost_ret (v := .tuple #[.agg #[.int .i64 0, .int .i64 0], .agg #[.int .i64 0, .int .i64 0], .int .i64 2]) ?_ rfl ⟨rfl, ?_⟩
  · simp [results, Try.results34, go_sem, g0, g1, g2, g3]
  · exact (((HB1.out.setCell (p := ⟨_, 0, none⟩) (Nat.le_refl _) _).setCell (p := ⟨_, 1, none⟩) (Nat.le_refl _) _).setCell (p := ⟨_, 0, none⟩) (Nat.le_succ _) _).setCell (p := ⟨_, 1, none⟩) (Nat.le_succ _) _

set_option maxHeartbeats 2000000 in
theorem prophet_yes (L : List (List (Int × Int))) (ao : Option Addr) (b o cap : Nat) (A : Nat → Option Addr) (B O C : Nat → Nat) (w : World) (h : OffsAt w ao b o L A B O C) (hcap : L.length ≤ cap) (hok : okOffs L = true) :
    Calls Try.prog 34 #[.slice ao L.length cap] w fun e w' => e = .returned (.tuple #[fracV (cmb L 0 1) (16 ^ L.length), fracV (gL accP L (dn L.length L.length)).1 (16 ^ L.length), .int .i64 0]) ∧ Below w.heap.size w w' := by
  obtain ⟨w0, hw0⟩ : ∃ w0, (w.alloc (.cells #[.int .i64 0, .int .i64 0] 47)).alloc (.cells #[.int .i64 0, .int .i64 0] 47) = w0 := ⟨_, rfl⟩
  have h0 : OffsAt w0 ao b o L A B O C := by rw [← hw0]; exact (h.alloc _).alloc _
  have hao := areOffers_any L ao b o cap A B O C w0 h0
  rw [hok] at hao
  have hb0 : Below w.heap.size w w0 := by rw [← hw0]; exact ((Below.refl _ w).alloc (Nat.le_refl _) _).alloc (by simp) _
  have hz0 : w0.heap[w.heap.size]? = some (.cells #[.int .i64 0, .int .i64 0] 47 (0, 0)) := by rw [← hw0, Below.heap_alloc _ _ _ (by simp)]; exact heap_alloc_new _ _
  have hz1 : w0.heap[w.heap.size + 1]? = some (.cells #[.int .i64 0, .int .i64 0] 47 (0, 0)) := by
    rw [← hw0]
    have := heap_alloc_new (w.alloc (.cells #[.int .i64 0, .int .i64 0] 47)) (.cells #[.int .i64 0, .int .i64 0] 47)
    simpa using this
  have hs0 : w0.heap.size = w.heap.size + 2 := by rw [← hw0]; simp
  have HGA := Lib.hid (fun W (hW : OffsAt W ao b o L A B O C) => callsIn_wide.1 (gainP_any L ao b o cap A B O C W hW hok))
  have HGR := Lib.hid (fun W (hW : OffsAt W ao b o L A B O C) => greatest_any L ao b o cap A B O C W hW hcap hok)
  obtain ⟨ga, gb, hgg⟩ : ∃ a b, fracV (cmb L 0 1) (16 ^ L.length) = .agg #[.int .i64 a, .int .i64 b] := ⟨_, _, rfl⟩
  obtain ⟨pa, pb, hpp⟩ : ∃ a b, fracV (gL accP L (dn L.length L.length)).1 (16 ^ L.length) = .agg #[.int .i64 a, .int .i64 b] := ⟨_, _, rfl⟩
  rw [hpp] at HGA
  rw [hgg] at HGR
  rw [hgg, hpp]
  have HAO := Lib.hid hao
  have HB0 := Lib.hid hb0
  have HZ0 := Lib.hid hz0
  have HZ1 := Lib.hid hz1
  have HW0 := Lib.hid hw0
  have HH := Lib.hid h0
  clear hao hb0 hz0 hz1 hw0 h hok h0 hgg hpp
  go_enter Try.func34, Try.ntmps34
  go_wp2_with fail
  rw [HW0.out]
  refine HAO.out.mono ?_
  rintro e w1 ⟨rfl, hb1⟩
  have HH1 := Lib.hid (HH.out.below hb1 (Nat.le_refl _))
  have HG1 := Lib.hid (HGA.out w1 HH1.out)
  have hs1 := hb1.size
  have HB1 := Lib.hid hb1
  clear hb1
  go_wp2_with fail
  refine HG1.out.mono ?_
  rintro e w2 ⟨rfl, hb2⟩
  have hb3 : Below w0.heap.size w0 w2 := HB1.out.trans (hb2.mono hs1)
  obtain ⟨w3, hw3⟩ : ∃ w3, w2.alloc (.cells #[.int .i64 pa, .int .i64 pb] 47) = w3 := ⟨_, rfl⟩
  have hk3 : w3.heap[w2.heap.size]? = some (.cells #[.int .i64 pa, .int .i64 pb] 47 (0, 0)) := by rw [← hw3]; exact heap_alloc_new _ _
  have hb4 : Below w0.heap.size w0 w3 := by rw [← hw3]; exact hb3.alloc (hb3.size) _
  have hs2 := hb3.size
  have hs3 : w3.heap.size = w2.heap.size + 1 := by rw [← hw3]; simp
  have HGX := Lib.hid (fun W (hW : Below w0.heap.size w0 W) => HGR.out W (HH.out.below hW (Nat.le_refl _)))
  have HB4 := Lib.hid hb4
  have HFZ := Lib.hid (show ∀ W w', Below W.heap.size W w' → (∀ k, W.heap[k]? = w3.heap[k]?) → W.heap.size = w3.heap.size → w'.heap[w.heap.size]? = some (.cells #[.int .i64 0, .int .i64 0] 47 (0, 0)) ∧ w'.heap[w.heap.size + 1]? = some (.cells #[.int .i64 0, .int .i64 0] 47 (0, 0)) ∧ w'.heap[w2.heap.size]? = some (.cells #[.int .i64 pa, .int .i64 pb] 47 (0, 0)) from fun W w' hb he hs =>
    ⟨(hb.block _ (by omega)).trans ((he _).trans ((HB4.out.block _ (by omega)).trans HZ0.out)), (hb.block _ (by omega)).trans ((he _).trans ((HB4.out.block _ (by omega)).trans HZ1.out)), (hb.block _ (by omega)).trans ((he _).trans hk3)⟩)
  obtain ⟨k0, k1, -, -⟩ := block_of_cells hk3
  have HW3 := Lib.hid hw3
  clear hb2 hb3 hk3 hw3 hb4
  have hn1 : ¬ w2.heap.size = w.heap.size := by omega
  have hn2 : ¬ w2.heap.size = w.heap.size + 1 := by omega
  have hn3 : ¬ w.heap.size = w2.heap.size := by omega
  have hn4 : ¬ w.heap.size + 1 = w2.heap.size := by omega
  go_wp2
  rw [HW3.out]
  go_region_with (go_at_call 67; refine Calls.mono (HGX.out _ ?_) ?_; (· exact ⟨HB4.out.os, HB4.out.tape, HB4.out.output, HB4.out.size, HB4.out.block⟩); rintro e w' ⟨rfl, hbw⟩; obtain ⟨q0, q1, q2⟩ := HFZ.out _ w' hbw (fun _ => rfl) rfl; obtain ⟨c0, c1, f0, f1⟩ := block_of_cells q0; obtain ⟨d0, d1, e0, e1⟩ := block_of_cells q1; obtain ⟨l0, l1, -, -⟩ := block_of_cells q2)
  all_goals (
    obtain ⟨g0, g1, g2, g3⟩ := store4 q0 q1 (.int .i64 ga) (.int .i64 gb) (.int .i64 pa) (.int .i64 pb)
    have hbx : Below w3.heap.size w3 w' := ⟨hbw.os, hbw.tape, hbw.output, hbw.size, hbw.block⟩
    have hby := (HB0.out.trans (HB4.out.mono (by omega))).trans (hbx.mono (by omega))
    go_wp2
    refine bodyPost_ret (v := .tuple #[.agg #[.int .i64 ga, .int .i64 gb], .agg #[.int .i64 pa, .int .i64 pb], .int .i64 0]) ?_ rfl ⟨rfl, ?_⟩
    · simp [results, Try.results34, go_sem, g0, g1, g2, g3]
    · exact (((hby.setCell (p := ⟨_, 0, none⟩) (Nat.le_refl _) _).setCell (p := ⟨_, 1, none⟩) (Nat.le_refl _) _).setCell (p := ⟨_, 0, none⟩) (Nat.le_succ _) _).setCell (p := ⟨_, 1, none⟩) (Nat.le_succ _) _)

set_option maxHeartbeats 1000000 in
theorem threshold_no (L : List (List (Int × Int))) (ao : Option Addr) (b o cap : Nat) (A : Nat → Option Addr) (B O C : Nat → Nat) (least : Int) (w : World) (h : OffsAt w ao b o L A B O C) (hok : okOffs L = false) :
    Calls Try.prog 35 #[.slice ao L.length cap, .int .i64 least] w fun e w' => e = .returned (.tuple #[.agg #[.int .i64 0, .int .i64 0], .int .i64 2]) ∧ Below w.heap.size w w' := by
  obtain ⟨w0, hw0⟩ : ∃ w0, (w.alloc (.cells #[.int .i64 least] 3)).alloc (.cells #[.int .i64 0, .int .i64 0] 47) = w0 := ⟨_, rfl⟩
  have hao := areOffers_any L ao b o cap A B O C w0 (by rw [← hw0]; exact (h.alloc _).alloc _)
  rw [hok] at hao
  have hb0 : Below w.heap.size w w0 := by rw [← hw0]; exact ((Below.refl _ w).alloc (Nat.le_refl _) _).alloc (by simp) _
  have hz1 : w0.heap[w.heap.size + 1]? = some (.cells #[.int .i64 0, .int .i64 0] 47 (0, 0)) := by
    rw [← hw0]
    have := heap_alloc_new (w.alloc (.cells #[.int .i64 least] 3)) (.cells #[.int .i64 0, .int .i64 0] 47)
    simpa using this
  have hs0 : w0.heap.size = w.heap.size + 2 := by rw [← hw0]; simp
  have HAO := Lib.hid hao
  have HB0 := Lib.hid hb0
  have HZ1 := Lib.hid hz1
  have HW0 := Lib.hid hw0
  clear hao hb0 hz1 hw0 h hok
  go_enter Try.func35, Try.ntmps35
  go_wp2_with fail
  rw [HW0.out]
  refine HAO.out.mono ?_
  rintro e w1 ⟨rfl, hb1⟩
  have hy1 := (hb1.block (w.heap.size + 1) (by omega)).trans HZ1.out
  have HB1 := Lib.hid (HB0.out.trans (hb1.mono (by omega)))
  obtain ⟨d0, d1, e0, e1⟩ := block_of_cells hy1
  clear hb1 hy1
  go_wp2
  obtain ⟨g0, g1⟩ := set2_cells (x := .int .i64 0) (y := .int .i64 0) d0 d1
  refine bodyPost_ret (v := .tuple #[.agg #[.int .i64 0, .int .i64 0], .int .i64 2]) ?_ rfl ⟨rfl, ?_⟩
  · simp [results, Try.results35, go_sem, g0, g1]
  · exact (HB1.out.setCell (p := ⟨_, 0, none⟩) (Nat.le_succ _) _).setCell (p := ⟨_, 1, none⟩) (Nat.le_succ _) _

set_option maxHeartbeats 1000000 in
theorem threshold_yes (L : List (List (Int × Int))) (ao : Option Addr) (b o cap : Nat) (A : Nat → Option Addr) (B O C : Nat → Nat) (least : Int) (w : World) (h : OffsAt w ao b o L A B O C) (hok : okOffs L = true) :
    Calls Try.prog 35 #[.slice ao L.length cap, .int .i64 least] w fun e w' => e = .returned (.tuple #[fracV (gL (accT least) L (dn L.length L.length)).1 (16 ^ L.length), .int .i64 0]) ∧ Below w.heap.size w w' := by
  obtain ⟨w0, hw0⟩ : ∃ w0, (w.alloc (.cells #[.int .i64 least] 3)).alloc (.cells #[.int .i64 0, .int .i64 0] 47) = w0 := ⟨_, rfl⟩
  have h0 : OffsAt w0 ao b o L A B O C := by rw [← hw0]; exact (h.alloc _).alloc _
  have hao := areOffers_any L ao b o cap A B O C w0 h0
  rw [hok] at hao
  have hb0 : Below w.heap.size w w0 := by rw [← hw0]; exact ((Below.refl _ w).alloc (Nat.le_refl _) _).alloc (by simp) _
  have hz0 : w0.cell? ⟨w.heap.size, 0, none⟩ = some (.int .i64 least) := by
    rw [cell_of_row _ _ _ _ _ _ (show w0.heap[w.heap.size]? = some (.cells #[.int .i64 least] 3 (0, 0)) by rw [← hw0, Below.heap_alloc _ _ _ (by simp)]; exact heap_alloc_new _ _)]; rfl
  have hz1 : w0.heap[w.heap.size + 1]? = some (.cells #[.int .i64 0, .int .i64 0] 47 (0, 0)) := by
    rw [← hw0]
    have := heap_alloc_new (w.alloc (.cells #[.int .i64 least] 3)) (.cells #[.int .i64 0, .int .i64 0] 47)
    simpa using this
  have hs0 : w0.heap.size = w.heap.size + 2 := by rw [← hw0]; simp
  have HGA := Lib.hid (fun W (hW : OffsAt W ao b o L A B O C) h1 h2 => callsIn_wide.1 (gainT_any L ao b o cap A B O C least w.heap.size W hW hok h1 h2))
  obtain ⟨pa, pb, hpp⟩ : ∃ a b, fracV (gL (accT least) L (dn L.length L.length)).1 (16 ^ L.length) = .agg #[.int .i64 a, .int .i64 b] := ⟨_, _, rfl⟩
  rw [hpp] at HGA
  rw [hpp]
  have HAO := Lib.hid hao
  have HB0 := Lib.hid hb0
  have HZ0 := Lib.hid hz0
  have HZ1 := Lib.hid hz1
  have HW0 := Lib.hid hw0
  have HH := Lib.hid h0
  clear hao hb0 hz0 hz1 hw0 h hok h0 hpp
  go_enter Try.func35, Try.ntmps35
  go_wp2_with fail
  rw [HW0.out]
  refine HAO.out.mono ?_
  rintro e w1 ⟨rfl, hb1⟩
  have HG1 := Lib.hid (HGA.out w1 (HH.out.below hb1 (Nat.le_refl _)) (by have := hb1.size; omega) ((hb1.cell (p := ⟨w.heap.size, 0, none⟩) (by show w.heap.size < _; omega)).trans HZ0.out))
  have hs1 := hb1.size
  have HB1 := Lib.hid hb1
  clear hb1
  go_wp2_with fail
  refine HG1.out.mono ?_
  rintro e w2 ⟨rfl, hb2⟩
  have hb3 : Below w0.heap.size w0 w2 := HB1.out.trans (hb2.mono hs1)
  have hy1 := (hb3.block (w.heap.size + 1) (by omega)).trans HZ1.out
  have HB3 := Lib.hid (HB0.out.trans (hb3.mono (by omega)))
  obtain ⟨d0, d1, e0, e1⟩ := block_of_cells hy1
  clear hb2 hb3 hy1
  go_wp2
  obtain ⟨g0, g1⟩ := set2_cells (x := .int .i64 pa) (y := .int .i64 pb) d0 d1
  refine bodyPost_ret (v := .tuple #[.agg #[.int .i64 pa, .int .i64 pb], .int .i64 0]) ?_ rfl ⟨rfl, ?_⟩
  · simp [results, Try.results35, go_sem, g0, g1]
  · exact (HB3.out.setCell (p := ⟨_, 0, none⟩) (Nat.le_succ _) _).setCell (p := ⟨_, 1, none⟩) (Nat.le_succ _) _

end Go.Proofs.Ythnkmmjelpdamaa
