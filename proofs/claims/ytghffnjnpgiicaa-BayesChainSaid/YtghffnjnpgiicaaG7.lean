/- G7: Ca Da Ea -/
import Derived.Test.YtghffnjnpgiicaaG6
import Derived.Test.YtghffnjnpgiicaaG3
import Derived.Test.YtghffnjnpgiicaaG1
/- The fixed network: awake is true. -/
namespace Go.Proofs.Ytghffnjnpgiicaa
open Go.RowKit

/-- Several new blocks. -/
def allocs : World → List Obj → World
  | w, [] => w
  | w, o :: l => allocs (w.alloc o) l
theorem allocs_below : ∀ (l : List Obj) (w : World), Below w.heap.size w (allocs w l)
  | [], w => Below.refl _ w
  | o :: l, w => ((Below.refl w.heap.size w).alloc (Nat.le_refl _) o).trans ((allocs_below l (w.alloc o)).mono (by simp))
theorem allocs_size : ∀ (l : List Obj) (w : World), (allocs w l).heap.size = w.heap.size + l.length
  | [], w => rfl
  | o :: l, w => by rw [allocs, allocs_size l]; simp; omega
theorem allocs_at : ∀ (l : List Obj) (w : World) (i : Nat), i < l.length → (allocs w l).heap[w.heap.size + i]? = l[i]?
  | [], w, i, h => by simp at h
  | o :: l, w, 0, h => by
    have := (allocs_below l (w.alloc o)).block w.heap.size (by simp)
    rw [Nat.add_zero, allocs, this, heap_alloc_new]; rfl
  | o :: l, w, i + 1, h => by
    have := allocs_at l (w.alloc o) i (by simpa using h)
    rw [allocs, show w.heap.size + (i + 1) = (w.alloc o).heap.size + i by simp; omega, this]; rfl

/-- Ints written out in a block. -/
theorem intsAt_lit {w : World} {g : Nat} {xs : List Int} (h : w.heap[g]? = some (.cells (xs.map (Value.int .i64)).toArray 3 (0, 0))) (hl : xs.length ≤ 140737488351232) (hw : ∀ x ∈ xs, -9223372036854775808 ≤ x ∧ x ≤ 9223372036854775807) :
    IntsAt w (some ⟨g, 0, none⟩) g 0 xs := by
  refine ⟨fun _ => ⟨rfl, lt_of_block h⟩, fun i hi => ?_, hl, fun i => ?_⟩
  · rw [cell_of_row _ _ _ _ _ _ h, Nat.zero_add, List.getElem?_toArray, nth_map _ _ hi]
  · by_cases hi : i < xs.length
    · have := hw (nth xs i) (by simp [nth, List.getD_eq_getElem?_getD, hi])
      exact this
    · rw [show nth xs i = 0 by simp [nth, List.getD_eq_getElem?_getD, List.getElem?_eq_none (by omega : xs.length ≤ i)]]
      omega

def awP : List (List Int) := [[], [0]]
def awT : List (List Int) := [[8], [4, 12]]
def awV (N : Nat) : Value := .agg #[.slice (some ⟨N + 2, 0, none⟩) 2 2, .slice (some ⟨N + 5, 0, none⟩) 2 2]
def awO (N : Nat) : List Obj := [.cells #[] 3, .cells #[.int .i64 0] 3, .cells #[.slice (some ⟨N, 0, none⟩) 0 0, .slice (some ⟨N + 1, 0, none⟩) 1 1] 25, .cells #[.int .i64 8] 3,
  .cells #[.int .i64 4, .int .i64 12] 3, .cells #[.slice (some ⟨N + 3, 0, none⟩) 1 1, .slice (some ⟨N + 4, 0, none⟩) 2 2] 25, .cells #[.slice (some ⟨N + 2, 0, none⟩) 2 2, .slice (some ⟨N + 5, 0, none⟩) 2 2] 24, .cells #[.int .i64 0, .int .i64 1] 3]

theorem aw_net (w : World) : NetAt (allocs w (awO w.heap.size)) (awV w.heap.size) awP awT ∧ IntsAt (allocs w (awO w.heap.size)) (some ⟨w.heap.size + 7, 0, none⟩) (w.heap.size + 7) 0 [0, 1] ∧
    (allocs w (awO w.heap.size)).heap[w.heap.size + 6]? = some (.cells #[.slice (some ⟨w.heap.size + 2, 0, none⟩) 2 2, .slice (some ⟨w.heap.size + 5, 0, none⟩) 2 2] 24 (0, 0)) := by
  obtain ⟨W, hW⟩ : ∃ W, W = allocs w (awO w.heap.size) := ⟨_, rfl⟩
  have hs := allocs_size (awO w.heap.size) w
  have h0 := allocs_at (awO w.heap.size) w 0 (by simp [awO])
  have h1 := allocs_at (awO w.heap.size) w 1 (by simp [awO])
  have h2 := allocs_at (awO w.heap.size) w 2 (by simp [awO])
  have h3 := allocs_at (awO w.heap.size) w 3 (by simp [awO])
  have h4 := allocs_at (awO w.heap.size) w 4 (by simp [awO])
  have h5 := allocs_at (awO w.heap.size) w 5 (by simp [awO])
  have h6 := allocs_at (awO w.heap.size) w 6 (by simp [awO])
  have h7 := allocs_at (awO w.heap.size) w 7 (by simp [awO])
  rw [← hW] at h0 h1 h2 h3 h4 h5 h6 h7 hs ⊢
  have i0 := intsAt_lit (xs := []) h0 (by simp) (by simp)
  have i1 := intsAt_lit (xs := [0]) h1 (by simp) (by simp)
  have i3 := intsAt_lit (xs := [8]) h3 (by simp) (by simp)
  have i4 := intsAt_lit (xs := [4, 12]) h4 (by simp) (by simp)
  have i7 := intsAt_lit (xs := [0, 1]) h7 (by simp) (by simp)
  refine ⟨⟨some ⟨w.heap.size + 2, 0, none⟩, w.heap.size + 2, 0, 2, fun i => some ⟨w.heap.size + i, 0, none⟩, fun i => w.heap.size + i, fun _ => 0, fun i => i,
    some ⟨w.heap.size + 5, 0, none⟩, w.heap.size + 5, 0, 2, fun i => some ⟨w.heap.size + 3 + i, 0, none⟩, fun i => w.heap.size + 3 + i, fun _ => 0, fun i => i + 1, rfl, ⟨fun _ => ⟨rfl, lt_of_block h2⟩, ?_, ?_, by simp [awP]⟩, ⟨fun _ => ⟨rfl, lt_of_block h5⟩, ?_, ?_, by simp [awT]⟩⟩, i7, h6⟩
  · intro i hi
    rw [cell_of_row _ _ _ _ _ _ h2]
    rcases i with _ | _ | i
    · rfl
    · rfl
    · simp [awP] at hi; omega
  · intro i hi
    rcases i with _ | _ | i
    · exact i0
    · exact i1
    · simp [awP] at hi; omega
  · intro i hi
    rw [cell_of_row _ _ _ _ _ _ h5]
    rcases i with _ | _ | i
    · rfl
    · rfl
    · simp [awT] at hi; omega
  · intro i hi
    rcases i with _ | _ | i
    · exact i3
    · exact i4
    · simp [awT] at hi; omega

theorem aw_isNet : isNet awP awT = true := by decide
theorem aw_asg : okAsg [0, 1] awP.length = true := by decide
theorem aw_joint : fracV (wt awP awT (nth [0, 1]) awP.length) (16 ^ awP.length) = .agg #[.int .i64 1, .int .i64 8] := by kernel_rfl
theorem aw_chV : chV awP awT [(0, 1)] [(1, 1)] = .agg #[.int .i64 3, .int .i64 4] := by kernel_rfl
theorem aw_chE : chE awP awT [(0, 1)] [(1, 1)] = 0 := by kernel_rfl
theorem aw_set : okSet [] awP.length = true := by decide
theorem aw_sep : sepTrail awP [] 0 1 = some [0, 1] := by
  have h1 : okNext (webOf awP fun v => hasI [] (v : Int)) [0] 0 = false := by decide
  have h2 : okNext (webOf awP fun v => hasI [] (v : Int)) [0] 1 = true := by decide
  unfold sepTrail
  rw [show awP.length = 2 from rfl, dfs, if_neg (by decide), show (webOf awP fun v => hasI [] (v : Int)).count = 2 from rfl, dfsTo, dfsTo, dfsTo]
  simp only [h1, h2, Bool.false_eq_true, if_false, if_true]
  rw [show ([0] ++ [1] : List Nat) = [0, 1] from rfl, dfs, if_pos (by decide)]

end Go.Proofs.Ytghffnjnpgiicaa

/- The fixed network: awake is true; the walk. -/
namespace Go.Proofs.Ytghffnjnpgiicaa
open Go.RowKit

theorem intsAt_nil (w : World) : IntsAt w none 0 0 [] := ⟨fun h => absurd h (by decide), fun i hi => absurd hi (Nat.not_lt_zero i), by decide, fun i => by simp [nth]⟩

theorem pairsAt_one {w : World} {g : Nat} {a b : Int} {T : TypeId} (h : w.heap[g]? = some (.cells #[.int .i64 a, .int .i64 b] T (0, 0))) (ha : -9223372036854775808 ≤ a ∧ a ≤ 9223372036854775807) (hb : -9223372036854775808 ≤ b ∧ b ≤ 9223372036854775807) :
    PairsAt w (some ⟨g, 0, none⟩) g 0 [(a, b)] := by
  refine ⟨fun _ => ⟨rfl, lt_of_block h⟩, fun i hi => ?_, fun i hi => ?_, (by simp : (1 : Nat) ≤ 140737488351232), fun i => ?_⟩
  · have : i = 0 := by simpa using hi
    subst this
    rw [cell_of_row _ _ _ _ _ _ h]; rfl
  · have : i = 0 := by simpa using hi
    subst this
    rw [cell_of_row _ _ _ _ _ _ h]; rfl
  · rcases i with _ | i
    · exact ⟨ha, hb⟩
    · simp [pf, pv]

set_option maxHeartbeats 4000000 in
set_option maxRecDepth 100000 in
theorem awake_any (w : World) :
    Calls Try.prog 19 #[] w fun e w' => e = .returned (.bool true) ∧ Below w.heap.size w w' := by
  obtain ⟨hnet, hints, hblk⟩ := aw_net w
  have hbw := allocs_below (awO w.heap.size) w
  have HN := Lib.hid hnet
  have HI := Lib.hid hints
  have HK := Lib.hid hblk
  have HBW := Lib.hid hbw
  have hs := allocs_size (awO w.heap.size) w
  have HS := Lib.hid (show (allocs w (awO w.heap.size)).heap.size = w.heap.size + 8 from hs)
  clear hnet hints hblk hbw hs
  go_enter Try.func19, Try.ntmps19
  go_wp2_with fail
  have hj := joint_ok awP awT (awV w.heap.size) [0, 1] (some ⟨w.heap.size + 7, 0, none⟩) (w.heap.size + 7) 0 2 _ HN.out HI.out aw_isNet aw_asg
  rw [aw_joint] at hj
  refine hj.mono ?_
  rintro e w1 ⟨rfl, hb1⟩
  have HB1 := Lib.hid hb1
  have hk := (HB1.out.block _ (by rw [HS.out]; omega)).trans HK.out
  obtain ⟨k0, k1, -, -⟩ := cells_of2 hk
  have HK1 := Lib.hid hk
  have c0 : w1.cell? ⟨w.heap.size + 1 + 1 + 1 + 1 + 1 + 1, 0, none⟩ = some (.slice (some ⟨w.heap.size + 1 + 1, 0, none⟩) 2 2) := k0
  have c1 : w1.cell? ⟨w.heap.size + 1 + 1 + 1 + 1 + 1 + 1, 1, none⟩ = some (.slice (some ⟨w.heap.size + 1 + 1 + 1 + 1 + 1, 0, none⟩) 2 2) := k1
  have hlt : w.heap.size + 1 + 1 + 1 + 1 + 1 + 1 < w1.heap.size := by have := HB1.out.size; rw [HS.out] at this; omega
  clear hj hb1 hk k0 k1
  go_wp2_with fail
  obtain ⟨wa, hwa⟩ : ∃ wa, wa = allocs w1 [.cells #[.int .i64 1, .int .i64 8] 29, .cells #[.int .i64 0, .int .i64 1] 52, .cells #[.int .i64 1, .int .i64 1] 52] := ⟨_, rfl⟩
  have a0 := allocs_at [.cells #[.int .i64 1, .int .i64 8] 29, .cells #[.int .i64 0, .int .i64 1] 52, .cells #[.int .i64 1, .int .i64 1] 52] w1 0 (by simp)
  have a1 := allocs_at [.cells #[.int .i64 1, .int .i64 8] 29, .cells #[.int .i64 0, .int .i64 1] 52, .cells #[.int .i64 1, .int .i64 1] 52] w1 1 (by simp)
  have a2 := allocs_at [.cells #[.int .i64 1, .int .i64 8] 29, .cells #[.int .i64 0, .int .i64 1] 52, .cells #[.int .i64 1, .int .i64 1] 52] w1 2 (by simp)
  have ab := allocs_below [.cells #[.int .i64 1, .int .i64 8] 29, .cells #[.int .i64 0, .int .i64 1] 52, .cells #[.int .i64 1, .int .i64 1] 52] w1
  rw [← hwa] at a0 a1 a2 ab
  have hc := chance_net awP awT (awV w.heap.size) [(0, 1)] [(1, 1)] (some ⟨w1.heap.size + 1, 0, none⟩) (w1.heap.size + 1) 0 1 (some ⟨w1.heap.size + 2, 0, none⟩) (w1.heap.size + 2) 0 1 wa
    ((HN.out.below HB1.out (Nat.le_refl _)).below ab (Nat.le_refl _)) aw_isNet (pairsAt_one a1 (by decide) (by decide)) (pairsAt_one a2 (by decide) (by decide)) (by decide) (by decide)
  rw [aw_chV, aw_chE, hwa] at hc
  refine hc.mono ?_
  rintro e w2 ⟨rfl, hb2⟩
  rw [show allocs w1 _ = wa from hwa.symm] at hb2
  have HB12 := Lib.hid (ab.trans (hb2.mono ab.size))
  have hk2 := (HB12.out.block _ (lt_of_block HK1.out)).trans HK1.out
  have HK2 := Lib.hid hk2
  have HA2 := Lib.hid ((hb2.block _ (lt_of_block a0)).trans a0)
  obtain ⟨k0, k1, -, -⟩ := cells_of2 hk2
  have d0 : w2.cell? ⟨w.heap.size + 1 + 1 + 1 + 1 + 1 + 1, 0, none⟩ = some (.slice (some ⟨w.heap.size + 1 + 1, 0, none⟩) 2 2) := k0
  have d1 : w2.cell? ⟨w.heap.size + 1 + 1 + 1 + 1 + 1 + 1, 1, none⟩ = some (.slice (some ⟨w.heap.size + 1 + 1 + 1 + 1 + 1, 0, none⟩) 2 2) := k1
  have hlt2 : w.heap.size + 1 + 1 + 1 + 1 + 1 + 1 < w2.heap.size := lt_of_block hk2
  have HB2 := Lib.hid (HB1.out.trans (HB12.out.mono HB1.out.size))
  clear hc hb2 hk2 k0 k1 c0 c1 a0 a1 a2 ab hwa
  go_wp2_with fail
  have hsep := sep_ok awP awT (awV w.heap.size) [] 0 1 none 0 0 0 (w2.alloc (.cells #[.int .i64 3, .int .i64 4] 29)) ((HN.out.below HB2.out (Nat.le_refl _)).alloc _) (intsAt_nil _) aw_isNet (by decide) (by decide) (by decide) aw_set (by decide) (by decide)
  rw [aw_sep] at hsep
  refine hsep.mono ?_
  rintro e w3 ⟨v, rfl, hv, -, hb3⟩
  have HB23 := Lib.hid (((Below.refl _ w2).alloc (Nat.le_refl _) (.cells #[.int .i64 3, .int .i64 4] 29)).trans (hb3.mono (by simp)))
  obtain ⟨e0', e1', -, -⟩ := cells_of2 ((HB23.out.block _ (lt_of_block HA2.out)).trans HA2.out)
  have e0 : w3.cell? ⟨w1.heap.size, 0, none⟩ = some (.int .i64 1) := e0'
  have e1 : w3.cell? ⟨w1.heap.size, 1, none⟩ = some (.int .i64 8) := e1'
  obtain ⟨f0, f1, -, -⟩ := cells_of2 ((hb3.block w2.heap.size (by simp)).trans (heap_alloc_new _ _))
  have hv' : NewInts (w2.alloc (.cells #[.int .i64 3, .int .i64 4] 29)).heap.size w3 v [0, 1] := hv
  obtain ⟨ao1, b1, cap1, hv1, hi1, -⟩ := hv'.at
  have hv2 : v = .slice ao1 2 cap1 := hv1
  subst hv2
  have HI1 := Lib.hid hi1
  have HB3 := Lib.hid (HB2.out.trans (HB23.out.mono HB2.out.size))
  have g1 : w1.heap.size < w3.heap.size := by have := lt_of_block HA2.out; have := HB23.out.size; omega
  have g2 : w2.heap.size < w3.heap.size := by have := (Nat.le_trans (by simp : w2.heap.size + 1 ≤ (w2.alloc (.cells #[.int .i64 3, .int .i64 4] 29)).heap.size) hb3.size); omega
  clear hsep hb3 hv hv' hv1 hi1 d0 d1 e0' e1'
  go_wp2_with fail
  have hi := ints_any [0, 1] [0, 1] ao1 (some ⟨w3.heap.size, 0, none⟩) b1 0 cap1 w3.heap.size 0 2 (w3.alloc (.cells #[.int .i64 0, .int .i64 1] 3)) (HI1.out.alloc _) (intsAt_lit (heap_alloc_new _ _) (by simp) (by simp))
  rw [show decide (([0, 1] : List Int) = [0, 1]) = true from rfl] at hi
  refine hi.mono ?_
  rintro e w4 ⟨rfl, hb4⟩
  have HB4 := Lib.hid (((HBW.out.trans (HB3.out.mono (by rw [HS.out]; omega))).alloc (by have := HB3.out.size; rw [HS.out] at this; omega) (.cells #[.int .i64 0, .int .i64 1] 3)).trans (hb4.mono (by have := HB3.out.size; rw [HS.out] at this; simp; omega)))
  clear hi hb4
  go_wp2
  go_ret
  exact ⟨rfl, HB4.out⟩

end Go.Proofs.Ytghffnjnpgiicaa

/- BayesJoints: the walk. -/
namespace Go.Proofs.Ytghffnjnpgiicaa
open Go.RowKit

theorem trim_len (xss : List (List Int)) : (trim xss).length ≤ 140737488351232 := by
  unfold trim
  rw [List.length_map, List.length_take]
  omega

/-- The network's own copy. -/
theorem net_of_new {B : Nat} {w : World} {v1 v2 : Value} {P T : List (List Int)} (h1 : NewRows B w v1 (trim P)) (h2 : NewRows B w v2 (trim T)) :
    ∃ pa pc ta tc, v1 = .slice pa (trim P).length pc ∧ v2 = .slice ta (trim T).length tc ∧ NetAt w (.agg #[.slice pa (trim P).length pc, .slice ta (trim T).length tc]) (trim P) (trim T) := by
  obtain ⟨pa, pb, pc, A, B1, O, C, rfl, r1⟩ := h1.at (trim_len P)
  obtain ⟨ta, tb, tc, A', B1', O', C', rfl, r2⟩ := h2.at (trim_len T)
  exact ⟨pa, pc, ta, tc, rfl, rfl, ⟨pa, pb, 0, pc, A, B1, O, C, ta, tb, 0, tc, A', B1', O', C', rfl, r1, r2⟩⟩

set_option maxHeartbeats 4000000 in
set_option maxRecDepth 100000 in
theorem joints_any (P T : List (List Int)) (pa : Option Addr) (pb po pc : Nat) (A : Nat → Option Addr) (B O C : Nat → Nat) (ta : Option Addr) (tb to tc : Nat) (A' : Nat → Option Addr) (B' O' C' : Nat → Nat)
    (xs : List Int) (ao : Option Addr) (xb xo xc : Nat) (w : World)
    (hP : RowsAt w pa pb po P A B O C) (hT : RowsAt w ta tb to T A' B' O' C') (cP : CapsOk P A C) (cT : CapsOk T A' C') (hX : IntsAt w ao xb xo xs) (hcap : xs.length ≤ xc) (hnil : ao = none → xc = 0) :
    Calls Try.prog 3 #[.agg #[.slice pa P.length pc, .slice ta T.length tc], .slice ao xs.length xc] w fun e w' => e = .returned (.bool true) ∧ Below w.heap.size w w' := by
  have HP := Lib.hid hP
  have HT := Lib.hid hT
  have CP := Lib.hid cP
  have CT := Lib.hid cT
  have HX := Lib.hid hX
  have HC := Lib.hid hcap
  have HN := Lib.hid hnil
  clear hP hT cP cT hX hcap hnil
  go_enter Try.func3, Try.ntmps3
  go_wp2_with fail
  refine (network_any P T pa pb po pc A B O C ta tb to tc A' B' O' C' _ (HP.out.below ((Below.refl _ _).alloc (Nat.le_refl _) _) (Nat.le_refl _)) (HT.out.below ((Below.refl _ _).alloc (Nat.le_refl _) _) (Nat.le_refl _)) CP.out CT.out).mono ?_
  rintro e w1 ⟨⟨v1, v2, rfl, n1, n2⟩, hb1⟩
  obtain ⟨qa, qc, sa, sc, rfl, rfl, hnet⟩ := net_of_new n1 n2
  have HB1 := Lib.hid (((Below.refl _ w).alloc (Nat.le_refl _) (.cells #[.slice pa P.length pc, .slice ta T.length tc] 24)).trans (hb1.mono (by simp)))
  have HNET := Lib.hid hnet
  clear hb1 n1 n2 hnet
  go_wp2_with fail
  refine (list_any xs ao xb xo xc _ (HX.out.below HB1.out (Nat.le_refl _)) HC.out HN.out).mono ?_
  rintro e w2 ⟨v, rfl, hv, hb2⟩
  obtain ⟨ya, yb, yc, rfl, hy, -⟩ := hv.at
  have HY := Lib.hid (hy.alloc (.cells #[.slice qa (trim P).length qc, .slice sa (trim T).length sc] 24))
  have HNET2 := Lib.hid ((HNET.out.below hb2 (Nat.le_refl _)).alloc (.cells #[.slice qa (trim P).length qc, .slice sa (trim T).length sc] 24))
  have HB2 := Lib.hid ((HB1.out.trans (hb2.mono HB1.out.size)).alloc (by have := HB1.out.size; have := hb2.size; omega) (.cells #[.slice qa (trim P).length qc, .slice sa (trim T).length sc] 24))
  obtain ⟨P', hP'⟩ : ∃ P', trim P = P' := ⟨_, rfl⟩
  obtain ⟨T', hT'⟩ : ∃ T', trim T = T' := ⟨_, rfl⟩
  obtain ⟨ys, hys⟩ : ∃ ys, xs.take 20 = ys := ⟨_, rfl⟩
  rw [hys] at HY ⊢
  rw [hP', hT'] at HY HNET2 HB2 ⊢
  clear hv hy hb2 HNET HB1 HX HP HT CP CT HC HN hP' hT' hys
  go_wp2_with fail
  obtain ⟨nb, hnb⟩ : ∃ nb, w2.heap.size = nb := ⟨_, rfl⟩
  obtain ⟨wa, hwa⟩ : ∃ wa, w2.alloc (.cells #[.slice qa P'.length qc, .slice sa T'.length sc] 24) = wa := ⟨_, rfl⟩
  have hblk : wa.heap[nb]? = some (.cells #[.slice qa P'.length qc, .slice sa T'.length sc] 24 (0, 0)) := by rw [← hwa, ← hnb]; exact heap_alloc_new _ _
  have HBLK := Lib.hid hblk
  rw [hwa] at HY HNET2 HB2 ⊢
  clear hwa hblk
  cases hn : isNet P' T'
  · have HI := Lib.hid hn
    have hj0 := joint_noNet P' T' (.agg #[.slice qa P'.length qc, .slice sa T'.length sc]) ys ya yc wa HNET2.out hn
    unfold zeroF at hj0
    refine hj0.mono ?_
    rintro e w3 ⟨rfl, hb3⟩
    have HB3 := Lib.hid hb3
    obtain ⟨c0, c1, -, -⟩ := cells_of2 ((HB3.out.block _ (lt_of_block HBLK.out)).trans HBLK.out)
    have hlt : nb < w3.heap.size := Nat.lt_of_lt_of_le (lt_of_block HBLK.out) HB3.out.size
    clear hb3 hn hj0
    go_wp2_with fail
    have hr := refNetwork_any P' T' (.agg #[.slice qa P'.length qc, .slice sa T'.length sc]) (w3.alloc (.cells #[.int .i64 0, .int .i64 0] 29)) ((HNET2.out.below HB3.out (Nat.le_refl _)).alloc _)
    rw [HI.out] at hr
    refine hr.mono ?_
    rintro e w4 ⟨rfl, hb4⟩
    obtain ⟨d0, d1, -, -⟩ := cells_of2 ((hb4.block w3.heap.size (by simp)).trans (heap_alloc_new _ _))
    have HB4 := Lib.hid (((HB2.out.trans (HB3.out.mono HB2.out.size)).alloc (by have := HB2.out.size; have := HB3.out.size; omega) (.cells #[.int .i64 0, .int .i64 0] 29)).trans (hb4.mono (by have := HB2.out.size; have := HB3.out.size; simp; omega)))
    clear hr hb4 c0 c1
    go_wp2_with fail
    refine (awake_any _).mono ?_
    rintro e w5 ⟨rfl, hb5⟩
    have HB5 := Lib.hid (HB4.out.trans (hb5.mono HB4.out.size))
    clear hb5
    go_wp2
    go_ret
    exact ⟨rfl, HB5.out⟩
  · have HI := Lib.hid hn
    cases ha : okAsg ys P'.length
    · have HA := Lib.hid ha
      have hj0 := joint_noAsg P' T' (.agg #[.slice qa P'.length qc, .slice sa T'.length sc]) ys ya yb 0 yc wa HNET2.out HY.out hn ha
      unfold zeroF at hj0
      refine hj0.mono ?_
      rintro e w3 ⟨rfl, hb3⟩
      have HB3 := Lib.hid hb3
      obtain ⟨c0, c1, -, -⟩ := cells_of2 ((HB3.out.block _ (lt_of_block HBLK.out)).trans HBLK.out)
      have hlt : nb < w3.heap.size := Nat.lt_of_lt_of_le (lt_of_block HBLK.out) HB3.out.size
      clear hb3 hn ha hj0
      go_wp2_with fail
      have hr := refNetwork_any P' T' (.agg #[.slice qa P'.length qc, .slice sa T'.length sc]) (w3.alloc (.cells #[.int .i64 0, .int .i64 0] 29)) ((HNET2.out.below HB3.out (Nat.le_refl _)).alloc _)
      rw [HI.out] at hr
      refine hr.mono ?_
      rintro e w4 ⟨rfl, hb4⟩
      have HB34 := Lib.hid (((Below.refl _ w3).alloc (Nat.le_refl _) (.cells #[.int .i64 0, .int .i64 0] 29)).trans (hb4.mono (by simp)))
      have HF4 := Lib.hid ((hb4.block w3.heap.size (by simp)).trans (heap_alloc_new w3 (.cells #[.int .i64 0, .int .i64 0] 29)))
      obtain ⟨d0, d1, -, -⟩ := cells_of2 ((HB34.out.block _ hlt).trans ((HB3.out.block _ (lt_of_block HBLK.out)).trans HBLK.out))
      have hlt4 : nb < w4.heap.size := Nat.lt_of_lt_of_le hlt HB34.out.size
      have hf4 := lt_of_block HF4.out
      clear hr hb4 c0 c1
      go_wp2_with fail
      have hj := refJoint_any P' T' (.agg #[.slice qa P'.length qc, .slice sa T'.length sc]) ys ya yb 0 yc w4 ((HNET2.out.below HB3.out (Nat.le_refl _)).below HB34.out (Nat.le_refl _)) ((HY.out.below HB3.out (Nat.le_refl _)).below HB34.out (Nat.le_refl _)) (of_decide_eq_true HI.out)
      rw [jointV_no HA.out, HA.out] at hj
      unfold zeroF at hj
      refine hj.mono ?_
      rintro e w5 ⟨rfl, hb5⟩
      obtain ⟨e0, e1, -, -⟩ := cells_of2 ((hb5.block _ hf4).trans HF4.out)
      have hf5 : w3.heap.size < w5.heap.size := Nat.lt_of_lt_of_le hf4 hb5.size
      have HB5 := Lib.hid (((HB2.out.trans (HB3.out.mono HB2.out.size)).trans (HB34.out.mono (by have := HB2.out.size; have := HB3.out.size; omega))).trans (hb5.mono (by have := HB2.out.size; have := HB3.out.size; have := HB34.out.size; omega)))
      clear hj hb5 d0 d1
      go_wp2_with fail
      refine (awake_any _).mono ?_
      rintro e w6 ⟨rfl, hb6⟩
      have HB6 := Lib.hid ((HB5.out.alloc HB5.out.size (.cells #[.int .i64 0, .int .i64 0] 29)).trans (hb6.mono (by have := HB5.out.size; simp; omega)))
      clear hb6
      go_wp2
      go_ret
      exact ⟨rfl, HB6.out⟩
    · have HA := Lib.hid ha
      have hjo := joint_ok P' T' (.agg #[.slice qa P'.length qc, .slice sa T'.length sc]) ys ya yb 0 yc wa HNET2.out HY.out hn ha
      obtain ⟨fa, fb, hfab⟩ : ∃ fa fb : Int, fracV (wt P' T' (nth ys) P'.length) (16 ^ P'.length) = .agg #[.int .i64 fa, .int .i64 fb] := ⟨_, _, rfl⟩
      have HFAB := Lib.hid hfab
      rw [hfab] at hjo
      refine hjo.mono ?_
      rintro e w3 ⟨rfl, hb3⟩
      have HB3 := Lib.hid hb3
      obtain ⟨c0, c1, -, -⟩ := cells_of2 ((HB3.out.block _ (lt_of_block HBLK.out)).trans HBLK.out)
      have hlt : nb < w3.heap.size := Nat.lt_of_lt_of_le (lt_of_block HBLK.out) HB3.out.size
      clear hb3 hn ha hjo hfab
      go_wp2_with fail
      have hr := refNetwork_any P' T' (.agg #[.slice qa P'.length qc, .slice sa T'.length sc]) (w3.alloc (.cells #[.int .i64 fa, .int .i64 fb] 29)) ((HNET2.out.below HB3.out (Nat.le_refl _)).alloc _)
      rw [HI.out] at hr
      refine hr.mono ?_
      rintro e w4 ⟨rfl, hb4⟩
      have HB34 := Lib.hid (((Below.refl _ w3).alloc (Nat.le_refl _) (.cells #[.int .i64 fa, .int .i64 fb] 29)).trans (hb4.mono (by simp)))
      have HF4 := Lib.hid ((hb4.block w3.heap.size (by simp)).trans (heap_alloc_new w3 (.cells #[.int .i64 fa, .int .i64 fb] 29)))
      obtain ⟨d0, d1, -, -⟩ := cells_of2 ((HB34.out.block _ hlt).trans ((HB3.out.block _ (lt_of_block HBLK.out)).trans HBLK.out))
      have hlt4 : nb < w4.heap.size := Nat.lt_of_lt_of_le hlt HB34.out.size
      have hf4 := lt_of_block HF4.out
      clear hr hb4 c0 c1
      go_wp2_with fail
      have hj := refJoint_any P' T' (.agg #[.slice qa P'.length qc, .slice sa T'.length sc]) ys ya yb 0 yc w4 ((HNET2.out.below HB3.out (Nat.le_refl _)).below HB34.out (Nat.le_refl _)) ((HY.out.below HB3.out (Nat.le_refl _)).below HB34.out (Nat.le_refl _)) (of_decide_eq_true HI.out)
      rw [jointV_yes HA.out, HA.out, HFAB.out] at hj
      refine hj.mono ?_
      rintro e w5 ⟨rfl, hb5⟩
      obtain ⟨e0, e1, -, -⟩ := cells_of2 ((hb5.block _ hf4).trans HF4.out)
      have hf5 : w3.heap.size < w5.heap.size := Nat.lt_of_lt_of_le hf4 hb5.size
      have HB5 := Lib.hid (((HB2.out.trans (HB3.out.mono HB2.out.size)).trans (HB34.out.mono (by have := HB2.out.size; have := HB3.out.size; omega))).trans (hb5.mono (by have := HB2.out.size; have := HB3.out.size; have := HB34.out.size; omega)))
      clear hj hb5 d0 d1
      go_wp2_with fail
      refine (awake_any _).mono ?_
      rintro e w6 ⟨rfl, hb6⟩
      have HB6 := Lib.hid ((HB5.out.alloc HB5.out.size (.cells #[.int .i64 fa, .int .i64 fb] 29)).trans (hb6.mono (by have := HB5.out.size; simp; omega)))
      clear hb6
      go_wp2
      go_ret
      exact ⟨rfl, HB6.out⟩

end Go.Proofs.Ytghffnjnpgiicaa

