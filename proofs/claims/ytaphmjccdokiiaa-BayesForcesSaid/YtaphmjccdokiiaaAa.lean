/- Separated: variables and a set that are valid. -/
import Derived.Test.YtaphmjccdokiiaaZ
namespace Go.Proofs.Ytaphmjccdokiiaa
open Go.RowKit

/-- The trail that Separated looks for. -/
def sepTrail (P : List (List Int)) (xs : List Int) (x y : Nat) : Option (List Nat) :=
  dfs (webOf P (fun v => hasI xs (v : Int))) y P.length [x]

def SepRes (w : World) (r : Option (List Nat)) (e : Ending) (w' : World) : Prop :=
  ∃ v, e = .returned (.tuple #[.bool r.isNone, v, .int .i64 0]) ∧ NewInts w.heap.size w' v (ints (r.getD [])) ∧ (r = none → v = .slice none 0 0) ∧ Below w.heap.size w w'

theorem info_mem (m : Nat → Bool) : (Try.prog.info? 97).map (·.size) = some (memF m).size := by
  rw [show (memF m).size = 10 by simp [memF, arrF_size]]; kernel_rfl
theorem old_mem (m : Nat → Bool) : (#[.bool false, .bool false, .bool false, .bool false, .bool false, .bool false, .bool false, .bool false, .bool false, .bool false] : Array Value).size = (memF m).size := by simp [memF, arrF_size]

/-- A new variable with a set in it. -/
theorem mem_world (w2 : World) (m : Nat → Bool) : ∃ w3, (w2.alloc (.cells #[.bool false, .bool false, .bool false, .bool false, .bool false, .bool false, .bool false, .bool false, .bool false, .bool false] 97)).setRow w2.heap.size (memF m) = w3 ∧
    w3.heap[w2.heap.size]? = some (.cells (memF m) 97 (0, 0)) ∧ Below w2.heap.size w2 w3 :=
  ⟨_, rfl, setRow_heap _ _ _ _ _ _ (heap_alloc_new _ _), below_setRow ((Below.refl _ _).alloc (Nat.le_refl _) _) (Nat.le_refl _) _⟩

set_option maxHeartbeats 4000000 in
set_option maxRecDepth 100000 in
theorem sep_ok (P T : List (List Int)) (v : Value) (xs : List Int) (x y : Nat) (ao : Option Addr) (xb xo xc : Nat) (w : World) (h : NetAt w v P T) (hX : IntsAt w ao xb xo xs) (hn : isNet P T = true)
    (hx : x < P.length) (hy : y < P.length) (hxy : x ≠ y) (ho : okSet xs P.length = true) (h1 : hasI xs (x : Int) = false) (h2 : hasI xs (y : Int) = false) :
    Calls Try.prog 27 #[v, .int .i64 x, .int .i64 y, .slice ao xs.length xc] w (SepRes w (sepTrail P xs x y)) := by
  have HNet := Lib.hid h
  have HN' := Lib.hid hn
  have HN := Lib.hid (of_decide_eq_true hn : IsNet P T)
  have HX := Lib.hid hX
  have HO := Lib.hid ho
  obtain ⟨pa, b, o, pc, A, B, O, C, ta, b', o', tc, A', B', O', C', rfl, hP, hT⟩ := h.ex
  have h10 := HN.out.le
  have hv1 := fun w => isVariable_any (x : Int) P.length w
  have hv2 := fun w => isVariable_any (y : Int) P.length w
  rw [show isVar (x : Int) P.length = true from decide_eq_true (by omega)] at hv1
  rw [show isVar (y : Int) P.length = true from decide_eq_true (by omega)] at hv2
  have HV1 := Lib.hid hv1
  have HV2 := Lib.hid hv2
  have hq : ((x : Int) == (y : Int)) = false := by rw [beq_eq_false_iff_ne]; omega
  clear hP hT h hn hX ho hv1 hv2 hxy
  obtain ⟨r, hr⟩ : ∃ r, sepTrail P xs x y = r := ⟨_, rfl⟩
  rw [hr]
  have HR := Lib.hid hr
  clear hr
  go_enter Try.func27, Try.ntmps27
  go_wp2_with fail
  refine (isNetwork_any P T _ _ (HNet.out.alloc _)).mono ?_
  rw [HN'.out]
  rintro e w1 ⟨rfl, hb1⟩
  have HB1 := Lib.hid hb1
  have c0 := (HB1.out.block w.heap.size (by simp)).trans (heap_alloc_new _ _)
  have C0 := Lib.hid c0
  obtain ⟨d0, d1, -, -⟩ := cells_of2 c0
  clear c0 hb1
  go_wp2_with fail
  refine (HV1.out _).mono ?_
  rintro e w' ⟨rfl, rfl⟩
  go_wp2_with fail
  refine (HV2.out _).mono ?_
  rintro e w' ⟨rfl, rfl⟩
  go_wp2_with fail
  refine (toMembers_any xs P.length ao xb xo xc _ ((HX.out.alloc _).below HB1.out (Nat.le_refl _)) h10).mono ?_
  rw [HO.out]
  rintro e w2 ⟨⟨m, rfl, hm⟩, hb2⟩
  obtain rfl := hm rfl
  have HB2 := Lib.hid (HB1.out.trans (hb2.mono HB1.out.size))
  have c0 := (hb2.block _ (lt_of_block C0.out)).trans C0.out
  have C2 := Lib.hid c0
  obtain ⟨e0, e1, -, -⟩ := cells_of2 c0
  clear c0 hb2 d0 d1 C0 hm
  obtain ⟨w3, e3, hm3, hb3⟩ := mem_world w2 (fun v => hasI xs (v : Int))
  have HW3 := Lib.hid e3
  have HM3 := Lib.hid hm3
  have HB3 := Lib.hid (HB2.out.trans (hb3.mono HB2.out.size))
  have c0 := (hb3.block _ (lt_of_block C2.out)).trans C2.out
  obtain ⟨d0, d1, -, -⟩ := cells_of2 c0
  have hcx : w3.cell? ⟨w2.heap.size, x, none⟩ = some (.bool false) := by rw [cell_of_row _ _ _ _ _ _ HM3.out, memF, arrF_get (by omega), h1]
  have hcy : w3.cell? ⟨w2.heap.size, y, none⟩ = some (.bool false) := by rw [cell_of_row _ _ _ _ _ _ HM3.out, memF, arrF_get (by omega), h2]
  have hx10 : x < 10 := by omega
  have hy10 : y < 10 := by omega
  clear c0 e3 hm3 hb3 h1 h2 C2 e0 e1
  go_wp2_with (first
    | (refine wpList_store_row rfl 97 (.tmp 12) (.tmp 40) rfl w2.heap.size (memF fun v => hasI xs (v : Int)) rfl rfl 97 _ (heap_alloc_new _ _) (info_mem _) (old_mem _) (memF_all _) (wpList_world HW3.out ?_))
    | (refine wpList_load_row rfl 97 (.tmp 12) rfl w2.heap.size rfl 97 (memF fun v => hasI xs (v : Int)) (0, 0) _ HM3.out Try.underlying97 rfl (info_mem _) ?_))
  refine (newWeb_any P T _ _ _ ((HNet.out.alloc _).below HB3.out (Nat.le_refl _)) HN.out).mono ?_
  rintro e w4 ⟨rfl, hb4⟩
  have HB4 := Lib.hid (HB3.out.trans (hb4.mono HB3.out.size))
  clear hb4 hcx hcy d0 d1
  go_wp2_with fail
  refine (find_any (webOf P fun v => hasI xs (v : Int)) x y w4 h10 hx hy).mono ?_
  rintro e w5 ⟨v, rfl, hv, hnone, hb5⟩
  have HB5 := Lib.hid (HB4.out.trans (hb5.mono HB4.out.size))
  have HNI := Lib.hid (show NewInts w.heap.size w5 v (ints ((sepTrail P xs x y).getD [])) from ⟨own_base hv.own (by have := HB4.out.size; simp at this; omega), hv.wf, hv.len⟩)
  have HNONE := Lib.hid (show sepTrail P xs x y = none → v = .slice none 0 0 from hnone)
  have hne : ∀ q, r = some q → q ≠ [] := fun q hq => (dfs_plain (show dfs _ y P.length [x] = some q by rw [← hq, ← HR.out]; rfl) (by simp) (by simp) (by simp; exact hx)).1
  rw [HR.out] at HNI HNONE
  have HBW := Lib.hid (((Below.refl _ w).alloc (Nat.le_refl _) (.cells #[.slice pa P.length pc, .slice ta T.length tc] 24)).trans (HB5.out.mono (by simp)))
  have hob := HNI.out.at
  obtain ⟨ao1, b1, cap1, rfl, -, -⟩ := hob
  clear hb5 hv hnone HR HB1 HB2 HB3 HB4 HB5 HW3 HM3
  cases r with
  | none =>
    clear hne
    simp only [Option.getD_none, ints, List.map_nil, List.length_nil] at HNI HNONE ⊢
    go_wp2
    go_ret3
    exact ⟨_, rfl, HNI.out, (fun _ => HNONE.out trivial), HBW.out⟩
  | some q =>
    have hq := hne q rfl
    obtain ⟨n1, hn1, hpos⟩ : ∃ n1, (ints q).length = n1 ∧ 0 < n1 := ⟨_, rfl, by rw [ints_length]; exact List.length_pos_iff.2 hq⟩
    have hz : ((n1 : Int) == 0) = false := by rw [beq_eq_false_iff_ne]; omega
    simp only [Option.getD_some, hn1] at HNI HNONE ⊢
    clear hne hq hpos hn1
    go_wp2
    go_ret3
    exact ⟨_, rfl, HNI.out, (fun h => nomatch h), HBW.out⟩

end Go.Proofs.Ytaphmjccdokiiaa
