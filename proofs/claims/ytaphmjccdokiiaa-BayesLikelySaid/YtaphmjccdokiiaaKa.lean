/- The statements' copy of a list of pairs. -/
import Derived.Test.YtaphmjccdokiiaaL
import Derived.Test.YtaphmjccdokiiaaE
namespace Go.Proofs.Ytaphmjccdokiiaa
open Go.RowKit Go.Maps

theorem Try.info52 : (Try.prog.info? 52).map (fun i => (i.zero, i.size, i.bytes)) = some (some (.agg #[.int .i64 0, .int .i64 0]), 2, 16) := by kernel_rfl

/-- The cells of pairs, one behind the other. -/
def cells2 : List (Int × Int) → List Value
  | [] => []
  | p :: l => .int .i64 p.1 :: .int .i64 p.2 :: cells2 l
theorem cells2_length : ∀ ps : List (Int × Int), (cells2 ps).length = ps.length * 2
  | [] => rfl
  | p :: l => by simp [cells2, cells2_length l]; omega
theorem cells2_get : ∀ (ps : List (Int × Int)) (i : Nat), i < ps.length → (cells2 ps)[i * 2]? = some (.int .i64 (pf ps i)) ∧ (cells2 ps)[i * 2 + 1]? = some (.int .i64 (pv ps i))
  | [], i, h => by simp at h
  | p :: l, 0, h => ⟨rfl, rfl⟩
  | p :: l, i + 1, h => by
    have := cells2_get l i (by simpa using h)
    rw [show (i + 1) * 2 = i * 2 + 1 + 1 by omega]
    simpa [cells2, pf, pv] using this
theorem cells2_one : ∀ (ps : List (Int × Int)), ∀ u ∈ cells2 ps, u.oneCell' = true
  | [], u, h => by simp [cells2] at h
  | p :: l, u, h => by
    simp only [cells2, List.mem_cons] at h
    rcases h with rfl | rfl | h
    · rfl
    · rfl
    · exact cells2_one l u h

/-- A slice of pairs in memory that is new since the heap had B blocks. -/
structure NewPairs (B : Nat) (w : World) (v : Value) (ps : List (Int × Int)) : Prop where
  own : w.ownsRow B 52 2 v ps.length (cells2 ps)
  wf : ∀ i, (-9223372036854775808 ≤ pf ps i ∧ pf ps i ≤ 9223372036854775807) ∧ -9223372036854775808 ≤ pv ps i ∧ pv ps i ≤ 9223372036854775807
  len : ps.length ≤ 140737488351232

theorem NewPairs.at {B : Nat} {w : World} {v : Value} {ps : List (Int × Int)} (h : NewPairs B w v ps) : ∃ ao b cap, v = .slice ao ps.length cap ∧ PairsAt w ao b 0 ps := by
  obtain ⟨⟨hl, h1⟩, hwf, hlen⟩ := h
  rcases h1 with ⟨rfl, h0⟩ | ⟨g, cap, cur, rfl, hg, hh, hcap, hm, hcs, htk⟩
  · have : ps = [] := List.length_eq_zero_iff.1 h0
    subst this
    exact ⟨none, 0, 0, rfl, ⟨fun h => by simp at h, fun i hi => by simp at hi, fun i hi => by simp at hi, by simp, hwf⟩⟩
  · have hget : ∀ j, j < ps.length * 2 → cur[j]? = (cells2 ps)[j]? := fun j hj => by
      rw [← htk, List.getElem?_take, if_pos (by omega)]; simp
    refine ⟨some ⟨g, 0, none⟩, g, cap, rfl, ⟨fun _ => ⟨rfl, lt_of_block hh⟩, fun i hi => ?_, fun i hi => ?_, hlen, hwf⟩⟩
    · rw [cell_of_row _ _ _ _ _ _ hh, Nat.zero_add, hget _ (by omega)]; exact (cells2_get ps i hi).1
    · rw [cell_of_row _ _ _ _ _ _ hh, Nat.zero_add, hget _ (by omega)]; exact (cells2_get ps i hi).2

theorem NewPairs.nil (B : Nat) (w : World) : NewPairs B w (.slice none 0 0) [] := ⟨⟨rfl, .inl ⟨rfl, rfl⟩⟩, fun i => by simp [pf, pv], by simp⟩

theorem pf_take {ps : List (Int × Int)} {n i : Nat} (h : i < n) : pf (ps.take n) i = pf ps i ∧ pv (ps.take n) i = pv ps i := by
  simp [pf, pv, List.getD_eq_getElem?_getD, List.getElem?_take, h]
theorem pf_out {ps : List (Int × Int)} {i : Nat} (h : ps.length ≤ i) : pf ps i = 0 ∧ pv ps i = 0 := by
  simp [pf, pv, List.getD_eq_getElem?_getD, List.getElem?_eq_none h]
theorem pwf_take {ps : List (Int × Int)} {n : Nat} (h : ∀ i, (-9223372036854775808 ≤ pf ps i ∧ pf ps i ≤ 9223372036854775807) ∧ -9223372036854775808 ≤ pv ps i ∧ pv ps i ≤ 9223372036854775807) :
    ∀ i, (-9223372036854775808 ≤ pf (ps.take n) i ∧ pf (ps.take n) i ≤ 9223372036854775807) ∧ -9223372036854775808 ≤ pv (ps.take n) i ∧ pv (ps.take n) i ≤ 9223372036854775807 := by
  intro i
  by_cases hi : i < n
  · rw [(pf_take hi).1, (pf_take hi).2]; exact h i
  · have : (ps.take n).length ≤ i := by rw [List.length_take]; omega
    rw [(pf_out this).1, (pf_out this).2]; omega

theorem news2_at {w : World} {ao : Option Addr} {b o : Nat} {ps : List (Int × Int)} (h : PairsAt w ao b o ps) (ad : Addr) (had : ao = some ad) (n : Nat) :
    ∀ j u, (cells2 (ps.take n))[j]? = some u → w.cell? (ad.add j) = some u := by
  intro j u hj
  have hlt : j < (cells2 (ps.take n)).length := (List.getElem?_eq_some_iff.1 hj).1
  rw [cells2_length, List.length_take] at hlt
  have h0 := (h.ptr (by omega)).1
  rw [had] at h0
  obtain rfl : ad = ⟨b, o, none⟩ := Option.some.inj h0
  have hadd : (⟨b, o, none⟩ : Addr).add j = ⟨b, o + j, none⟩ := by unfold Addr.add; split <;> simp_all
  rw [hadd]
  have hi : j / 2 < (ps.take n).length := by rw [List.length_take]; omega
  have hg := cells2_get (ps.take n) (j / 2) hi
  rw [(pf_take (by omega)).1, (pf_take (by omega)).2] at hg
  rcases Nat.mod_two_eq_zero_or_one j with e | e
  · have ej : j = j / 2 * 2 := by omega
    rw [ej, hg.1] at hj
    rw [ej, ← hj]
    exact h.cell0 (j / 2) (by omega)
  · have ej : j = j / 2 * 2 + 1 := by omega
    rw [ej, hg.2] at hj
    rw [ej, ← hj]
    exact h.cell1 (j / 2) (by omega)

theorem own2_nil (w : World) (B : Nat) : w.ownsRow B 52 2 (.slice none 0 0) 0 [] := ⟨rfl, .inl ⟨rfl, rfl⟩⟩

set_option maxHeartbeats 400000 in
set_option maxRecDepth 100000 in
theorem facts_any (ps : List (Int × Int)) (ao : Option Addr) (b o cap : Nat) (w : World) (h : PairsAt w ao b o ps) (hcap : ps.length ≤ cap) (hnil : ao = none → cap = 0) :
    Calls Try.prog 21 #[.slice ao ps.length cap] w fun e w' => ∃ v, e = .returned v ∧ NewPairs w.heap.size w' v (ps.take 20) ∧ Below w.heap.size w w' := by
  obtain ⟨i0, hi, hz0, hz1, hz2⟩ := info_parts Try.info52
  have hl := h.len
  have hwf := pwf_take (n := 20) h.wf
  cases ao with
  | none =>
    have hx : ps = [] := by
      cases ps with
      | nil => rfl
      | cons x l => exact absurd (h.ptr (by simp)).1 (by simp)
    subst hx
    obtain rfl := hnil rfl
    clear h hcap hnil
    go_enter Try.func21, Try.ntmps21
    go_wp2_with (at_builtin; (refine wpList_append_own_none rfl (.tmp 4) (.tmp 9) 38 rfl w.heap.size 52 i0 2 Try.underlying38 hi _ 0 [] rfl (own2_nil _ _) rfl ?_))
    go_ret
    exact ⟨_, rfl, NewPairs.nil _ _, Below.refl _ _⟩
  | some ad =>
    have HN := Lib.hid (news2_at h ad rfl 20)
    have HW := Lib.hid hwf
    clear h hnil hwf
    have HE := Lib.hid (show (ps.take 20).length = min 20 ps.length from List.length_take)
    by_cases h20 : ps.length ≤ 20
    · have hm : (ps.take 20).length = ps.length := by rw [HE.out]; omega
      have HM := Lib.hid hm
      clear hm
      go_enter Try.func21, Try.ntmps21
      go_wp2_with (at_builtin; (refine wpList_append_own _ rfl (.tmp 4) (.tmp 9) 38 rfl w.heap.size 52 i0 (.agg #[.int .i64 0, .int .i64 0]) 2 16 Try.underlying38 hi hz0 hz1 hz2 rfl (by decide) _ 0 [] rfl (own2_nil _ _) ad ps.length cap (cells2 (ps.take 20)) rfl ?c1 HN.out (cells2_one _) ?c3 ?c4 (Nat.le_refl _) ?_))
      case c1 => rw [cells2_length, HM.out]
      case c3 => unfold maxLen; omega
      case c4 => omega
      intro v' w1 hown hg _
      go_wp2
      go_ret
      exact ⟨_, rfl, ⟨by rw [HM.out]; simpa using hown, HW.out, by rw [HM.out]; omega⟩, (Below.refl _ _).grown hg (Nat.le_refl _) (fun k hk => by simp [Value.ownBlock] at hk)⟩
    · have hm : (ps.take 20).length = 20 := by rw [HE.out]; omega
      have HM := Lib.hid hm
      clear hm
      go_enter Try.func21, Try.ntmps21
      go_wp2_with (at_builtin; (refine wpList_append_own _ rfl (.tmp 4) (.tmp 9) 38 rfl w.heap.size 52 i0 (.agg #[.int .i64 0, .int .i64 0]) 2 16 Try.underlying38 hi hz0 hz1 hz2 rfl (by decide) _ 0 [] rfl (own2_nil _ _) ad 20 cap (cells2 (ps.take 20)) rfl ?c1 HN.out (cells2_one _) ?c3 ?c4 (Nat.le_refl _) ?_))
      case c1 => rw [cells2_length, HM.out]
      case c3 => unfold maxLen; omega
      case c4 => omega
      intro v' w1 hown hg _
      go_wp2
      go_ret
      exact ⟨_, rfl, ⟨by rw [HM.out]; simpa using hown, HW.out, by rw [HM.out]; omega⟩, (Below.refl _ _).grown hg (Nat.le_refl _) (fun k hk => by simp [Value.ownBlock] at hk)⟩

end Go.Proofs.Ytaphmjccdokiiaa
