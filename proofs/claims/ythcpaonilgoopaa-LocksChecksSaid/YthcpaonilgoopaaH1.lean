/- Lists of pairs; the pairs of a set in their order. -/
import Derived.Test.YthcpaonilgoopaaG3
import Derived.Test.YthcpaonilgoopaaE2
import Derived.Test.YthcpaonilgoopaaA6
namespace Go.Proofs.Ythcpaonilgoopaa
open Go.RowKit Go.Maps

def pf (ps : List (Int × Int)) (i : Nat) : Int := (ps.getD i (0, 0)).1
def pv (ps : List (Int × Int)) (i : Nat) : Int := (ps.getD i (0, 0)).2

/-- The cells of a slice of pairs. -/
structure PairsAt (w : World) (ao : Option Addr) (b o : Nat) (ps : List (Int × Int)) : Prop where
  ptr : 0 < ps.length → ao = some ⟨b, o, none⟩ ∧ b < w.heap.size
  cell0 : ∀ i, i < ps.length → w.cell? ⟨b, o + i * 2, none⟩ = some (.int .i64 (pf ps i))
  cell1 : ∀ i, i < ps.length → w.cell? ⟨b, o + i * 2 + 1, none⟩ = some (.int .i64 (pv ps i))
  len : ps.length ≤ 140737488351232
  wf : ∀ i, (-9223372036854775808 ≤ pf ps i ∧ pf ps i ≤ 9223372036854775807) ∧ -9223372036854775808 ≤ pv ps i ∧ pv ps i ≤ 9223372036854775807

theorem PairsAt.below {B : Nat} {w w' : World} {ao : Option Addr} {b o : Nat} {ps : List (Int × Int)} (h : PairsAt w ao b o ps) (hb : Below B w w') (hB : w.heap.size ≤ B) : PairsAt w' ao b o ps := by
  refine ⟨fun hp => ⟨(h.ptr hp).1, Nat.lt_of_lt_of_le (h.ptr hp).2 hb.size⟩, fun i hi => ?_, fun i hi => ?_, h.len, h.wf⟩
  · have hlt := (h.ptr (by omega)).2
    rw [hb.cell (p := ⟨b, o + i * 2, none⟩) (by show b < B; omega)]; exact h.cell0 i hi
  · have hlt := (h.ptr (by omega)).2
    rw [hb.cell (p := ⟨b, o + i * 2 + 1, none⟩) (by show b < B; omega)]; exact h.cell1 i hi
theorem PairsAt.alloc {w : World} {ao : Option Addr} {b o : Nat} {ps : List (Int × Int)} (h : PairsAt w ao b o ps) (x : Obj) : PairsAt (w.alloc x) ao b o ps :=
  h.below ((Below.refl _ _).alloc (Nat.le_refl _) x) (Nat.le_refl _)

theorem Try.info23 : (Try.prog.info? 23).map (fun i => (i.zero, i.size, i.bytes)) = some (some (.agg #[.int .i64 0, .int .i64 0]), 2, 16) := by kernel_rfl

/-- The cells of pairs, one behind the other. -/
def cells2 : List (Int × Int) → List Value
  | [] => []
  | p :: l => .int .i64 p.1 :: .int .i64 p.2 :: cells2 l
theorem cells2_length : ∀ ps : List (Int × Int), (cells2 ps).length = ps.length * 2
  | [] => rfl
  | p :: l => by simp [cells2, cells2_length l]; omega
theorem cells2_get : ∀ (ps : List (Int × Int)) (i : Nat), i < ps.length → (cells2 ps)[i * 2]? = some (.int .i64 (pf ps i)) ∧ (cells2 ps)[i * 2 + 1]? = some (.int .i64 (pv ps i))
  | [], i, h => by simp at h
  | p :: l, 0, h => ⟨rfl, rfl⟩
  | p :: l, i + 1, h => by
    have := cells2_get l i (by simpa using h)
    rw [show (i + 1) * 2 = i * 2 + 1 + 1 by omega]
    simpa [cells2, pf, pv] using this
theorem cells2_one : ∀ (ps : List (Int × Int)), ∀ u ∈ cells2 ps, u.oneCell' = true
  | [], u, h => by simp [cells2] at h
  | p :: l, u, h => by
    simp only [cells2, List.mem_cons] at h
    rcases h with rfl | rfl | h
    · rfl
    · rfl
    · exact cells2_one l u h

/-- A slice of pairs in memory that is new since the heap had B blocks. -/
structure NewPairs (B : Nat) (w : World) (v : Value) (ps : List (Int × Int)) : Prop where
  own : w.ownsRow B 23 2 v ps.length (cells2 ps)
  wf : ∀ i, (-9223372036854775808 ≤ pf ps i ∧ pf ps i ≤ 9223372036854775807) ∧ -9223372036854775808 ≤ pv ps i ∧ pv ps i ≤ 9223372036854775807
  len : ps.length ≤ 140737488351232

theorem NewPairs.at {B : Nat} {w : World} {v : Value} {ps : List (Int × Int)} (h : NewPairs B w v ps) : ∃ ao b cap, v = .slice ao ps.length cap ∧ PairsAt w ao b 0 ps := by
  obtain ⟨⟨hl, h1⟩, hwf, hlen⟩ := h
  rcases h1 with ⟨rfl, h0⟩ | ⟨g, cap, cur, rfl, hg, hh, hcap, hm, hcs, htk⟩
  · have : ps = [] := List.length_eq_zero_iff.1 h0
    subst this
    exact ⟨none, 0, 0, rfl, ⟨fun h => by simp at h, fun i hi => by simp at hi, fun i hi => by simp at hi, by simp, hwf⟩⟩
  · have hget : ∀ j, j < ps.length * 2 → cur[j]? = (cells2 ps)[j]? := fun j hj => by
      rw [← htk, List.getElem?_take, if_pos (by omega)]; simp
    refine ⟨some ⟨g, 0, none⟩, g, cap, rfl, ⟨fun _ => ⟨rfl, lt_of_block hh⟩, fun i hi => ?_, fun i hi => ?_, hlen, hwf⟩⟩
    · rw [cell_of_row _ _ _ _ _ _ hh, Nat.zero_add, hget _ (by omega)]; exact (cells2_get ps i hi).1
    · rw [cell_of_row _ _ _ _ _ _ hh, Nat.zero_add, hget _ (by omega)]; exact (cells2_get ps i hi).2

theorem NewPairs.nil (B : Nat) (w : World) : NewPairs B w (.slice none 0 0) [] := ⟨⟨rfl, .inl ⟨rfl, rfl⟩⟩, fun i => by simp [pf, pv], by simp⟩

theorem pf_snoc (ps : List (Int × Int)) (p : Int × Int) (i : Nat) : pf (ps ++ [p]) i = if i = ps.length then p.1 else pf ps i := by
  unfold pf
  rw [List.getD_eq_getElem?_getD, List.getD_eq_getElem?_getD]
  by_cases h : i < ps.length
  · rw [if_neg (by omega), List.getElem?_append_left h]
  · by_cases e : i = ps.length
    · subst e; simp
    · rw [if_neg e, List.getElem?_eq_none (by simp; omega), List.getElem?_eq_none (by omega)]
theorem pv_snoc (ps : List (Int × Int)) (p : Int × Int) (i : Nat) : pv (ps ++ [p]) i = if i = ps.length then p.2 else pv ps i := by
  unfold pv
  rw [List.getD_eq_getElem?_getD, List.getD_eq_getElem?_getD]
  by_cases h : i < ps.length
  · rw [if_neg (by omega), List.getElem?_append_left h]
  · by_cases e : i = ps.length
    · subst e; simp
    · rw [if_neg e, List.getElem?_eq_none (by simp; omega), List.getElem?_eq_none (by omega)]
theorem cells2_snoc : ∀ (ps : List (Int × Int)) (p : Int × Int), cells2 (ps ++ [p]) = cells2 ps ++ [.int .i64 p.1, .int .i64 p.2]
  | [], p => rfl
  | q :: l, p => by simp [cells2, cells2_snoc l p]

/-- Own pairs, and one more. -/
theorem NewPairs.snoc {B C : Nat} {w w' : World} {v v' : Value} {ps : List (Int × Int)} {p : Int × Int} (h : NewPairs C w v ps) (hl : ps.length ≤ 1000) (hp : (-9223372036854775808 ≤ p.1 ∧ p.1 ≤ 9223372036854775807) ∧ -9223372036854775808 ≤ p.2 ∧ p.2 ≤ 9223372036854775807)
    (hown : w'.ownsRow B 23 2 v' (ps.length + 1) (cells2 ps ++ [.int .i64 p.1, .int .i64 p.2])) : NewPairs B w' v' (ps ++ [p]) := by
  refine ⟨by rw [List.length_append, cells2_snoc]; exact hown, fun i => ?_, by rw [List.length_append]; simp; omega⟩
  rw [pf_snoc, pv_snoc]
  split
  · exact hp
  · exact h.wf i


/-- The pairs of a set with numbers below n, in ascending order. -/
def wrL (f : Nat → Bool) : Nat → List (Int × Int)
  | 0 => []
  | n + 1 => if f n = true then wrL f n ++ [(((n / 6 : Nat) : Int), ((n % 6 : Nat) : Int))] else wrL f n
theorem wrL_len (f : Nat → Bool) : ∀ n, (wrL f n).length ≤ n
  | 0 => Nat.le_refl _
  | n + 1 => by
    have := wrL_len f n
    rw [wrL]
    split
    · rw [List.length_append]; simp; omega
    · omega
theorem wrL_congr {f g : Nat → Bool} : ∀ n, (∀ t, t < n → f t = g t) → wrL f n = wrL g n
  | 0, _ => rfl
  | n + 1, h => by rw [wrL, wrL, h n (by omega), wrL_congr n fun t ht => h t (by omega)]
theorem wrL_none {f : Nat → Bool} {m : Nat} : ∀ n, m ≤ n → (∀ t, m ≤ t → t < n → f t = false) → wrL f n = wrL f m
  | 0, h, _ => by rw [show m = 0 by omega]
  | n + 1, h, hf => by
    by_cases e : m = n + 1
    · rw [e]
    · rw [wrL, hf n (by omega) (by omega), if_neg (by decide)]
      exact wrL_none n (by omega) fun t h1 h2 => hf t h1 (by omega)
theorem wrL_yes {f : Nat → Bool} {i j : Nat} (hj : j < 6) (h : f (6 * i + j) = true) : wrL f (6 * i + j + 1) = wrL f (6 * i + j) ++ [((i : Int), (j : Int))] := by
  rw [wrL, if_pos h, show (6 * i + j) / 6 = i by omega, show (6 * i + j) % 6 = j by omega]
theorem wrL_no {f : Nat → Bool} {n : Nat} (h : f n = false) : wrL f (n + 1) = wrL f n := by
  rw [wrL, h, if_neg (by decide)]

set_option maxHeartbeats 4000000 in
set_option maxRecDepth 100000 in
theorem list_any (f : Nat → Bool) (w : World) :
    Calls Try.prog 43 #[sv f] w fun e w' => ∃ v, e = .returned v ∧ NewPairs w.heap.size w' v (wrL f 36) ∧ Below w.heap.size w w' := by
  obtain ⟨i0, hi0, hz0, hz1, hz2⟩ := info_parts Try.info23
  have HH := Lib.hid (fun k j w (hk : k < 6) (hj : j < 6) => has_any f k j w hk hj)
  obtain ⟨s, hs⟩ : ∃ s, sv f = s := ⟨_, rfl⟩
  rw [hs] at HH ⊢
  clear hs
  go_enter Try.func43, Try.ntmps43
  go_wp2
  go_loopw [3, 4, 5, 6] (fun v _ _ x wr => ∃ i : Nat, i ≤ 6 ∧ x = .int .i64 i ∧ NewPairs w.heap.size wr v (wrL f (6 * i)) ∧ Below w.heap.size w wr) (fun _ _ _ x _ => 6 - (intOf x).toNat)
  case atStart => exact ⟨0, by omega, rfl, NewPairs.nil _ _, Below.refl _ _⟩
  case round =>
    obtain ⟨i, hi, rfl, hn, hb⟩ := hrel
    have HN := Lib.hid hn
    have HB := Lib.hid hb
    clear hn hb
    by_cases hlt : i < 6
    · have hli : (i : Int) < 6 := by omega
      go_wp2
      go_loopw [3, 5, 9] (fun v _ x wr => ∃ j : Nat, j ≤ 6 ∧ x = .int .i64 j ∧ NewPairs w.heap.size wr v (wrL f (6 * i + j)) ∧ Below w.heap.size w wr) (fun _ _ x _ => 6 - (intOf x).toNat)
      case atStart => exact ⟨0, by omega, rfl, HN.out, HB.out⟩
      case round =>
        clear HN HB
        obtain ⟨j, hj, rfl, hn, hb⟩ := hrel
        obtain ⟨vo, vb, vc, rfl, -⟩ := hn.at
        have HN := Lib.hid hn
        have HB := Lib.hid hb
        clear hn hb
        by_cases hlj : j < 6
        · have hlj' : (j : Int) < 6 := by omega
          have HC := Lib.hid (HH.out i j wr hlt hlj)
          rcases Bool.eq_false_or_eq_true (f (6 * i + j)) with e | e
          · have HL := Lib.hid (wrL_yes hlj e)
            rw [e] at HC
            clear e
            have HQ := Lib.hid (HN.out.own.alloc (.cells #[.int .i64 i, .int .i64 j] 23))
            have HLE := Lib.hid (wrL_len f (6 * i + j))
            go_wp2_with fail
            refine HC.out.mono ?_
            rintro e w2 ⟨rfl, rfl⟩
            go_wp2_with (first
              | (at_builtin; refine wpList_append_own_at _ rfl (.tmp 16) (.tmp 20) 35 rfl w.heap.size 23 i0 (.agg #[.int .i64 0, .int .i64 0]) 2 16 Try.underlying35 hi0 hz0 hz1 hz2 rfl (by decide) (.slice vo (wrL f (6 * i + j)).length vc) (wrL f (6 * i + j)).length (cells2 (wrL f (6 * i + j))) rfl HQ.out ⟨w2.heap.size, 0, none⟩ 1 1 [.int .i64 i, .int .i64 j] rfl rfl ?q0 (by simp [Value.oneCell']) ?q2 ?q3 ?q4 ?_)
              | (fail))
            case q0 => exact World.news_of_block (cs := #[.int .i64 i, .int .i64 j]) (t := 23) (fr := (0, 0)) (heap_alloc_new w2 _)
            case q2 => have := HLE.out; unfold maxLen; omega
            case q3 => have := HLE.out; omega
            case q4 => have := HB.out.size; simp; omega
            intro v' w9 hown hgrow _ _
            have HS := Lib.hid (HN.out.snoc (p := ((i : Int), (j : Int))) (by have := HLE.out; omega) (by constructor <;> simp <;> omega) hown)
            have HB9 := Lib.hid ((HB.out.alloc HB.out.size (.cells #[.int .i64 i, .int .i64 j] 23)).grown hgrow (by have := HB.out.size; simp; omega) (fun r hr => (HQ.out.lt r hr).1))
            clear hown hgrow
            go_wp2
            go_roundw
            case rel => exact ⟨j + 1, by omega, by go_num, by rw [← Nat.add_assoc, HL.out]; exact HS.out, HB9.out⟩
            case measure => simp [intOf]; omega
          · have HL := Lib.hid (wrL_no e)
            rw [e] at HC
            clear e
            go_wp2_with fail
            refine HC.out.mono ?_
            rintro e w2 ⟨rfl, rfl⟩
            go_wp2
            go_roundw
            case rel => exact ⟨j + 1, by omega, by go_num, by rw [← Nat.add_assoc, HL.out]; exact HN.out, HB.out⟩
            case measure => simp [intOf]; omega
        · have hj6 : j = 6 := by omega
          subst hj6
          go_wp2
          go_roundw
          case rel => exact ⟨i + 1, by omega, by go_num, HN.out, HB.out⟩
          case measure => simp [intOf]; omega
    · have hi6 : i = 6 := by omega
      subst hi6
      go_wp2
      go_ret
      exact ⟨_, rfl, HN.out, HB.out⟩

end Go.Proofs.Ythcpaonilgoopaa
