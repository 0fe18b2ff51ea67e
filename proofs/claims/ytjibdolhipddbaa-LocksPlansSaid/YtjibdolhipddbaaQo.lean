/- H1 H2 H3 H4 -/
import Derived.Test.YtjibdolhipddbaaQn
import Derived.Test.YtjibdolhipddbaaQk
import Derived.Test.YtjibdolhipddbaaQc
import Derived.Laws.StructEq
import Derived.Test.YtjibdolhipddbaaQi
/- Lists of pairs; the pairs of a set in their order. -/
namespace Go.Proofs.Ytjibdolhipddbaa
open Go.RowKit Go.Maps

def pf (ps : List (Int × Int)) (i : Nat) : Int := (ps.getD i (0, 0)).1
def pv (ps : List (Int × Int)) (i : Nat) : Int := (ps.getD i (0, 0)).2

/-- The cells of a slice of pairs. -/
structure PairsAt (w : World) (ao : Option Addr) (b o : Nat) (ps : List (Int × Int)) : Prop where
  ptr : 0 < ps.length → ao = some ⟨b, o, none⟩ ∧ b < w.heap.size
  cell0 : ∀ i, i < ps.length → w.cell? ⟨b, o + i * 2, none⟩ = some (.int .i64 (pf ps i))
  cell1 : ∀ i, i < ps.length → w.cell? ⟨b, o + i * 2 + 1, none⟩ = some (.int .i64 (pv ps i))
  len : ps.length ≤ 140737488351232
  wf : ∀ i, (-9223372036854775808 ≤ pf ps i ∧ pf ps i ≤ 9223372036854775807) ∧ -9223372036854775808 ≤ pv ps i ∧ pv ps i ≤ 9223372036854775807

theorem PairsAt.below {B : Nat} {w w' : World} {ao : Option Addr} {b o : Nat} {ps : List (Int × Int)} (h : PairsAt w ao b o ps) (hb : Below B w w') (hB : w.heap.size ≤ B) : PairsAt w' ao b o ps := by
  refine ⟨fun hp => ⟨(h.ptr hp).1, Nat.lt_of_lt_of_le (h.ptr hp).2 hb.size⟩, fun i hi => ?_, fun i hi => ?_, h.len, h.wf⟩
  · have hlt := (h.ptr (by omega)).2
    rw [hb.cell (p := ⟨b, o + i * 2, none⟩) (by show b < B; omega)]; exact h.cell0 i hi
  · have hlt := (h.ptr (by omega)).2
    rw [hb.cell (p := ⟨b, o + i * 2 + 1, none⟩) (by show b < B; omega)]; exact h.cell1 i hi
theorem PairsAt.alloc {w : World} {ao : Option Addr} {b o : Nat} {ps : List (Int × Int)} (h : PairsAt w ao b o ps) (x : Obj) : PairsAt (w.alloc x) ao b o ps :=
  h.below ((Below.refl _ _).alloc (Nat.le_refl _) x) (Nat.le_refl _)

theorem Try.info23 : (Try.prog.info? 23).map (fun i => (i.zero, i.size, i.bytes)) = some (some (.agg #[.int .i64 0, .int .i64 0]), 2, 16) := by kernel_rfl

/-- The cells of pairs, one behind the other. -/
def cells2 : List (Int × Int) → List Value
  | [] => []
  | p :: l => .int .i64 p.1 :: .int .i64 p.2 :: cells2 l
theorem cells2_length : ∀ ps : List (Int × Int), (cells2 ps).length = ps.length * 2
  | [] => rfl
  | p :: l => by simp [cells2, cells2_length l]; omega
theorem cells2_get : ∀ (ps : List (Int × Int)) (i : Nat), i < ps.length → (cells2 ps)[i * 2]? = some (.int .i64 (pf ps i)) ∧ (cells2 ps)[i * 2 + 1]? = some (.int .i64 (pv ps i))
  | [], i, h => by simp at h
  | p :: l, 0, h => ⟨rfl, rfl⟩
  | p :: l, i + 1, h => by
    have := cells2_get l i (by simpa using h)
    rw [show (i + 1) * 2 = i * 2 + 1 + 1 by omega]
    simpa [cells2, pf, pv] using this
theorem cells2_one : ∀ (ps : List (Int × Int)), ∀ u ∈ cells2 ps, u.oneCell' = true
  | [], u, h => by simp [cells2] at h
  | p :: l, u, h => by
    simp only [cells2, List.mem_cons] at h
    rcases h with rfl | rfl | h
    · rfl
    · rfl
    · exact cells2_one l u h

/-- A slice of pairs in memory that is new since the heap had B blocks. -/
structure NewPairs (B : Nat) (w : World) (v : Value) (ps : List (Int × Int)) : Prop where
  own : w.ownsRow B 23 2 v ps.length (cells2 ps)
  wf : ∀ i, (-9223372036854775808 ≤ pf ps i ∧ pf ps i ≤ 9223372036854775807) ∧ -9223372036854775808 ≤ pv ps i ∧ pv ps i ≤ 9223372036854775807
  len : ps.length ≤ 140737488351232

theorem NewPairs.at {B : Nat} {w : World} {v : Value} {ps : List (Int × Int)} (h : NewPairs B w v ps) : ∃ ao b cap, v = .slice ao ps.length cap ∧ PairsAt w ao b 0 ps := by
  obtain ⟨⟨hl, h1⟩, hwf, hlen⟩ := h
  rcases h1 with ⟨rfl, h0⟩ | ⟨g, cap, cur, rfl, hg, hh, hcap, hm, hcs, htk⟩
  · have : ps = [] := List.length_eq_zero_iff.1 h0
    subst this
    exact ⟨none, 0, 0, rfl, ⟨fun h => by simp at h, fun i hi => by simp at hi, fun i hi => by simp at hi, by simp, hwf⟩⟩
  · have hget : ∀ j, j < ps.length * 2 → cur[j]? = (cells2 ps)[j]? := fun j hj => by
      rw [← htk, List.getElem?_take, if_pos (by omega)]; simp
    refine ⟨some ⟨g, 0, none⟩, g, cap, rfl, ⟨fun _ => ⟨rfl, lt_of_block hh⟩, fun i hi => ?_, fun i hi => ?_, hlen, hwf⟩⟩
    · rw [cell_of_row _ _ _ _ _ _ hh, Nat.zero_add, hget _ (by omega)]; exact (cells2_get ps i hi).1
    · rw [cell_of_row _ _ _ _ _ _ hh, Nat.zero_add, hget _ (by omega)]; exact (cells2_get ps i hi).2

theorem NewPairs.nil (B : Nat) (w : World) : NewPairs B w (.slice none 0 0) [] := ⟨⟨rfl, .inl ⟨rfl, rfl⟩⟩, fun i => by simp [pf, pv], by simp⟩

theorem pf_snoc (ps : List (Int × Int)) (p : Int × Int) (i : Nat) : pf (ps ++ [p]) i = if i = ps.length then p.1 else pf ps i := by
  unfold pf
  rw [List.getD_eq_getElem?_getD, List.getD_eq_getElem?_getD]
  by_cases h : i < ps.length
  · rw [if_neg (by omega), List.getElem?_append_left h]
  · by_cases e : i = ps.length
    · subst e; simp
    · rw [if_neg e, List.getElem?_eq_none (by simp; omega), List.getElem?_eq_none (by omega)]
theorem pv_snoc (ps : List (Int × Int)) (p : Int × Int) (i : Nat) : pv (ps ++ [p]) i = if i = ps.length then p.2 else pv ps i := by
  unfold pv
  rw [List.getD_eq_getElem?_getD, List.getD_eq_getElem?_getD]
  by_cases h : i < ps.length
  · rw [if_neg (by omega), List.getElem?_append_left h]
  · by_cases e : i = ps.length
    · subst e; simp
    · rw [if_neg e, List.getElem?_eq_none (by simp; omega), List.getElem?_eq_none (by omega)]
theorem cells2_snoc : ∀ (ps : List (Int × Int)) (p : Int × Int), cells2 (ps ++ [p]) = cells2 ps ++ [.int .i64 p.1, .int .i64 p.2]
  | [], p => rfl
  | q :: l, p => by simp [cells2, cells2_snoc l p]

/-- Own pairs, and one more. -/
theorem NewPairs.snoc {B C : Nat} {w w' : World} {v v' : Value} {ps : List (Int × Int)} {p : Int × Int} (h : NewPairs C w v ps) (hl : ps.length ≤ 1000) (hp : (-9223372036854775808 ≤ p.1 ∧ p.1 ≤ 9223372036854775807) ∧ -9223372036854775808 ≤ p.2 ∧ p.2 ≤ 9223372036854775807)
    (hown : w'.ownsRow B 23 2 v' (ps.length + 1) (cells2 ps ++ [.int .i64 p.1, .int .i64 p.2])) : NewPairs B w' v' (ps ++ [p]) := by
  refine ⟨by rw [List.length_append, cells2_snoc]; exact hown, fun i => ?_, by rw [List.length_append]; simp; omega⟩
  rw [pf_snoc, pv_snoc]
  split
  · exact hp
  · exact h.wf i


/-- The pairs of a set with numbers below n, in ascending order. -/
def wrL (f : Nat → Bool) : Nat → List (Int × Int)
  | 0 => []
  | n + 1 => if f n = true then wrL f n ++ [(((n / 6 : Nat) : Int), ((n % 6 : Nat) : Int))] else wrL f n
theorem wrL_len (f : Nat → Bool) : ∀ n, (wrL f n).length ≤ n
  | 0 => Nat.le_refl _
  | n + 1 => by
    have := wrL_len f n
    rw [wrL]
    split
    · rw [List.length_append]; simp; omega
    · omega
theorem wrL_congr {f g : Nat → Bool} : ∀ n, (∀ t, t < n → f t = g t) → wrL f n = wrL g n
  | 0, _ => rfl
  | n + 1, h => by rw [wrL, wrL, h n (by omega), wrL_congr n fun t ht => h t (by omega)]
theorem wrL_none {f : Nat → Bool} {m : Nat} : ∀ n, m ≤ n → (∀ t, m ≤ t → t < n → f t = false) → wrL f n = wrL f m
  | 0, h, _ => by rw [show m = 0 by omega]
  | n + 1, h, hf => by
    by_cases e : m = n + 1
    · rw [e]
    · rw [wrL, hf n (by omega) (by omega), if_neg (by decide)]
      exact wrL_none n (by omega) fun t h1 h2 => hf t h1 (by omega)
theorem wrL_yes {f : Nat → Bool} {i j : Nat} (hj : j < 6) (h : f (6 * i + j) = true) : wrL f (6 * i + j + 1) = wrL f (6 * i + j) ++ [((i : Int), (j : Int))] := by
  rw [wrL, if_pos h, show (6 * i + j) / 6 = i by omega, show (6 * i + j) % 6 = j by omega]
theorem wrL_no {f : Nat → Bool} {n : Nat} (h : f n = false) : wrL f (n + 1) = wrL f n := by
  rw [wrL, h, if_neg (by decide)]

set_option maxHeartbeats 4000000 in
set_option maxRecDepth 100000 in
theorem list_any (f : Nat → Bool) (w : World) :
    Calls Try.prog 43 #[sv f] w fun e w' => ∃ v, e = .returned v ∧ NewPairs w.heap.size w' v (wrL f 36) ∧ Below w.heap.size w w' := by
  obtain ⟨i0, hi0, hz0, hz1, hz2⟩ := info_parts Try.info23
  have HH := Lib.hid (fun k j w (hk : k < 6) (hj : j < 6) => has_any f k j w hk hj)
  obtain ⟨s, hs⟩ : ∃ s, sv f = s := ⟨_, rfl⟩
  rw [hs] at HH ⊢
  clear hs
  go_enter Try.func43, Try.ntmps43
  go_wp2
  go_loopw [3, 4, 5, 6] (fun v _ _ x wr => ∃ i : Nat, i ≤ 6 ∧ x = .int .i64 i ∧ NewPairs w.heap.size wr v (wrL f (6 * i)) ∧ Below w.heap.size w wr) (fun _ _ _ x _ => 6 - (intOf x).toNat)
  case atStart => exact ⟨0, by omega, rfl, NewPairs.nil _ _, Below.refl _ _⟩
  case round =>
    obtain ⟨i, hi, rfl, hn, hb⟩ := hrel
    have HN := Lib.hid hn
    have HB := Lib.hid hb
    clear hn hb
    by_cases hlt : i < 6
    · have hli : (i : Int) < 6 := by omega
      go_wp2
      go_loopw [3, 5, 9] (fun v _ x wr => ∃ j : Nat, j ≤ 6 ∧ x = .int .i64 j ∧ NewPairs w.heap.size wr v (wrL f (6 * i + j)) ∧ Below w.heap.size w wr) (fun _ _ x _ => 6 - (intOf x).toNat)
      case atStart => exact ⟨0, by omega, rfl, HN.out, HB.out⟩
      case round =>
        clear HN HB
        obtain ⟨j, hj, rfl, hn, hb⟩ := hrel
        obtain ⟨vo, vb, vc, rfl, -⟩ := hn.at
        have HN := Lib.hid hn
        have HB := Lib.hid hb
        clear hn hb
        by_cases hlj : j < 6
        · have hlj' : (j : Int) < 6 := by omega
          have HC := Lib.hid (HH.out i j wr hlt hlj)
          rcases Bool.eq_false_or_eq_true (f (6 * i + j)) with e | e
          · have HL := Lib.hid (wrL_yes hlj e)
            rw [e] at HC
            clear e
            have HQ := Lib.hid (HN.out.own.alloc (.cells #[.int .i64 i, .int .i64 j] 23))
            have HLE := Lib.hid (wrL_len f (6 * i + j))
            go_wp2_with fail
            refine HC.out.mono ?_
            rintro e w2 ⟨rfl, rfl⟩
            go_wp2_with (first
              | (at_builtin; refine wpList_append_own_at _ rfl (.tmp 16) (.tmp 20) 35 rfl w.heap.size 23 i0 (.agg #[.int .i64 0, .int .i64 0]) 2 16 Try.underlying35 hi0 hz0 hz1 hz2 rfl (by decide) (.slice vo (wrL f (6 * i + j)).length vc) (wrL f (6 * i + j)).length (cells2 (wrL f (6 * i + j))) rfl HQ.out ⟨w2.heap.size, 0, none⟩ 1 1 [.int .i64 i, .int .i64 j] rfl rfl ?q0 (by simp [Value.oneCell']) ?q2 ?q3 ?q4 ?_)
              | (fail))
            case q0 => exact World.news_of_block (cs := #[.int .i64 i, .int .i64 j]) (t := 23) (fr := (0, 0)) (heap_alloc_new w2 _)
            case q2 => have := HLE.out; unfold maxLen; omega
            case q3 => have := HLE.out; omega
            case q4 => have := HB.out.size; simp; omega
            intro v' w9 hown hgrow _ _
            have HS := Lib.hid (HN.out.snoc (p := ((i : Int), (j : Int))) (by have := HLE.out; omega) (by constructor <;> simp <;> omega) hown)
            have HB9 := Lib.hid ((HB.out.alloc HB.out.size (.cells #[.int .i64 i, .int .i64 j] 23)).grown hgrow (by have := HB.out.size; simp; omega) (fun r hr => (HQ.out.lt r hr).1))
            clear hown hgrow
            go_wp2
            go_roundw
            case rel => exact ⟨j + 1, by omega, by go_num, by rw [← Nat.add_assoc, HL.out]; exact HS.out, HB9.out⟩
            case measure => simp [intOf]; omega
          · have HL := Lib.hid (wrL_no e)
            rw [e] at HC
            clear e
            go_wp2_with fail
            refine HC.out.mono ?_
            rintro e w2 ⟨rfl, rfl⟩
            go_wp2
            go_roundw
            case rel => exact ⟨j + 1, by omega, by go_num, by rw [← Nat.add_assoc, HL.out]; exact HN.out, HB.out⟩
            case measure => simp [intOf]; omega
        · have hj6 : j = 6 := by omega
          subst hj6
          go_wp2
          go_roundw
          case rel => exact ⟨i + 1, by omega, by go_num, HN.out, HB.out⟩
          case measure => simp [intOf]; omega
    · have hi6 : i = 6 := by omega
      subst hi6
      go_wp2
      go_ret
      exact ⟨_, rfl, HN.out, HB.out⟩

end Go.Proofs.Ytjibdolhipddbaa

/- The reference's wrong pairs. -/
namespace Go.Proofs.Ytjibdolhipddbaa
open Go.RowKit Go.Maps

/-- A pair that is wrong. -/
def wrF (a P : List (List Int)) (t : Nat) : Bool := decide (t / 6 < a.length) && decide (t % 6 < (row a (t / 6)).length) && (decide (nth (row a (t / 6)) (t % 6) = 0) && decide (OpenR a P (row P (t / 6)) (t % 6)))
theorem wrF_at {a P : List (List Int)} {i j : Nat} (hi : i < a.length) (hj : j < 6) (hl : j < (row a i).length) : wrF a P (6 * i + j) = (decide (nth (row a i) j = 0) && decide (OpenR a P (row P i) j)) := by
  unfold wrF
  rw [show (6 * i + j) / 6 = i by omega, show (6 * i + j) % 6 = j by omega, decide_eq_true hi, decide_eq_true hl]
  simp
theorem wrF_side {a P : List (List Int)} {i t : Nat} (h1 : 6 * i + (row a i).length ≤ t) (h2 : t < 6 * (i + 1)) : wrF a P t = false := by
  unfold wrF
  rw [show t / 6 = i by omega, decide_eq_false (show ¬ t % 6 < (row a i).length by omega)]
  simp
theorem wrF_end {a P : List (List Int)} {t : Nat} (h : 6 * a.length ≤ t) : wrF a P t = false := by
  unfold wrF
  rw [decide_eq_false (show ¬ t / 6 < a.length by omega)]
  simp

theorem ownsRow_below2 {B M : Nat} {w w' : World} {e : TypeId} {v : Value} {n : Nat} {vs : List Value} (h : w.ownsRow B e 2 v n vs) (hb : Below M w w') (hM : w.heap.size ≤ M) : w'.ownsRow B e 2 v n vs := by
  refine ⟨h.1, ?_⟩
  rcases h.2 with h2 | ⟨g, cap, cur, h1, h2, h3, h4⟩
  · exact .inl h2
  · exact .inr ⟨g, cap, cur, h1, h2, (hb.block _ (by have := lt_of_block h3; omega)).trans h3, h4⟩
theorem NewPairs.below {B M : Nat} {w w' : World} {v : Value} {ps : List (Int × Int)} (h : NewPairs B w v ps) (hb : Below M w w') (hM : w.heap.size ≤ M) : NewPairs B w' v ps :=
  ⟨ownsRow_below2 h.own hb hM, h.wf, h.len⟩
theorem NewPairs.drewN {B : Nat} {w : World} {v : Value} {ps : List (Int × Int)} (h : NewPairs B w v ps) (n : Nat) : NewPairs B (w.drewN n) v ps :=
  h.below (below_drewN (Below.refl _ _) n) (Nat.le_refl _)

set_option maxHeartbeats 4000000 in
set_option maxRecDepth 100000 in
theorem refWrong_any (a P : List (List Int)) (d : Int) (ao : Option Addr) (b o cap : Nat) (A : Nat → Option Addr) (B O C : Nat → Nat) (po : Option Addr) (pb pq pcap : Nat) (A' : Nat → Option Addr) (B' O' C' : Nat → Nat) (w : World)
    (H : RowsAt w ao b o a A B O C) (HP : RowsAt w po pb pq P A' B' O' C') (ha : IsPlan a) (hk : OkCuts a.length P d) :
    Calls Try.prog 18 #[.slice ao a.length cap, .slice po P.length pcap] w fun e w' => ∃ v, e = .returned v ∧ NewPairs w.heap.size w' v (wrL (wrF a P) 36) ∧ Below w.heap.size w w' := by
  obtain ⟨i0, hi0, hz0, hz1, hz2⟩ := info_parts Try.info23
  have hk6 := ha.le
  have hk1 := ha.pos
  obtain ⟨l, hl⟩ : ∃ l, (row a 0).length = l := ⟨_, rfl⟩
  have hl6 : l ≤ 6 := by rw [← hl]; exact ha.le0
  have HLE := Lib.hid (show ∀ i, i < a.length → (row a i).length = l from fun i hi => by rw [ha.len i hi, hl])
  have HPL := Lib.hid hk.keys
  have HOP := Lib.hid (fun i j W (hW : Below w.heap.size w W) (hi : i < a.length) (hj : j < l) => refOpens_any a P (row P i) j ao b o cap A B O C po pb pq pcap A' B' O' C' (A' i) (B' i) (O' i) (C' i) W (H.below hW (Nat.le_refl _)) (HP.below hW (Nat.le_refl _)) ((HP.rows i (by rw [hk.keys]; exact hi)).below hW (Nat.le_refl _)) ha.le (by omega)
    (by rw [hk.len i hi]; exact hk.le) (fun q hq => by rw [HLE.out q hq]; exact hj) hk.keys (fun q hq => by rw [hk.len q hq, hk.len i hi]))
  have HA := Lib.hid H
  have HQ := Lib.hid HP
  clear H HP ha hk hl
  go_enter Try.func18, Try.ntmps18
  go_wp2
  go_loopw [5, 6, 7] (fun v x _ wr => ∃ i : Nat, i ≤ a.length ∧ x = .int .i64 i ∧ NewPairs w.heap.size wr v (wrL (wrF a P) (6 * i)) ∧ Below w.heap.size w wr) (fun _ x _ _ => a.length - (intOf x).toNat)
  case atStart => exact ⟨0, by omega, rfl, NewPairs.nil _ _, Below.refl _ _⟩
  case round =>
    obtain ⟨i, hi, rfl, hn, hb⟩ := hrel
    have HN := Lib.hid hn
    have HB := Lib.hid hb
    clear hn hb
    by_cases hlt : i < a.length
    · go_wp2
      go_loopw [5, 7] (fun v x wr => ∃ j : Nat, j ≤ l ∧ x = .int .i64 j ∧ NewPairs w.heap.size wr v (wrL (wrF a P) (6 * i + j)) ∧ Below w.heap.size w wr) (fun _ x _ => l - (intOf x).toNat)
      case atStart => exact ⟨0, by omega, rfl, HN.out, HB.out⟩
      case round =>
        clear HN HB
        obtain ⟨j, hj, rfl, hn, hb⟩ := hrel
        obtain ⟨vo, vb, vc, rfl, -⟩ := hn.at
        have HN := Lib.hid hn
        have HB := Lib.hid hb
        clear hn hb
        have hip : i < P.length := by rw [HPL.out]; exact hlt
        have hat := HA.out.below HB.out (Nat.le_refl _)
        have hpt := HQ.out.below HB.out (Nat.le_refl _)
        obtain ⟨rfl, -⟩ := hat.ptr (by omega)
        obtain ⟨rfl, -⟩ := hpt.ptr (by omega)
        have ci := hat.cell i hlt
        have di := hpt.cell i hip
        have hra := hat.rows i hlt
        rw [HLE.out i hlt] at ci
        clear hat hpt
        by_cases hlj : j < l
        · obtain ⟨hA, -⟩ := hra.ptr (by rw [HLE.out i hlt]; omega)
          have x0 := hra.cell j (by rw [HLE.out i hlt]; exact hlj)
          rw [hA] at ci
          obtain ⟨x, hx⟩ : ∃ x, nth (row a i) j = x := ⟨_, rfl⟩
          rw [hx] at x0
          have HX := Lib.hid hx
          have hji : (j : Int) < (l : Int) := by omega
          have HWF := Lib.hid (wrF_at (a := a) (P := P) hlt (show j < 6 by omega) (by rw [HLE.out i hlt]; exact hlj))
          have HO := Lib.hid (fun n => HOP.out i j (wr.drewN n) (below_drewN HB.out n) hlt hlj)
          clear hra hA hx
          by_cases e0 : x = 0
          · have t0 : (x == 0) = true := by rw [e0]; rfl
            by_cases e1 : OpenR a P (row P i) j
            · have hf : wrF a P (6 * i + j) = true := by rw [HWF.out, HX.out, decide_eq_true e0, decide_eq_true e1]; rfl
              have HL := Lib.hid (wrL_yes (show j < 6 by omega) hf)
              have hd : decide (OpenR a P (row P i) j) = true := decide_eq_true e1
              unfold Hid at HO
              simp only [hd] at HO
              have HO := Lib.hid (HO 0)
              have HLN := Lib.hid (wrL_len (wrF a P) (6 * i + j))
              clear hf hd e1 HX HWF HOP
              go_wp2_with fail
              refine HO.out.mono ?_
              rintro e w2 ⟨rfl, hm2⟩
              have HB2 := Lib.hid (show Below w.heap.size w w2 by obtain ⟨m, rfl⟩ := hm2; exact below_drewN (below_drewN HB.out 0) m)
              have hn2 : NewPairs w.heap.size w2 (.slice vo (wrL (wrF a P) (6 * i + j)).length vc) (wrL (wrF a P) (6 * i + j)) := by
                obtain ⟨m, rfl⟩ := hm2
                exact HN.out.drewN 0 |>.drewN m
              have HN2 := Lib.hid hn2
              have HQ2 := Lib.hid (hn2.own.alloc (.cells #[.int .i64 i, .int .i64 j] 23))
              clear hm2 hn2 ci di x0
              go_wp2_with (first
                | (at_builtin; refine wpList_append_own_at _ rfl (.tmp 41) (.tmp 45) 35 rfl w.heap.size 23 i0 (.agg #[.int .i64 0, .int .i64 0]) 2 16 Try.underlying35 hi0 hz0 hz1 hz2 rfl (by decide) (.slice vo (wrL (wrF a P) (6 * i + j)).length vc) (wrL (wrF a P) (6 * i + j)).length (cells2 (wrL (wrF a P) (6 * i + j))) rfl HQ2.out ⟨w2.heap.size, 0, none⟩ 1 1 [.int .i64 i, .int .i64 j] rfl rfl ?q0 (by simp [Value.oneCell']) ?q2 ?q3 ?q4 ?_)
                | (fail))
              case q0 => exact World.news_of_block (cs := #[.int .i64 i, .int .i64 j]) (t := 23) (fr := (0, 0)) (heap_alloc_new w2 _)
              case q2 => have := HLN.out; unfold maxLen; omega
              case q3 => have := HLN.out; omega
              case q4 => have := HB2.out.size; simp; omega
              intro v' w9 hown hgrow _ _
              have HS := Lib.hid (HN2.out.snoc (p := ((i : Int), (j : Int))) (by have := HLN.out; omega) (by constructor <;> simp <;> omega) hown)
              have HB9 := Lib.hid ((HB2.out.alloc HB2.out.size (.cells #[.int .i64 i, .int .i64 j] 23)).grown hgrow (by have := HB2.out.size; simp; omega) (fun r hr => (HQ2.out.lt r hr).1))
              clear hown hgrow
              go_wp2
              go_roundw
              case rel => exact ⟨j + 1, by omega, by go_num, by rw [← Nat.add_assoc, HL.out]; exact HS.out, HB9.out⟩
              case measure => simp [intOf]; omega
            · have hf : wrF a P (6 * i + j) = false := by rw [HWF.out, decide_eq_false e1]; simp
              have HL := Lib.hid (wrL_no hf)
              have hd : decide (OpenR a P (row P i) j) = false := decide_eq_false e1
              unfold Hid at HO
              simp only [hd] at HO
              have HO := Lib.hid (HO 0)
              clear hf hd e1 HX HWF HOP
              go_wp2_with fail
              refine HO.out.mono ?_
              rintro e w2 ⟨rfl, m2, rfl⟩
              go_wp2
              go_roundw
              case rel => exact ⟨j + 1, by omega, by go_num, by rw [← Nat.add_assoc, HL.out]; exact (HN.out.drewN 0).drewN m2, below_drewN (below_drewN HB.out 0) m2⟩
              case measure => simp [intOf]; omega
          · have t0 : (x == 0) = false := beq_eq_false_iff_ne.2 e0
            have hf : wrF a P (6 * i + j) = false := by rw [HWF.out, HX.out, decide_eq_false e0]; simp
            have HL := Lib.hid (wrL_no hf)
            clear hf HX HWF HOP e0
            go_wp2
            go_roundw
            case rel => exact ⟨j + 1, by omega, by go_num, by rw [← Nat.add_assoc, HL.out]; exact HN.out, HB.out⟩
            case measure => simp [intOf]; omega
        · have hjl : j = l := by omega
          have HL := Lib.hid (show wrL (wrF a P) (6 * (i + 1)) = wrL (wrF a P) (6 * i + j) from wrL_none _ (by omega) fun t h1 h2 => wrF_side (i := i) (by rw [HLE.out i hlt, ← hjl]; exact h1) h2)
          have hji : ¬ (j : Int) < (l : Int) := by omega
          clear hra HOP
          go_wp2
          go_roundw
          case rel => exact ⟨i + 1, by omega, by go_num, by rw [HL.out]; exact HN.out, HB.out⟩
          case measure => simp [intOf]; omega
    · have HL := Lib.hid (show wrL (wrF a P) 36 = wrL (wrF a P) (6 * i) from wrL_none _ (by omega) fun t h1 _ => wrF_end (by omega))
      go_wp2
      go_ret
      exact ⟨_, rfl, by rw [HL.out]; exact HN.out, HB.out⟩

end Go.Proofs.Ytjibdolhipddbaa

/- Lists of pairs, compared. -/
namespace Go.Proofs.Ytjibdolhipddbaa
open Go.RowKit Go.Maps

theorem pairs_eq {ps qs : List (Int × Int)} (hl : ps.length = qs.length) (h : ∀ i, i < ps.length → pf ps i = pf qs i ∧ pv ps i = pv qs i) : ps = qs := by
  refine List.ext_getElem hl fun i h1 h2 => ?_
  have := h i h1
  simp only [pf, pv, List.getD_eq_getElem?_getD, List.getElem?_eq_getElem h1, List.getElem?_eq_getElem h2, Option.getD_some] at this
  exact Prod.ext this.1 this.2

theorem part_two (x y : Int) (w : World) : (part 3 #[.int .i64 x, .int .i64 y] (0 * Try.prog.cellsOf 3)).run Try.prog w = .ok (.int .i64 x) w ∧ (part 3 #[.int .i64 x, .int .i64 y] (1 * Try.prog.cellsOf 3)).run Try.prog w = .ok (.int .i64 y) w :=
  ⟨by kernel_rfl, by kernel_rfl⟩
theorem ne_same (x y : Int) (w : World) : (Go.binOp .neq 23 (Value.agg #[.int .i64 x, .int .i64 y]) (Value.agg #[.int .i64 x, .int .i64 y])).run Try.prog w = Result.ok (Value.bool false) w := by
  obtain ⟨i0, hi, -⟩ := info_parts Try.info3
  rw [run_neq_struct, run_equalIn_array w 9999 _ _ Try.underlying23 hi, show List.range 2 = [0, 1] from rfl]
  simp only [Op.eqItems, Sem.run_bind, (part_two x y w).1, (part_two x y w).2, Result.andThen_ok, run_equalIn_int w 9998 3 .i64 .i64 _ _ Try.underlying3, beq_self_eq_true, Bool.not_true, Bool.false_eq_true, if_false, Sem.run_pure]

set_option maxHeartbeats 4000000 in
set_option maxRecDepth 100000 in
theorem pairs_same (ps : List (Int × Int)) (ao bo : Option Addr) (ab ax ac bb bx bc : Nat) (w : World) (hX : PairsAt w ao ab ax ps) (hY : PairsAt w bo bb bx ps) (hl : ps.length ≤ 36) :
    Calls Try.prog 22 #[.slice ao ps.length ac, .slice bo ps.length bc] w fun e w' => e = .returned (.bool true) ∧ ∃ m, w' = w.drewN m := by
  have HX := Lib.hid hX
  have HY := Lib.hid hY
  clear hX hY
  have hq : ((ps.length : Int) != (ps.length : Int)) = false := by simp
  go_enter Try.func22, Try.ntmps22
  go_wp2
  go_loopw [5] (fun x wr => ∃ k : Nat, k ≤ ps.length ∧ x = .int .i64 k ∧ ∃ m, wr = w.drewN m) (fun x _ => ps.length - (intOf x).toNat)
  case atStart => exact ⟨0, by omega, rfl, 0, rfl⟩
  case round =>
    obtain ⟨k, hk, rfl, md, rfl⟩ := hrel
    by_cases hlt : k < ps.length
    · have hX := HX.out.below (below_drewN (Below.refl _ w) md) (Nat.le_refl _)
      have hY := HY.out.below (below_drewN (Below.refl _ w) md) (Nat.le_refl _)
      obtain ⟨rfl, -⟩ := hX.ptr (by omega)
      obtain ⟨rfl, -⟩ := hY.ptr (by omega)
      have c0 := hX.cell0 k hlt
      have c1 := hX.cell1 k hlt
      have d0 := hY.cell0 k hlt
      have d1 := hY.cell1 k hlt
      obtain ⟨x, hx⟩ : ∃ x, pf ps k = x := ⟨_, rfl⟩
      obtain ⟨y, hy⟩ : ∃ x, pv ps k = x := ⟨_, rfl⟩
      rw [hx] at c0 d0
      rw [hy] at c1 d1
      clear hX hY hx hy
      have hne := ne_same x y
      obtain ⟨wq, hwq⟩ : ∃ wq, w.drewN md = wq := ⟨_, rfl⟩
      have HWQ := Lib.hid hwq
      have HC := Lib.hid (show ∀ n, ((wq.drewN n).cell? ⟨ab, ax + k * 2, none⟩ = some (.int .i64 x) ∧ (wq.drewN n).cell? ⟨ab, ax + k * 2 + 1, none⟩ = some (.int .i64 y)) ∧ (wq.drewN n).cell? ⟨bb, bx + k * 2, none⟩ = some (.int .i64 x) ∧ (wq.drewN n).cell? ⟨bb, bx + k * 2 + 1, none⟩ = some (.int .i64 y) from fun n => by
        rw [← hwq]; simp only [World.cell?_drewN]; exact ⟨⟨c0, c1⟩, d0, d1⟩)
      rw [hwq]
      clear hwq c0 c1 d0 d1
      go_wp2
      go_region_held3 (fun W => (W.cell? ⟨ab, ax + k * 2, none⟩ = some (.int .i64 x) ∧ W.cell? ⟨ab, ax + k * 2 + 1, none⟩ = some (.int .i64 y)) ∧ W.cell? ⟨bb, bx + k * 2, none⟩ = some (.int .i64 x) ∧ W.cell? ⟨bb, bx + k * 2 + 1, none⟩ = some (.int .i64 y))
        (first | exact HC.out 0 | exact HC.out 1 | exact HC.out 2)
        (fail)
      go_wp2
      go_roundw
      case rel => exact ⟨k + 1, by omega, by go_num, md + 1, by rw [← HWQ.out]; first | rfl | exact World.drewN_drewN _ _ 1⟩
      case measure => simp [intOf]; omega
    · go_wp2
      go_ret
      exact ⟨rfl, _, rfl⟩

end Go.Proofs.Ytjibdolhipddbaa

/- The reference's strangers. -/
namespace Go.Proofs.Ytjibdolhipddbaa
open Go.RowKit

theorem pinR_iff (a P : List (List Int)) (j n : Nat) (v : Int) (hj : j < 6) (ha : a.length ≤ 6) (c : Nat) (hn : n < c) :
    PinR a P j n v ↔ PinF a.length (mt a) (nth (row (chs P a.length c) n)) j v := by
  constructor
  · rintro ⟨i, hi, h1, h2⟩
    exact ⟨i, hi, by rw [mt_at _ _ _ hj, decide_eq_true h1], by rw [chs_nth _ _ _ hn (by omega), if_pos hi]; exact h2⟩
  · rintro ⟨i, hi, h1, h2⟩
    rw [mt_at _ _ _ hj] at h1
    rw [chs_nth _ _ _ hn (by omega), if_pos hi] at h2
    exact ⟨i, hi, of_decide_eq_true h1, h2⟩

/-- How many depths up to D are pins. -/
def cntR (a P : List (List Int)) (j n D : Nat) : Nat := (List.range (D + 1)).countP fun v : Nat => decide (PinR a P j n (v : Int))
theorem cntR_succ (a P : List (List Int)) (j n D : Nat) : cntR a P j n (D + 1) = cntR a P j n D + if PinR a P j n ((D + 1 : Nat) : Int) then 1 else 0 := by
  unfold cntR
  rw [List.range_succ (n := D + 1), List.countP_append]
  congr 1
  by_cases e : PinR a P j n ((D + 1 : Nat) : Int)
  · rw [if_pos e]; simp [List.countP_cons]; exact e
  · rw [if_neg e]; simp [List.countP_cons]; exact e
theorem cntR_zero {a P : List (List Int)} {d : Int} {j n : Nat} (hk : OkCuts a.length P d) (hn : n < (row P 0).length) : cntR a P j n 0 = 0 := by
  unfold cntR
  rw [List.countP_eq_zero]
  intro v hv
  have : v = 0 := by simpa using hv
  subst this
  simp only [decide_eq_true_eq]
  rintro ⟨i, hi, -, h2⟩
  have := hk.dep i hi n (by rw [hk.len i hi]; exact hn)
  omega
theorem countP_more (p : Nat → Bool) : ∀ m n, (∀ v, m ≤ v → v < n → p v = false) → m ≤ n → (List.range n).countP p = (List.range m).countP p
  | m, 0, _, h => by rw [show m = 0 by omega]
  | m, n + 1, hp, h => by
    by_cases e : m = n + 1
    · rw [e]
    · rw [List.range_succ, List.countP_append, countP_more p m n (fun v h1 h2 => hp v h1 (by omega)) (by omega)]
      simp [List.countP_cons, hp n (by omega) (by omega)]
theorem cntR_pin {a P : List (List Int)} {d : Int} {j n D : Nat} (hD : (D : Int) = d) (hd4 : D ≤ 4) (hk : OkCuts a.length P d) (hn : n < (row P 0).length) (hj : j < 6) (ha : a.length ≤ 6) :
    cntR a P j n D = pinC a.length (mt a) (nth (row (chs P a.length (row P 0).length) n)) j := by
  unfold cntR pinC
  have h := countP_more (fun v : Nat => decide (PinR a P j n (v : Int))) (D + 1) 5 (fun v h1 h2 => by
    refine decide_eq_false ?_
    rintro ⟨i, hi, -, e⟩
    have := hk.dep i hi n (by rw [hk.len i hi]; exact hn)
    omega) (by omega)
  rw [← h]
  exact congrArg (fun p => List.countP p (List.range 5)) (funext fun v => by rw [Bool.eq_iff_iff, decide_eq_true_eq, decide_eq_true_eq]; exact pinR_iff a P j n v hj ha _ hn)

set_option maxHeartbeats 4000000 in
set_option maxRecDepth 100000 in
theorem refStrangers_any (a P : List (List Int)) (D : Nat) (j : Nat) (ao : Option Addr) (b o cap : Nat) (A : Nat → Option Addr) (B O C : Nat → Nat) (po : Option Addr) (pb pq pcap : Nat) (A' : Nat → Option Addr) (B' O' C' : Nat → Nat) (w : World)
    (H : RowsAt w ao b o a A B O C) (HP : RowsAt w po pb pq P A' B' O' C') (ha : IsPlan a) (hd : 1 ≤ D ∧ D ≤ 4) (hk : OkCuts a.length P (D : Int)) (hj : j < (row a 0).length) :
    Calls Try.prog 23 #[.slice ao a.length cap, .slice po P.length pcap, .int .i64 D, .int .i64 j] w fun e w' =>
      e = .returned (.int .i64 (prodC (chs P a.length (row P 0).length) a.length (mt a) j (row P 0).length : Nat)) ∧ ∃ m, w' = w.drewN m := by
  have hk6 := ha.le
  have hk1 := ha.pos
  have hj6 : j < 6 := Nat.lt_of_lt_of_le hj ha.le0
  have hc4 := hk.le
  have HPIN := Lib.hid (fun n (v : Nat) (h : n < (row P 0).length) m => refPin_any a P j n (v : Int) ao b o cap A B O C po pb pq pcap A' B' O' C' (w.drewN m) (H.below (below_drewN (Below.refl _ _) m) (Nat.le_refl _)) (HP.below (below_drewN (Below.refl _ _) m) (Nat.le_refl _)) hk6 hj6 (by omega) (fun i hi => by rw [ha.len i hi]; exact hj) hk.keys (fun i hi => by rw [hk.len i hi]; exact h))
  have HC0 := Lib.hid (fun n (h : n < (row P 0).length) => cntR_zero (a := a) (j := j) hk h)
  have HCD := Lib.hid (fun n (h : n < (row P 0).length) => cntR_pin (D := D) rfl hd.2 hk h hj6 hk6)
  have HQ := Lib.hid HP
  have HPL := Lib.hid hk.keys
  obtain ⟨c, hc⟩ : ∃ c, (row P 0).length = c := ⟨_, rfl⟩
  rw [hc] at HC0 HCD HPIN hc4 ⊢
  have HC := Lib.hid hc
  have hpl : 0 < P.length := by rw [hk.keys]; omega
  obtain ⟨rfl, -⟩ := HP.ptr hpl
  obtain ⟨X, hX⟩ : ∃ X, chs P a.length c = X := ⟨_, rfl⟩
  obtain ⟨k, hkk⟩ : ∃ k, a.length = k := ⟨_, rfl⟩
  obtain ⟨f, hf⟩ : ∃ f, mt a = f := ⟨_, rfl⟩
  obtain ⟨hd1, hd4⟩ := hd
  rw [hkk] at hX HCD HPIN hk1 ⊢
  rw [hX] at HCD ⊢
  rw [hf] at HCD ⊢
  have hp0 : (0 : Int) < (P.length : Int) := by omega
  clear H HP ha hk hj hc hX hkk hf
  go_enter Try.func23, Try.ntmps23
  go_wp2
  go_loopw [9, 10, 11, 12] (fun s x _ _ wr => ∃ n : Nat, n ≤ c ∧ x = .int .i64 n ∧ s = .int .i64 (prodC X k f j n : Nat) ∧ ∃ m, wr = w.drewN m) (fun _ x _ _ _ => c - (intOf x).toNat)
  case atStart => exact ⟨0, by omega, rfl, rfl, 0, rfl⟩
  case round =>
    obtain ⟨n, hn, rfl, rfl, md, rfl⟩ := hrel
    have hpt := HQ.out.below (below_drewN (Below.refl _ w) md) (Nat.le_refl _)
    have c0 : (w.drewN md).cell? ⟨pb, pq, none⟩ = some (.slice (A' 0) c (C' 0)) := by rw [← HC.out]; exact hpt.cell 0 hpl
    clear hpt
    by_cases hlt : n < c
    · have hpr := prodC_le X k f j n (by omega)
      have hp5 := pinC_le k f (nth (row X n)) j
      have hps : (5 : Nat) ^ n ≤ 625 := by
        have : (5 : Nat) ^ n ≤ 5 ^ 4 := Nat.pow_le_pow_right (by omega) (by omega)
        omega
      have HPE := Lib.hid (show prodC X k f j (n + 1) = prodC X k f j n * cntR a P j n D by rw [HCD.out n hlt]; rfl)
      have HLE := Lib.hid (show cntR a P j n D ≤ 5 by rw [HCD.out n hlt]; exact hp5)
      obtain ⟨pr, hpe⟩ : ∃ pr, prodC X k f j n = pr := ⟨_, rfl⟩
      rw [hpe] at HPE hpr ⊢
      have HZ := Lib.hid (HC0.out n hlt)
      clear hpe hp5
      go_wp2
      go_loopw [11, 12] (fun s x wr => ∃ e : Nat, e ≤ D ∧ x = .int .i64 ((e + 1 : Nat) : Int) ∧ s = .int .i64 (cntR a P j n e : Nat) ∧ ∃ m, wr = w.drewN m) (fun _ x _ => D + 1 - (intOf x).toNat)
      case atStart => exact ⟨0, by omega, rfl, by rw [HZ.out]; rfl, md, rfl⟩
      case round =>
        obtain ⟨e, he, rfl, rfl, m2, rfl⟩ := hrel
        obtain ⟨e', hee⟩ : ∃ e', e + 1 = e' := ⟨_, rfl⟩
        have HEE := Lib.hid hee
        have HSU := Lib.hid (cntR_succ a P j n e)
        rw [hee] at HSU ⊢
        have hce : cntR a P j n e ≤ e + 1 := by unfold cntR; exact Nat.le_trans List.countP_le_length (by simp)
        obtain ⟨ce, hcee⟩ : ∃ ce, cntR a P j n e = ce := ⟨_, rfl⟩
        rw [hcee] at HSU hce ⊢
        have HCE := Lib.hid hcee
        clear hcee c0
        by_cases hle : e' ≤ D
        · have hli : (e' : Int) ≤ (D : Int) := by omega
          have HPI := Lib.hid (HPIN.out n e' hlt m2)
          have hce5 : ce ≤ 6 := by omega
          clear hee
          by_cases hp : PinR a P j n (e' : Int)
          · have hd : decide (PinR a P j n (e' : Int)) = true := decide_eq_true hp
            unfold Hid at HPI
            simp only [hd] at HPI
            have HPI := Lib.hid HPI
            rw [if_pos hp] at HSU
            clear hd hp
            go_wp2_with fail
            refine HPI.out.mono ?_
            rintro q w2 ⟨rfl, m3, rfl⟩
            go_wp2
            go_roundw
            case rel => exact ⟨e', hle, by go_num, by rw [HSU.out]; go_num, _, by first | rfl | exact World.drewN_drewN _ _ _⟩
            case measure => simp [intOf]; omega
          · have hd : decide (PinR a P j n (e' : Int)) = false := decide_eq_false hp
            unfold Hid at HPI
            simp only [hd] at HPI
            have HPI := Lib.hid HPI
            rw [if_neg hp] at HSU
            clear hd hp
            go_wp2_with fail
            refine HPI.out.mono ?_
            rintro q w2 ⟨rfl, m3, rfl⟩
            go_wp2
            go_roundw
            case rel => exact ⟨e', hle, by go_num, by rw [HSU.out]; go_num, _, by first | rfl | exact World.drewN_drewN _ _ _⟩
            case measure => simp [intOf]; omega
        · have heD : e = D := by omega
          have hli : ¬ (e' : Int) ≤ (D : Int) := by omega
          have HPE2 := Lib.hid (show prodC X k f j (n + 1) = pr * ce by rw [HPE.out, ← heD, HCE.out])
          have hce5 : ce ≤ 5 := by rw [← HCE.out, heD]; exact HLE.out
          have hmul : pr * ce ≤ 3125 := Nat.le_trans (Nat.mul_le_mul (show pr ≤ 625 by omega) hce5) (by omega)
          clear heD hee
          go_wp2
          go_roundw
          case rel => exact ⟨n + 1, by omega, by go_num, by rw [HPE2.out]; simp, _, rfl⟩
          case measure => simp [intOf]; omega
    · have hnc : n = c := by omega
      subst hnc
      go_wp2
      go_ret
      exact ⟨rfl, _, rfl⟩

end Go.Proofs.Ytjibdolhipddbaa
