/- Small functions, more. -/
import Derived.Test.YtaphmjccdokiiaaD
import Derived.Laws.AppendOwnNone
namespace Go.Proofs.Ytaphmjccdokiiaa
open Go.RowKit

set_option maxHeartbeats 400000 in
theorem absolute_any (x : Int) (w : World) (h : -9223372036854775808 < x) (h2 : x ≤ 9223372036854775807) :
    Calls Try.prog 69 #[.int .i64 x] w fun e w' => e = .returned (.int .i64 (x.natAbs : Int)) ∧ w = w' := by
  by_cases hx : 0 ≤ x
  · go_enter Try.func69, Try.ntmps69
    go_wp2
    go_ret
    exact ⟨ret_int (by omega), rfl⟩
  · go_enter Try.func69, Try.ntmps69
    go_wp2
    go_ret
    exact ⟨ret_int (by omega), rfl⟩

set_option maxHeartbeats 400000 in
theorem assignments_any (n : Nat) (w : World) (h : n ≤ 20) :
    Calls Try.prog 73 #[.int .i64 n] w fun e w' => e = .returned (.int .i64 ((2 ^ n : Nat) : Int)) ∧ w = w' := by
  have hp := Lib.hid (wrap_pow n (by omega))
  go_enter Try.func73, Try.ntmps73
  go_wp2
  go_ret
  exact ⟨ret_int hp.out, rfl⟩

set_option maxHeartbeats 1000000 in
theorem reduced_any (num den : Int) (w : World) (hn : 0 ≤ num) (hn2 : num ≤ 9223372036854775807) (hd : 1 ≤ den) (hd2 : den ≤ 9223372036854775807) :
    Calls Try.prog 42 #[.int .i64 num, .int .i64 den] w fun e w' => e = .returned (fracV num den) ∧ Below w.heap.size w w' := by
  have hm1 := gcd_pos (num := num) hd
  have hml := gcd_le (num := num) hd
  obtain ⟨m, hm⟩ : ∃ m : Int, m = (Int.gcd num den : Int) := ⟨_, rfl⟩
  have HG := Lib.hid hm
  rw [← hm] at hm1 hml
  have q1 := div_bd (a := num) (g := m) (by omega) hm1
  have q2 := div_bd (a := den) (g := m) (by omega) hm1
  have hc0 : (w.alloc (.cells #[.int .i64 0, .int .i64 0] 29)).cell? ⟨w.heap.size, 0, none⟩ = some (.int .i64 0) := by simp
  have hc1 : (w.alloc (.cells #[.int .i64 0, .int .i64 0] 29)).cell? ⟨w.heap.size, 1, none⟩ = some (.int .i64 0) := by simp
  clear hm
  go_enter Try.func42, Try.ntmps42
  go_wp2_with (go_at_call 68; refine (refGcd_any _ _ _ (by omega) (by omega) (by omega) (by omega)).mono ?_; rintro e w' ⟨rfl, rfl⟩; rw [← HG.out])
  go_region
  all_goals go_wp2
  refine bodyPost_ret (v := fracV num den) ?_ rfl ⟨rfl, ?_⟩
  · simp [results, Try.results42, go_sem, fracV, fracC, ← HG.out]
  · exact ((Below.refl _ _).alloc (Nat.le_refl _) _).drew

set_option maxHeartbeats 400000 in
theorem fullWeight_any (P T : List (List Int)) (v : Value) (w : World) (h : NetAt w v P T) (hT : T.length ≤ 10) :
    Calls Try.prog 49 #[v] w fun e w' => e = .returned (.int .i64 ((16 : Int) ^ T.length)) ∧ Below w.heap.size w w' := by
  obtain ⟨pa, b, o, pc, A, B, O, C, ta, b', o', tc, A', B', O', C', rfl, hP, hT⟩ := h.ex
  clear h hP hT
  go_enter Try.func49, Try.ntmps49
  go_wp2
  go_loop [3, 7] (fun p i => ∃ k : Nat, k ≤ T.length ∧ i = .int .i64 k ∧ p = .int .i64 ((16 ^ k : Nat) : Int)) (fun _ i => T.length - (intOf i).toNat)
  case atStart => exact ⟨0, by omega, rfl, rfl⟩
  case round =>
    obtain ⟨k, hk, rfl, rfl⟩ := hrel
    obtain ⟨q, hq⟩ : ∃ q : Nat, q = 16 ^ k := ⟨_, rfl⟩
    have hq2 : q ≤ 16 ^ 10 := by rw [hq]; exact Nat.pow_le_pow_right (by omega) (by omega)
    rw [← hq]
    have HQ := Lib.hid hq
    clear hq
    by_cases hlt : k < T.length
    · go_wp2
      go_round
      case rel => exact ⟨k + 1, by omega, by go_num, by rw [Nat.pow_succ, ← HQ.out]; go_num⟩
      case measure => simp [intOf]; omega
    · go_wp2
      go_ret
      have : k = T.length := by omega
      exact ⟨ret_int (by rw [HQ.out, this]; simp), (Below.refl _ _).alloc (Nat.le_refl _) _⟩

theorem Try.info3 : (Try.prog.info? 3).map (fun i => (i.zero, i.size, i.bytes)) = some (some (.int .i64 0), 1, 8) := by kernel_rfl
theorem Try.info25 : (Try.prog.info? 25).map (fun i => (i.zero, i.size, i.bytes)) = some (some (.slice none 0 0), 1, 24) := by kernel_rfl

/-- A slice of ints in memory that is new since the heap had B blocks. -/
structure NewInts (B : Nat) (w : World) (v : Value) (xs : List Int) : Prop where
  own : w.ownsRow B 3 1 v xs.length (xs.map (Value.int .i64))
  wf : ∀ i, -9223372036854775808 ≤ nth xs i ∧ nth xs i ≤ 9223372036854775807
  len : xs.length ≤ 140737488351232

theorem nth_map (xs : List Int) (i : Nat) (h : i < xs.length) : (xs.map (Value.int .i64))[i]? = some (.int .i64 (nth xs i)) := by
  simp [nth, List.getD_eq_getElem?_getD, h]

theorem NewInts.at {B : Nat} {w : World} {v : Value} {xs : List Int} (h : NewInts B w v xs) :
    ∃ ao b cap, v = .slice ao xs.length cap ∧ IntsAt w ao b 0 xs ∧ (0 < xs.length → B ≤ b) := by
  obtain ⟨⟨hl, h1⟩, hwf, hlen⟩ := h
  rcases h1 with ⟨rfl, h0⟩ | ⟨g, cap, cur, rfl, hg, hh, hcap, hm, hcs, htk⟩
  · have : xs = [] := List.length_eq_zero_iff.1 h0
    subst this
    exact ⟨none, 0, 0, rfl, IntsAt.nil _ _ _ _, fun h => absurd h (by simp)⟩
  · refine ⟨some ⟨g, 0, none⟩, g, cap, rfl, ⟨fun _ => ⟨rfl, lt_of_block hh⟩, fun i hi => ?_, hlen, hwf⟩, fun _ => hg⟩
    have e : cur[i]? = some (.int .i64 (nth xs i)) := by
      rw [← nth_map xs i hi, ← htk, List.getElem?_take]
      rw [if_pos (by omega)]; simp
    simp [World.cell?, hh, e]

theorem NewInts.nil (B : Nat) (w : World) : NewInts B w (.slice none 0 0) [] :=
  ⟨⟨rfl, .inl ⟨rfl, rfl⟩⟩, fun i => by simp [nth], by simp⟩

theorem nth_take {xs : List Int} {n i : Nat} (h : i < n) : nth (xs.take n) i = nth xs i := by
  simp [nth, List.getD_eq_getElem?_getD, List.getElem?_take, h]
theorem wf_take {xs : List Int} {n : Nat} (h : ∀ i, -9223372036854775808 ≤ nth xs i ∧ nth xs i ≤ 9223372036854775807) : ∀ i, -9223372036854775808 ≤ nth (xs.take n) i ∧ nth (xs.take n) i ≤ 9223372036854775807 := by
  intro i
  by_cases hi : i < n
  · rw [nth_take hi]; exact h i
  · rw [nth_out (by simp; omega)]; omega

/-- The cells that an append copies. -/
theorem news_at {w : World} {ao : Option Addr} {b o : Nat} {xs : List Int} (h : IntsAt w ao b o xs) (ad : Addr) (had : ao = some ad) (n : Nat) :
    ∀ j u, ((xs.take n).map (Value.int .i64))[j]? = some u → w.cell? (ad.add j) = some u := by
  intro j u hj
  have hlt : j < ((xs.take n).map (Value.int .i64)).length := (List.getElem?_eq_some_iff.1 hj).1
  simp at hlt
  have h0 := (h.ptr (by omega)).1
  rw [had] at h0
  obtain rfl : ad = ⟨b, o, none⟩ := Option.some.inj h0
  rw [nth_map _ _ (by simp; omega), nth_take (by omega)] at hj
  rw [← hj]
  have := h.cell j (by omega)
  by_cases e : j = 0
  · subst e; simpa [Addr.add] using this
  · simpa [Addr.add, e] using this

theorem oneCell_ints (xs : List Int) : ∀ u ∈ xs.map (Value.int .i64), u.oneCell' = true := by
  intro u hu
  obtain ⟨x, _, rfl⟩ := List.mem_map.1 hu
  rfl

theorem own_nil (w : World) (B : Nat) : w.ownsRow B 3 1 (.slice none 0 0) 0 [] := ⟨rfl, .inl ⟨rfl, rfl⟩⟩

set_option maxHeartbeats 400000 in
set_option maxRecDepth 100000 in
theorem list_any (xs : List Int) (ao : Option Addr) (b o cap : Nat) (w : World) (h : IntsAt w ao b o xs) (hcap : xs.length ≤ cap) (hnil : ao = none → cap = 0) :
    Calls Try.prog 16 #[.slice ao xs.length cap] w fun e w' => ∃ v, e = .returned v ∧ NewInts w.heap.size w' v (xs.take 20) ∧ Below w.heap.size w w' := by
  obtain ⟨i0, hi, hz0, hz1, hz2⟩ := info_parts Try.info3
  have hl := h.len
  have hwf := wf_take (n := 20) h.wf
  cases ao with
  | none =>
    have hx : xs = [] := by
      cases xs with
      | nil => rfl
      | cons x l => exact absurd (h.ptr (by simp)).1 (by simp)
    subst hx
    obtain rfl := hnil rfl
    clear h hcap hnil
    go_enter Try.func16, Try.ntmps16
    go_wp2_with (at_builtin; (refine wpList_append_own_none rfl (.tmp 4) (.tmp 9) 25 rfl w.heap.size 3 i0 1 Try.underlying25 hi _ 0 [] rfl (own_nil _ _) rfl ?_))
    go_ret
    exact ⟨_, rfl, NewInts.nil _ _, Below.refl _ _⟩
  | some ad =>
    have HN := Lib.hid (news_at h ad rfl 20)
    have HW := Lib.hid hwf
    clear h hnil hwf
    have HE := Lib.hid (show (xs.take 20).length = min 20 xs.length from List.length_take)
    by_cases h20 : xs.length ≤ 20
    · have hm : (xs.take 20).length = xs.length := by rw [HE.out]; omega
      have HM := Lib.hid hm
      clear hm
      go_enter Try.func16, Try.ntmps16
      go_wp2_with (at_builtin; (refine wpList_append_own _ rfl (.tmp 4) (.tmp 9) 25 rfl w.heap.size 3 i0 (.int .i64 0) 1 8 Try.underlying25 hi hz0 hz1 hz2 rfl (by decide) _ 0 [] rfl (own_nil _ _) ad xs.length cap ((xs.take 20).map (Value.int .i64)) rfl ?c1 HN.out (oneCell_ints _) ?c3 ?c4 (Nat.le_refl _) ?_))
      case c1 => rw [List.length_map, HM.out]; omega
      case c3 => unfold maxLen; omega
      case c4 => omega
      intro v' w1 hown hg _
      go_wp2
      go_ret
      exact ⟨_, rfl, ⟨by rw [HM.out]; simpa using hown, HW.out, by rw [HM.out]; omega⟩, (Below.refl _ _).grown hg (Nat.le_refl _) (fun k hk => by simp [Value.ownBlock] at hk)⟩
    · have hm : (xs.take 20).length = 20 := by rw [HE.out]; omega
      have HM := Lib.hid hm
      clear hm
      go_enter Try.func16, Try.ntmps16
      go_wp2_with (at_builtin; (refine wpList_append_own _ rfl (.tmp 4) (.tmp 9) 25 rfl w.heap.size 3 i0 (.int .i64 0) 1 8 Try.underlying25 hi hz0 hz1 hz2 rfl (by decide) _ 0 [] rfl (own_nil _ _) ad 20 cap ((xs.take 20).map (Value.int .i64)) rfl ?c1 HN.out (oneCell_ints _) ?c3 ?c4 (Nat.le_refl _) ?_))
      case c1 => rw [List.length_map, HM.out]
      case c3 => unfold maxLen; omega
      case c4 => omega
      intro v' w1 hown hg _
      go_wp2
      go_ret
      exact ⟨_, rfl, ⟨by rw [HM.out]; simpa using hown, HW.out, by rw [HM.out]; omega⟩, (Below.refl _ _).grown hg (Nat.le_refl _) (fun k hk => by simp [Value.ownBlock] at hk)⟩

end Go.Proofs.Ytaphmjccdokiiaa
