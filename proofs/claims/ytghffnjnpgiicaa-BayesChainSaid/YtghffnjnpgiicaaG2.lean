/- G2: D E F G H -/
import Derived.Test.YtghffnjnpgiicaaG1
import Derived.Laws.AppendOwnNone
import Derived.Laws.CopyOwn
import Derived.Great.BuildSlice
/- Fractions and weights. -/
namespace Go.Proofs.Ytghffnjnpgiicaa
open Go.RowKit

/-- The reduced fraction num / den. -/
def fracC (num den : Int) : Array Value := #[.int .i64 (num / (Int.gcd num den : Int)), .int .i64 (den / (Int.gcd num den : Int))]
def fracV (num den : Int) : Value := .agg (fracC num den)
theorem fracC_all (num den : Int) : (fracC num den).all (·.oneCell') = true := by simp [fracC, Value.oneCell']

theorem gcd_pos {num den : Int} (h : 1 ≤ den) : 1 ≤ (Int.gcd num den : Int) := by
  have := Int.gcd_pos_of_ne_zero_right num (show den ≠ 0 by omega); omega
theorem gcd_le {num den : Int} (h : 1 ≤ den) : (Int.gcd num den : Int) ≤ den := Int.le_of_dvd (by omega) (Int.gcd_dvd_right ..)
theorem div_bd {a g : Int} (ha : 0 ≤ a) (hg : 1 ≤ g) : 0 ≤ a / g ∧ a / g ≤ a :=
  ⟨Int.ediv_nonneg ha (by omega), Int.ediv_le_self _ ha⟩

set_option maxHeartbeats 1000000 in
/-- The greatest common divisor, for a numerator that is not negative. -/
theorem cdiv_any (num den : Int) (w : World) (hn : 0 ≤ num) (hn2 : num ≤ 9223372036854775807) (hd : 1 ≤ den) (hd2 : den ≤ 9223372036854775807) :
    Calls Try.prog 72 #[.int .i64 num, .int .i64 den] w fun e w' => e = .returned (.int .i64 (Int.gcd num den : Int)) ∧ Below w.heap.size w w' := by
  have hm0 := Int.emod_nonneg num (show den ≠ 0 by omega)
  have hm1 := Int.emod_lt_of_pos num (show 0 < den by omega)
  have HG0 := Lib.hid (gcd_step num den hn (by omega))
  go_enter Try.func72, Try.ntmps72
  go_wp2
  go_quiet (fail)
  go_wp2
  go_loopw [5, 6] (fun x y wr => ∃ m n : Int, x = .int .i64 m ∧ y = .int .i64 n ∧ 0 ≤ m ∧ 0 ≤ n ∧ m ≤ 9223372036854775807 ∧ n ≤ 9223372036854775807 ∧ Int.gcd m n = Int.gcd num den ∧ Below w.heap.size w wr) (fun _ y _ => (intOf y).toNat)
  case atStart => exact ⟨den, num % den, rfl, rfl, by omega, hm0, hd2, by omega, HG0.out, below_drewN (Below.refl _ _) _⟩
  case round =>
    obtain ⟨m, n, rfl, rfl, hm, hn, hm2, hn2, hg, hb⟩ := hrel
    have H := Lib.hid hg
    have HB := Lib.hid hb
    clear hg hb
    by_cases h : 0 < n
    · have hmod := Int.emod_nonneg m (show n ≠ 0 by omega)
      have hlt := Int.emod_lt_of_pos m h
      have hne : (n != 0) = true := by rw [bne_iff_ne]; omega
      go_wp2
      go_quiet (fail)
      go_wp2
      go_roundw
      case rel => exact ⟨n, m % n, rfl, rfl, by omega, hmod, hn2, by omega, by rw [← H.out]; exact gcd_step m n hm (by omega), below_drewN HB.out _⟩
      case measure => simp [intOf]; omega
    · have h0 : n = 0 := by omega
      subst h0
      have hgm : m = (Int.gcd num den : Int) := by rw [← H.out]; simp; omega
      have HG := Lib.hid hgm
      clear hgm
      go_wp2
      go_ret
      exact ⟨ret_int (by rw [← HG.out]), HB.out⟩

set_option maxHeartbeats 1000000 in
theorem fraction_any (num den : Int) (w : World) (hn : 0 ≤ num) (hn2 : num ≤ 9223372036854775807) (hd : 1 ≤ den) (hd2 : den ≤ 9223372036854775807) :
    Calls Try.prog 47 #[.int .i64 num, .int .i64 den] w fun e w' => e = .returned (fracV num den) ∧ Below w.heap.size w w' := by
  have hm1 := gcd_pos (num := num) hd
  have hml := gcd_le (num := num) hd
  obtain ⟨m, hm⟩ : ∃ m : Int, m = (Int.gcd num den : Int) := ⟨_, rfl⟩
  have HG := Lib.hid hm
  rw [← hm] at hm1 hml
  have q1 := div_bd (a := num) (g := m) (by omega) hm1
  have q2 := div_bd (a := den) (g := m) (by omega) hm1
  clear hm
  go_enter Try.func47, Try.ntmps47
  go_wp2_with fail
  refine (cdiv_any _ _ _ (by omega) (by omega) (by omega) (by omega)).mono ?_
  rintro e w' ⟨rfl, hb⟩
  rw [← HG.out]
  have HB := Lib.hid hb
  have hc0 := hb.cell (p := ⟨w.heap.size, 0, none⟩) (by simp)
  have hc1 := hb.cell (p := ⟨w.heap.size, 1, none⟩) (by simp)
  have hf0 := hb.frozen (p := ⟨w.heap.size, 0, none⟩) (by simp)
  have hf1 := hb.frozen (p := ⟨w.heap.size, 1, none⟩) (by simp)
  simp at hc0 hc1 hf0 hf1
  clear hb
  go_wp2
  go_region
  all_goals go_wp2
  refine bodyPost_ret (v := fracV num den) ?_ rfl ⟨rfl, ?_⟩
  · obtain ⟨g0, g1⟩ := set2_cells (x := .int .i64 (num / m)) (y := .int .i64 (den / m)) hc0 hc1
    simp [results, Try.results47, go_sem, fracV, fracC, ← HG.out, g0, g1]
  · exact ((((Below.refl _ _).alloc (Nat.le_refl _) _).trans (HB.out.mono (by simp))).setCell (Nat.le_refl _) _).setCell (Nat.le_refl _) _ |>.drew

end Go.Proofs.Ytghffnjnpgiicaa

/- Small functions, more. -/
namespace Go.Proofs.Ytghffnjnpgiicaa
open Go.RowKit

set_option maxHeartbeats 400000 in
theorem absolute_any (x : Int) (w : World) (h : -9223372036854775808 < x) (h2 : x ≤ 9223372036854775807) :
    Calls Try.prog 69 #[.int .i64 x] w fun e w' => e = .returned (.int .i64 (x.natAbs : Int)) ∧ w = w' := by
  by_cases hx : 0 ≤ x
  · go_enter Try.func69, Try.ntmps69
    go_wp2
    go_ret
    exact ⟨ret_int (by omega), rfl⟩
  · go_enter Try.func69, Try.ntmps69
    go_wp2
    go_ret
    exact ⟨ret_int (by omega), rfl⟩

set_option maxHeartbeats 400000 in
theorem assignments_any (n : Nat) (w : World) (h : n ≤ 20) :
    Calls Try.prog 73 #[.int .i64 n] w fun e w' => e = .returned (.int .i64 ((2 ^ n : Nat) : Int)) ∧ w = w' := by
  have hp := Lib.hid (wrap_pow n (by omega))
  go_enter Try.func73, Try.ntmps73
  go_wp2
  go_ret
  exact ⟨ret_int hp.out, rfl⟩

set_option maxHeartbeats 1000000 in
theorem reduced_any (num den : Int) (w : World) (hn : 0 ≤ num) (hn2 : num ≤ 9223372036854775807) (hd : 1 ≤ den) (hd2 : den ≤ 9223372036854775807) :
    Calls Try.prog 42 #[.int .i64 num, .int .i64 den] w fun e w' => e = .returned (fracV num den) ∧ Below w.heap.size w w' := by
  have hm1 := gcd_pos (num := num) hd
  have hml := gcd_le (num := num) hd
  obtain ⟨m, hm⟩ : ∃ m : Int, m = (Int.gcd num den : Int) := ⟨_, rfl⟩
  have HG := Lib.hid hm
  rw [← hm] at hm1 hml
  have q1 := div_bd (a := num) (g := m) (by omega) hm1
  have q2 := div_bd (a := den) (g := m) (by omega) hm1
  have hc0 : (w.alloc (.cells #[.int .i64 0, .int .i64 0] 29)).cell? ⟨w.heap.size, 0, none⟩ = some (.int .i64 0) := by simp
  have hc1 : (w.alloc (.cells #[.int .i64 0, .int .i64 0] 29)).cell? ⟨w.heap.size, 1, none⟩ = some (.int .i64 0) := by simp
  clear hm
  go_enter Try.func42, Try.ntmps42
  go_wp2_with (go_at_call 68; refine (refGcd_any _ _ _ (by omega) (by omega) (by omega) (by omega)).mono ?_; rintro e w' ⟨rfl, rfl⟩; rw [← HG.out])
  go_region
  all_goals go_wp2
  refine bodyPost_ret (v := fracV num den) ?_ rfl ⟨rfl, ?_⟩
  · simp [results, Try.results42, go_sem, fracV, fracC, ← HG.out]
  · exact ((Below.refl _ _).alloc (Nat.le_refl _) _).drew

set_option maxHeartbeats 400000 in
theorem fullWeight_any (P T : List (List Int)) (v : Value) (w : World) (h : NetAt w v P T) (hT : T.length ≤ 10) :
    Calls Try.prog 49 #[v] w fun e w' => e = .returned (.int .i64 ((16 : Int) ^ T.length)) ∧ Below w.heap.size w w' := by
  obtain ⟨pa, b, o, pc, A, B, O, C, ta, b', o', tc, A', B', O', C', rfl, hP, hT⟩ := h.ex
  clear h hP hT
  go_enter Try.func49, Try.ntmps49
  go_wp2
  go_loop [3, 7] (fun p i => ∃ k : Nat, k ≤ T.length ∧ i = .int .i64 k ∧ p = .int .i64 ((16 ^ k : Nat) : Int)) (fun _ i => T.length - (intOf i).toNat)
  case atStart => exact ⟨0, by omega, rfl, rfl⟩
  case round =>
    obtain ⟨k, hk, rfl, rfl⟩ := hrel
    obtain ⟨q, hq⟩ : ∃ q : Nat, q = 16 ^ k := ⟨_, rfl⟩
    have hq2 : q ≤ 16 ^ 10 := by rw [hq]; exact Nat.pow_le_pow_right (by omega) (by omega)
    rw [← hq]
    have HQ := Lib.hid hq
    clear hq
    by_cases hlt : k < T.length
    · go_wp2
      go_round
      case rel => exact ⟨k + 1, by omega, by go_num, by rw [Nat.pow_succ, ← HQ.out]; go_num⟩
      case measure => simp [intOf]; omega
    · go_wp2
      go_ret
      have : k = T.length := by omega
      exact ⟨ret_int (by rw [HQ.out, this]; simp), (Below.refl _ _).alloc (Nat.le_refl _) _⟩

theorem Try.info3 : (Try.prog.info? 3).map (fun i => (i.zero, i.size, i.bytes)) = some (some (.int .i64 0), 1, 8) := by kernel_rfl
theorem Try.info25 : (Try.prog.info? 25).map (fun i => (i.zero, i.size, i.bytes)) = some (some (.slice none 0 0), 1, 24) := by kernel_rfl

/-- A slice of ints in memory that is new since the heap had B blocks. -/
structure NewInts (B : Nat) (w : World) (v : Value) (xs : List Int) : Prop where
  own : w.ownsRow B 3 1 v xs.length (xs.map (Value.int .i64))
  wf : ∀ i, -9223372036854775808 ≤ nth xs i ∧ nth xs i ≤ 9223372036854775807
  len : xs.length ≤ 140737488351232

theorem nth_map (xs : List Int) (i : Nat) (h : i < xs.length) : (xs.map (Value.int .i64))[i]? = some (.int .i64 (nth xs i)) := by
  simp [nth, List.getD_eq_getElem?_getD, h]

theorem NewInts.at {B : Nat} {w : World} {v : Value} {xs : List Int} (h : NewInts B w v xs) :
    ∃ ao b cap, v = .slice ao xs.length cap ∧ IntsAt w ao b 0 xs ∧ (0 < xs.length → B ≤ b) := by
  obtain ⟨⟨hl, h1⟩, hwf, hlen⟩ := h
  rcases h1 with ⟨rfl, h0⟩ | ⟨g, cap, cur, rfl, hg, hh, hcap, hm, hcs, htk⟩
  · have : xs = [] := List.length_eq_zero_iff.1 h0
    subst this
    exact ⟨none, 0, 0, rfl, IntsAt.nil _ _ _ _, fun h => absurd h (by simp)⟩
  · refine ⟨some ⟨g, 0, none⟩, g, cap, rfl, ⟨fun _ => ⟨rfl, lt_of_block hh⟩, fun i hi => ?_, hlen, hwf⟩, fun _ => hg⟩
    have e : cur[i]? = some (.int .i64 (nth xs i)) := by
      rw [← nth_map xs i hi, ← htk, List.getElem?_take]
      rw [if_pos (by omega)]; simp
    simp [World.cell?, hh, e]

theorem NewInts.nil (B : Nat) (w : World) : NewInts B w (.slice none 0 0) [] :=
  ⟨⟨rfl, .inl ⟨rfl, rfl⟩⟩, fun i => by simp [nth], by simp⟩

theorem nth_take {xs : List Int} {n i : Nat} (h : i < n) : nth (xs.take n) i = nth xs i := by
  simp [nth, List.getD_eq_getElem?_getD, h]
theorem wf_take {xs : List Int} {n : Nat} (h : ∀ i, -9223372036854775808 ≤ nth xs i ∧ nth xs i ≤ 9223372036854775807) : ∀ i, -9223372036854775808 ≤ nth (xs.take n) i ∧ nth (xs.take n) i ≤ 9223372036854775807 := by
  intro i
  by_cases hi : i < n
  · rw [nth_take hi]; exact h i
  · rw [nth_out (by simp; omega)]; omega

/-- The cells that an append copies. -/
theorem news_at {w : World} {ao : Option Addr} {b o : Nat} {xs : List Int} (h : IntsAt w ao b o xs) (ad : Addr) (had : ao = some ad) (n : Nat) :
    ∀ j u, ((xs.take n).map (Value.int .i64))[j]? = some u → w.cell? (ad.add j) = some u := by
  intro j u hj
  have hlt : j < ((xs.take n).map (Value.int .i64)).length := (List.getElem?_eq_some_iff.1 hj).1
  simp at hlt
  have h0 := (h.ptr (by omega)).1
  rw [had] at h0
  obtain rfl : ad = ⟨b, o, none⟩ := Option.some.inj h0
  rw [nth_map _ _ (by simp; omega), nth_take (by omega)] at hj
  rw [← hj]
  have := h.cell j (by omega)
  by_cases e : j = 0
  · subst e; simpa [Addr.add] using this
  · simpa [Addr.add, e] using this

theorem oneCell_ints (xs : List Int) : ∀ u ∈ xs.map (Value.int .i64), u.oneCell' = true := by
  intro u hu
  obtain ⟨x, _, rfl⟩ := List.mem_map.1 hu
  rfl

theorem own_nil (w : World) (B : Nat) : w.ownsRow B 3 1 (.slice none 0 0) 0 [] := ⟨rfl, .inl ⟨rfl, rfl⟩⟩

set_option maxHeartbeats 400000 in
set_option maxRecDepth 100000 in
theorem list_any (xs : List Int) (ao : Option Addr) (b o cap : Nat) (w : World) (h : IntsAt w ao b o xs) (hcap : xs.length ≤ cap) (hnil : ao = none → cap = 0) :
    Calls Try.prog 16 #[.slice ao xs.length cap] w fun e w' => ∃ v, e = .returned v ∧ NewInts w.heap.size w' v (xs.take 20) ∧ Below w.heap.size w w' := by
  obtain ⟨i0, hi, hz0, hz1, hz2⟩ := info_parts Try.info3
  have hl := h.len
  have hwf := wf_take (n := 20) h.wf
  cases ao with
  | none =>
    have hx : xs = [] := by
      cases xs with
      | nil => rfl
      | cons x l => exact absurd (h.ptr (by simp)).1 (by simp)
    subst hx
    obtain rfl := hnil rfl
    clear h hcap hnil
    go_enter Try.func16, Try.ntmps16
    go_wp2_with (at_builtin; (refine wpList_append_own_none rfl (.tmp 4) (.tmp 9) 25 rfl w.heap.size 3 i0 1 Try.underlying25 hi _ 0 [] rfl (own_nil _ _) rfl ?_))
    go_ret
    exact ⟨_, rfl, NewInts.nil _ _, Below.refl _ _⟩
  | some ad =>
    have HN := Lib.hid (news_at h ad rfl 20)
    have HW := Lib.hid hwf
    clear h hnil hwf
    have HE := Lib.hid (show (xs.take 20).length = min 20 xs.length from List.length_take)
    by_cases h20 : xs.length ≤ 20
    · have hm : (xs.take 20).length = xs.length := by rw [HE.out]; omega
      have HM := Lib.hid hm
      clear hm
      go_enter Try.func16, Try.ntmps16
      go_wp2_with (at_builtin; (refine wpList_append_own _ rfl (.tmp 4) (.tmp 9) 25 rfl w.heap.size 3 i0 (.int .i64 0) 1 8 Try.underlying25 hi hz0 hz1 hz2 rfl (by decide) _ 0 [] rfl (own_nil _ _) ad xs.length cap ((xs.take 20).map (Value.int .i64)) rfl ?c1 HN.out (oneCell_ints _) ?c3 ?c4 (Nat.le_refl _) ?_))
      case c1 => rw [List.length_map, HM.out]; omega
      case c3 => unfold maxLen; omega
      case c4 => omega
      intro v' w1 hown hg _
      go_wp2
      go_ret
      exact ⟨_, rfl, ⟨by rw [HM.out]; simpa using hown, HW.out, by rw [HM.out]; omega⟩, (Below.refl _ _).grown hg (Nat.le_refl _) (fun k hk => by simp [Value.ownBlock] at hk)⟩
    · have hm : (xs.take 20).length = 20 := by rw [HE.out]; omega
      have HM := Lib.hid hm
      clear hm
      go_enter Try.func16, Try.ntmps16
      go_wp2_with (at_builtin; (refine wpList_append_own _ rfl (.tmp 4) (.tmp 9) 25 rfl w.heap.size 3 i0 (.int .i64 0) 1 8 Try.underlying25 hi hz0 hz1 hz2 rfl (by decide) _ 0 [] rfl (own_nil _ _) ad 20 cap ((xs.take 20).map (Value.int .i64)) rfl ?c1 HN.out (oneCell_ints _) ?c3 ?c4 (Nat.le_refl _) ?_))
      case c1 => rw [List.length_map, HM.out]
      case c3 => unfold maxLen; omega
      case c4 => omega
      intro v' w1 hown hg _
      go_wp2
      go_ret
      exact ⟨_, rfl, ⟨by rw [HM.out]; simpa using hown, HW.out, by rw [HM.out]; omega⟩, (Below.refl _ _).grown hg (Nat.le_refl _) (fun k hk => by simp [Value.ownBlock] at hk)⟩

end Go.Proofs.Ytghffnjnpgiicaa

/- The weight of an assignment: the program's and the reference's. -/
namespace Go.Proofs.Ytghffnjnpgiicaa
open Go.RowKit

/-- An array of ten ints. -/
def arrC (a : Nat → Int) : Array Value := #[.int .i64 (a 0), .int .i64 (a 1), .int .i64 (a 2), .int .i64 (a 3), .int .i64 (a 4), .int .i64 (a 5), .int .i64 (a 6), .int .i64 (a 7), .int .i64 (a 8), .int .i64 (a 9)]

theorem arrC_get (a : Nat → Int) (i : Nat) (h : i < 10) : (arrC a)[i]? = some (.int .i64 (a i)) := by
  match i, h with
  | 0, _ | 1, _ | 2, _ | 3, _ | 4, _ | 5, _ | 6, _ | 7, _ | 8, _ | 9, _ => rfl

/-- A network and an array, boxed. -/
theorem boxNA {w W : World} {x y : Value} {a : Nat → Int} {T T' : TypeId} (h : Below (w.heap.size + 2) ((w.alloc (.cells #[x, y] T)).alloc (.cells (arrC a) T')) W) :
    W.cell? ⟨w.heap.size, 0, none⟩ = some x ∧ W.cell? ⟨w.heap.size, 1, none⟩ = some y ∧ ∀ i, i < 10 → W.cell? ⟨w.heap.size + 1, i, none⟩ = some (.int .i64 (a i)) := by
  refine ⟨?_, ?_, fun i hi => ?_⟩
  · rw [h.cell (by show w.heap.size < w.heap.size + 2; omega), World.cell?_alloc_old _ _ _ (by simp)]; simp
  · rw [h.cell (by show w.heap.size < w.heap.size + 2; omega), World.cell?_alloc_old _ _ _ (by simp)]; simp
  · rw [h.cell (by show w.heap.size + 1 < w.heap.size + 2; omega)]
    have := World.cell?_alloc_new (w.alloc (.cells #[x, y] T)) (arrC a) T' i
    simp only [World.size_alloc] at this
    rw [this, arrC_get a i hi]

theorem toNat_lt {x : Int} {n : Nat} (h : 0 ≤ x) (h2 : x < n) : x.toNat < n := by omega

theorem shl_bd {b p : Int} (hb : b = 0 ∨ b = 1) (h1 : 1 ≤ p) (h4 : p ≤ 4) : 0 ≤ b * p ∧ b * p ≤ 4 := by
  rcases hb with rfl | rfl <;> omega

theorem pow2_le {t : Nat} (h : t ≤ 3) : (1 : Int) ≤ 2 ^ t ∧ (2 : Int) ^ t ≤ 8 := by
  match t, h with
  | 0, _ | 1, _ | 2, _ | 3, _ => decide

theorem idx_step {ps : List Int} {a : Nat → Int} (ha : Bits a) {t q : Nat} (hq : nth ps t = q) (ht : t ≤ 3) :
    wrap64 (idx ps a t + wrap64 (a q * 2 ^ t)) = idx ps a (t + 1) := by
  have h1 := idx_bd ps ha t
  have h2 := pow2_le ht
  simp only [idx, hq, Int.toNat_natCast]
  rcases ha q with e | e <;> rw [e]
  · simp only [Int.zero_mul]
    rw [IntWalk.wrap64_in 0 (by omega), IntWalk.wrap64_in _ (by omega)]
  · simp only [Int.one_mul]
    rw [IntWalk.wrap64_in (2 ^ t) (by omega), IntWalk.wrap64_in _ (by omega)]

set_option maxHeartbeats 4000000 in
set_option maxRecDepth 100000 in
theorem weight_any (P T : List (List Int)) (v : Value) (a : Nat → Int) (w : World) (h : NetAt w v P T) (hn : IsNet P T) (ha : Bits a) :
    Calls Try.prog 48 #[v, .agg (arrC a)] w fun e w' => e = .returned (.int .i64 (wt P T a P.length)) ∧ Below w.heap.size w w' := by
  obtain ⟨pa, b, o, pc, A, B, O, C, ta, b', o', tc, A', B', O', C', rfl, hP, hT⟩ := h.ex
  obtain ⟨rfl, hbb⟩ := hP.ptr (by have := hn.pos; omega)
  obtain ⟨rfl, hbb'⟩ := hT.ptr (by have := hn.pos; have := hn.tab; omega)
  have h10 := hn.le
  have hpos := hn.pos
  have HN := Lib.hid hn
  have HP := Lib.hid hP
  have HT := Lib.hid hT
  have HA := Lib.hid ha
  clear hP hT h hn ha
  go_enter Try.func48, Try.ntmps48
  go_wp2
  go_loopw [5, 14] (fun q i wr => ∃ k : Nat, k ≤ P.length ∧ i = .int .i64 k ∧ q = .int .i64 (wt P T a k) ∧ Below (w.heap.size + 2) ((w.alloc (.cells #[.slice (some ⟨b, o, none⟩) P.length pc, .slice (some ⟨b', o', none⟩) T.length tc] 24)).alloc (.cells (arrC a) 78)) wr) (fun _ i _ => P.length - (intOf i).toNat)
  case atStart => exact ⟨0, by omega, rfl, rfl, Below.refl _ _⟩
  case round =>
    obtain ⟨k, hk, rfl, rfl, hbel⟩ := hrel
    have HB := Lib.hid hbel
    obtain ⟨hx0, hx1, harr⟩ := boxNA hbel
    clear hbel
    have hw := wt_le HN.out HA.out k hk
    by_cases hlk : k < P.length
    · have htab := HN.out.tab
      have hlk' : k < T.length := by omega
      have hP' := (HP.out.alloc (.cells #[.slice (some ⟨b, o, none⟩) P.length pc, .slice (some ⟨b', o', none⟩) T.length tc] 24)).alloc (.cells (arrC a) 78) |>.below HB.out (by simp)
      have hT' := (HT.out.alloc (.cells #[.slice (some ⟨b, o, none⟩) P.length pc, .slice (some ⟨b', o', none⟩) T.length tc] 24)).alloc (.cells (arrC a) 78) |>.below HB.out (by simp)
      have hck := hP'.cell k hlk
      have hck' := hT'.cell k hlk'
      have HrP := Lib.hid (hP'.rows k hlk)
      have HrT := Lib.hid (hT'.rows k hlk')
      have HOK := Lib.hid (HN.out.par k hlk)
      have hl3 := (HN.out.par k hlk).1
      have HTL := Lib.hid htab
      clear hP' hT' htab
      go_wp2
      clear hck
      go_loopw [8, 25] (fun q i wi => ∃ t : Nat, t ≤ (row P k).length ∧ i = .int .i64 t ∧ q = .int .i64 (idx (row P k) a t) ∧ wi = wr) (fun _ i _ => (row P k).length - (intOf i).toNat)
      case atStart => exact ⟨0, by omega, rfl, rfl, rfl⟩
      case round =>
        obtain ⟨t, ht, rfl, rfl, rfl⟩ := hrel
        have hid := idx_bd (row P k) HA.out t
        have ht3 : t ≤ 3 := by omega
        by_cases hlt : t < (row P k).length
        · obtain ⟨hAk, hbk⟩ := HrP.out.ptr (by omega)
          rw [hAk]
          have hct := HrP.out.cell t hlt
          have hpt := HOK.out.2.1 t hlt
          obtain ⟨q, hq⟩ : ∃ q : Nat, nth (row P k) t = (q : Int) := ⟨(nth (row P k) t).toNat, by omega⟩
          have hq10 : q < 10 := by omega
          rw [hq] at hct
          have harq := harr q hq10
          have hbit := HA.out q
          clear harr hAk
          have hstep := idx_step HA.out hq ht3
          have HS := Lib.hid hstep
          clear hstep
          go_wp2
          go_roundw
          case rel => exact ⟨t + 1, by omega, by go_num, by rw [HS.out], trivial⟩
          case measure => simp [intOf]; omega
        · obtain ⟨z, hz⟩ : ∃ z : Nat, idx (row P k) a (row P k).length = z := ⟨(idx (row P k) a (row P k).length).toNat, by have := idx_bd (row P k) HA.out (row P k).length; omega⟩
          have e : t = (row P k).length := by omega
          rw [e, hz]
          have hzl : z < (row T k).length := by have := idx_lt HN.out HA.out hlk; rw [hz] at this; simpa using this
          obtain ⟨hAk, hbk⟩ := HrT.out.ptr (by omega)
          rw [hAk] at hck' ⊢
          have hct := HrT.out.cell z hzl
          have hent := (HN.out.ok k hlk).2 z hzl
          have hlT := HrT.out.len
          have hak := harr k (by omega)
          have hw1 := wt_le HN.out HA.out (k + 1) (by omega)
          have hfac : wt P T a (k + 1) = wt P T a k * (if a k = 1 then nth (row T k) z else 16 - nth (row T k) z) := by simp only [wt, fac, hz]; rfl
          rw [hfac] at hw1
          have HF := Lib.hid hfac
          clear harr hAk hz e hfac hid
          rcases HA.out k with e | e
          · rw [e] at hak
            rw [if_neg (by rw [e]; decide)] at hw1
            have HW := Lib.hid (IntWalk.wrap64_in _ ⟨by omega, by omega⟩ : wrap64 (wt P T a k * (16 - nth (row T k) z)) = _)
            have HE := Lib.hid e
            clear e hw1
            go_wp2
            go_roundw
            case rel => exact ⟨k + 1, by omega, by go_num, by rw [HW.out, HF.out, if_neg (by rw [HE.out]; decide)], HB.out⟩
            case measure => simp [intOf]; omega
          · rw [e] at hak
            rw [if_pos e] at hw1
            have HW := Lib.hid (IntWalk.wrap64_in _ ⟨by omega, by omega⟩ : wrap64 (wt P T a k * nth (row T k) z) = _)
            have HE := Lib.hid e
            clear e hw1
            go_wp2
            go_roundw
            case rel => exact ⟨k + 1, by omega, by go_num, by rw [HW.out, HF.out, if_pos HE.out], HB.out⟩
            case measure => simp [intOf]; omega
    · have hlk' : ¬ k < T.length := by have := HN.out.tab; omega
      clear harr hx0 hx1
      go_wp2
      go_ret
      have e : k = P.length := by omega
      exact ⟨ret_int (by rw [e]), ((Below.refl _ _).alloc (Nat.le_refl _) _).alloc (by simp) _ |>.trans (HB.out.mono (by omega))⟩

theorem idx_step2 {ps : List Int} {a : Nat → Int} (ha : Bits a) {t q : Nat} (hq : nth ps t = q) (ht : t ≤ 3) (h1 : a q = 1) :
    wrap64 (idx ps a t + wrap64 (2 ^ t)) = idx ps a (t + 1) := by
  have := idx_step ha hq ht
  rw [h1, Int.one_mul] at this; exact this
theorem idx_step0 {ps : List Int} {a : Nat → Int} {t q : Nat} (hq : nth ps t = q) (h0 : a q = 0) : idx ps a t = idx ps a (t + 1) := by
  simp [idx, hq, h0]

set_option maxHeartbeats 4000000 in
set_option maxRecDepth 100000 in
theorem refWeight_any (P T : List (List Int)) (v : Value) (xs : List Int) (ao : Option Addr) (xb xo xc : Nat) (w : World) (h : NetAt w v P T) (hx : IntsAt w ao xb xo xs) (hn : IsNet P T) (ha : Bits (nth xs)) (hlen : xs.length = P.length) :
    Calls Try.prog 50 #[v, .slice ao xs.length xc] w fun e w' => e = .returned (.int .i64 (wt P T (nth xs) P.length)) ∧ Below w.heap.size w w' := by
  obtain ⟨pa, b, o, pc, A, B, O, C, ta, b', o', tc, A', B', O', C', rfl, hP, hT⟩ := h.ex
  have h10 := hn.le
  have hpos := hn.pos
  obtain ⟨rfl, hbb⟩ := hP.ptr (by omega)
  obtain ⟨rfl, hbb'⟩ := hT.ptr (by have := hn.tab; omega)
  obtain ⟨rfl, hbx⟩ := hx.ptr (by omega)
  have HN := Lib.hid hn
  have HP := Lib.hid hP
  have HT := Lib.hid hT
  have HX := Lib.hid hx
  have HA := Lib.hid ha
  have HL := Lib.hid hlen
  clear hP hT h hn ha hlen hx
  go_enter Try.func50, Try.ntmps50
  go_wp2
  go_loopw [5, 6, 7, 8] (fun q i _ _ wr => ∃ k : Nat, k ≤ P.length ∧ i = .int .i64 k ∧ q = .int .i64 (wt P T (nth xs) k) ∧ Below (w.heap.size + 1) (w.alloc (.cells #[.slice (some ⟨b, o, none⟩) P.length pc, .slice (some ⟨b', o', none⟩) T.length tc] 24)) wr) (fun _ i _ _ _ => P.length - (intOf i).toNat)
  case atStart => exact ⟨0, by omega, rfl, rfl, Below.refl _ _⟩
  case round =>
    obtain ⟨k, hk, rfl, rfl, hbel⟩ := hrel
    have HB := Lib.hid hbel
    obtain ⟨hx0, hx1⟩ := box2 hbel
    clear hbel
    have hw := wt_le HN.out HA.out k hk
    by_cases hlk : k < P.length
    · have hlk' : k < T.length := by have := HN.out.tab; omega
      have hlkx : k < xs.length := by have := HL.out; omega
      have hP' := (HP.out.alloc (.cells #[.slice (some ⟨b, o, none⟩) P.length pc, .slice (some ⟨b', o', none⟩) T.length tc] 24)).below HB.out (by simp)
      have hT' := (HT.out.alloc (.cells #[.slice (some ⟨b, o, none⟩) P.length pc, .slice (some ⟨b', o', none⟩) T.length tc] 24)).below HB.out (by simp)
      have hX' := (HX.out.alloc (.cells #[.slice (some ⟨b, o, none⟩) P.length pc, .slice (some ⟨b', o', none⟩) T.length tc] 24)).below HB.out (by simp)
      have hck := hP'.cell k hlk
      have hck' := hT'.cell k hlk'
      have HrP := Lib.hid (hP'.rows k hlk)
      have HrT := Lib.hid (hT'.rows k hlk')
      have HOK := Lib.hid (HN.out.par k hlk)
      have hl3 := (HN.out.par k hlk).1
      have HX' := Lib.hid hX'
      clear hP' hT' hX'
      go_wp2
      go_loopw [7, 8] (fun q i wi => ∃ t : Nat, t ≤ (row P k).length ∧ i = .int .i64 t ∧ q = .int .i64 (idx (row P k) (nth xs) t) ∧ wi = wr) (fun _ i _ => (row P k).length - (intOf i).toNat)
      case atStart => exact ⟨0, by omega, rfl, rfl, rfl⟩
      case round =>
        obtain ⟨t, ht, rfl, rfl, rfl⟩ := hrel
        have hid := idx_bd (row P k) HA.out t
        have ht3 : t ≤ 3 := by omega
        by_cases hlt : t < (row P k).length
        · obtain ⟨hAk, hbk⟩ := HrP.out.ptr (by omega)
          rw [hAk] at hck
          have hct := HrP.out.cell t hlt
          have hpt := HOK.out.2.1 t hlt
          obtain ⟨q, hq⟩ : ∃ q : Nat, nth (row P k) t = (q : Int) := ⟨(nth (row P k) t).toNat, by omega⟩
          have hqx : q < xs.length := by omega
          rw [hq] at hct
          have harq := HX'.out.cell q hqx
          clear hAk
          rcases HA.out q with e | e
          · rw [e] at harq
            have HS := Lib.hid (idx_step0 hq e)
            clear e
            go_wp2
            go_roundw
            case rel => exact ⟨t + 1, by omega, by go_num, by rw [HS.out], trivial⟩
            case measure => simp [intOf]; omega
          · rw [e] at harq
            have HS := Lib.hid (idx_step2 HA.out hq ht3 e)
            clear e
            go_wp2
            go_roundw
            case rel => exact ⟨t + 1, by omega, by go_num, by rw [HS.out], trivial⟩
            case measure => simp [intOf]; omega
        · obtain ⟨z, hz⟩ : ∃ z : Nat, idx (row P k) (nth xs) (row P k).length = z := ⟨(idx (row P k) (nth xs) (row P k).length).toNat, by have := idx_bd (row P k) HA.out (row P k).length; omega⟩
          have e : t = (row P k).length := by omega
          rw [e, hz]
          have hzl : z < (row T k).length := by have := idx_lt HN.out HA.out hlk; rw [hz] at this; simpa using this
          obtain ⟨hAk, hbk⟩ := HrT.out.ptr (by omega)
          rw [hAk] at hck'
          have hct := HrT.out.cell z hzl
          have hent := (HN.out.ok k hlk).2 z hzl
          have hlT := HrT.out.len
          have hak := HX'.out.cell k hlkx
          have hw1 := wt_le HN.out HA.out (k + 1) (by omega)
          have hfac : wt P T (nth xs) (k + 1) = wt P T (nth xs) k * (if nth xs k = 1 then nth (row T k) z else 16 - nth (row T k) z) := by simp only [wt, fac, hz]; rfl
          rw [hfac] at hw1
          have HF := Lib.hid hfac
          clear hAk hz e hfac hid
          rcases HA.out k with e | e
          · rw [e] at hak
            rw [if_neg (by rw [e]; decide)] at hw1
            have HW := Lib.hid (IntWalk.wrap64_in _ ⟨by omega, by omega⟩ : wrap64 (wt P T (nth xs) k * (16 - nth (row T k) z)) = _)
            have HE := Lib.hid e
            clear e hw1
            go_wp2
            go_roundw
            case rel => exact ⟨k + 1, by omega, by go_num, by rw [HW.out, HF.out, if_neg (by rw [HE.out]; decide)], HB.out⟩
            case measure => simp [intOf]; omega
          · rw [e] at hak
            rw [if_pos e] at hw1
            have HW := Lib.hid (IntWalk.wrap64_in _ ⟨by omega, by omega⟩ : wrap64 (wt P T (nth xs) k * nth (row T k) z) = _)
            have HE := Lib.hid e
            clear e hw1
            go_wp2
            go_roundw
            case rel => exact ⟨k + 1, by omega, by go_num, by rw [HW.out, HF.out, if_pos HE.out], HB.out⟩
            case measure => simp [intOf]; omega
    · clear hx1
      go_wp2
      go_ret
      have e : k = P.length := by omega
      exact ⟨ret_int (by rw [e]), (Below.refl _ _).alloc (Nat.le_refl _) _ |>.trans (HB.out.mono (by omega))⟩

end Go.Proofs.Ytghffnjnpgiicaa

/- Assignments out of numbers. -/
namespace Go.Proofs.Ytghffnjnpgiicaa
open Go.RowKit

/-- The value of variable v (of n) in the assignment with this number. -/
def bitv (n pos : Nat) (v : Nat) : Int := if v < n then ((pos / 2 ^ (n - 1 - v) % 2 : Nat) : Int) else 0

theorem bitv_Bits (n pos : Nat) : Bits (bitv n pos) := by
  intro v
  unfold bitv
  split <;> omega

theorem arrC_congr {a b : Nat → Int} (h : ∀ i, i < 10 → a i = b i) : arrC a = arrC b := by
  simp only [arrC, h 0 (by omega), h 1 (by omega), h 2 (by omega), h 3 (by omega), h 4 (by omega), h 5 (by omega), h 6 (by omega), h 7 (by omega), h 8 (by omega), h 9 (by omega)]

theorem arrC_set (a : Nat → Int) (k : Nat) (x : Int) (h : k < 10) : (arrC a).setIfInBounds k (.int .i64 x) = arrC (fun i => if i = k then x else a i) := by
  match k, h with
  | 0, _ | 1, _ | 2, _ | 3, _ | 4, _ | 5, _ | 6, _ | 7, _ | 8, _ | 9, _ => rfl

theorem arrC_all (a : Nat → Int) : (arrC a).all (·.oneCell') = true := by simp [arrC, Value.oneCell']

theorem i64_and1 (n : Int) : Go.bits .and .i64 n 1 = n % 2 := by
  have h1 : (BitVec.ofInt 64 1).toNat = 2 ^ 1 - 1 := by decide
  have key : (BitVec.ofInt 64 n &&& BitVec.ofInt 64 1).toNat = (n % ((2 ^ 64 : Nat) : Int)).toNat % 2 ^ 1 := by
    rw [BitVec.toNat_and, BitVec.toNat_ofInt, h1, Nat.and_two_pow_sub_one_eq_mod]
  show IntKind.i64.wrap ((BitVec.ofInt 64 n &&& BitVec.ofInt 64 1).toNat : Nat) = n % 2
  rw [key, IntKind.wrap_i64]
  omega

set_option maxHeartbeats 2000000 in
set_option maxRecDepth 100000 in
theorem assignmentAt_any (pos n : Nat) (w : World) (hn : n ≤ 10) (_hp : pos ≤ 1024) :
    Calls Try.prog 74 #[.int .i64 pos, .int .i64 n] w fun e w' => e = .returned (.agg (arrC (bitv n pos))) ∧ Below w.heap.size w w' := by
  go_enter Try.func74, Try.ntmps74
  go_wp2
  go_loopw [6, 8] (fun _ i wr => ∃ k : Nat, k ≤ n ∧ i = .int .i64 k ∧ Below w.heap.size w wr ∧ wr.heap[w.heap.size]? = some (.cells (arrC (fun _ => 0)) 78 (0, 0)) ∧
      wr.heap[w.heap.size + 1]? = some (.cells (arrC (fun v => if v < k then bitv n pos v else 0)) 78 (0, 0))) (fun _ i _ => n - (intOf i).toNat)
  case atStart => exact ⟨0, by omega, rfl, ((Below.refl _ _).alloc (Nat.le_refl _) _).alloc (by simp) _, heap_alloc2_old _ _ _, heap_alloc2_new _ _ _⟩
  case round =>
    obtain ⟨k, hk, rfl, hb, h0, h1⟩ := hrel
    have HB := Lib.hid hb
    have H0 := Lib.hid h0
    have H1 := Lib.hid h1
    clear hb h0 h1
    by_cases hlt : k < n
    · have hc : wr.cell? ⟨w.heap.size + 1, k, none⟩ = some (.int .i64 0) := by rw [cell_of_row _ _ _ _ _ _ H1.out, arrC_get _ _ (by omega)]; simp
      have hf : wr.frozen? ⟨w.heap.size + 1, k, none⟩ = false := frozen_of_row _ _ _ _ _ H1.out
      go_wp2
      go_roundw
      case rel =>
        rw [i64_and1]
        have e : ((pos : Int) / 2 ^ (n - 1 - k)) % 2 = bitv n pos k := by
          unfold bitv; rw [if_pos hlt]; simp
        rw [e]
        refine ⟨k + 1, by omega, by go_num, HB.out.setCell (by show w.heap.size ≤ w.heap.size + 1; omega) _, ?_, ?_⟩
        · rw [heap_setCell_other _ _ _ _ (by show w.heap.size ≠ w.heap.size + 1; omega)]; exact H0.out
        · rw [heap_setCell_same _ _ _ _ _ _ H1.out, arrC_set _ _ _ (by omega)]
          refine congrArg (fun x => some (Obj.cells x 78)) (arrC_congr fun i hi => ?_)
          by_cases e : i = k
          · subst e; simp
          · by_cases e2 : i < k
            · rw [if_neg e, if_pos e2, if_pos (by omega)]
            · rw [if_neg e, if_neg e2, if_neg (by omega)]
      case measure => simp [intOf]; omega
    · have e : k = n := by omega
      go_wp2_with (first | (refine wpList_load_row rfl 78 (.tmp 5) rfl (w.heap.size + 1) rfl 78 _ _ _ H1.out Try.underlying78 rfl (by kernel_rfl) ?_) | (refine wpList_store_row rfl 78 (.tmp 4) (.tmp 21) rfl w.heap.size _ rfl rfl 78 _ H0.out (by kernel_rfl) rfl (arrC_all _) ?_))
      have e2 : arrC (fun v => if v < k then bitv n pos v else 0) = arrC (bitv n pos) := arrC_congr fun i hi => by
        by_cases h : i < k
        · rw [if_pos h]
        · rw [if_neg h]; unfold bitv; rw [if_neg (by omega)]
      refine bodyPost_ret (v := .agg (arrC (bitv n pos))) ?_ rfl ⟨rfl, ?_⟩
      · rw [results_cell_row (ty := 78) (p := 4) rfl _ _ w.heap.size 78 _ (0, 0) _ rfl (setRow_heap _ _ _ _ _ _ H0.out) Try.underlying78 rfl (by kernel_rfl), e2]
      · exact below_setRow HB.out (Nat.le_refl _) _

end Go.Proofs.Ytghffnjnpgiicaa

/- Values out of numbers (the reference); assignments out of lists. -/
namespace Go.Proofs.Ytghffnjnpgiicaa
open Go.RowKit

/-- The values of n variables in the assignment with this number, as a list. -/
def vals (n pos : Nat) : List Int := (List.range n).map (bitv n pos)
theorem vals_length (n pos : Nat) : (vals n pos).length = n := by simp [vals]
theorem nth_vals (n pos i : Nat) : nth (vals n pos) i = bitv n pos i := by
  by_cases h : i < n
  · simp [nth, vals, List.getD_eq_getElem?_getD, h]
  · rw [nth_out (by rw [vals_length]; omega)]; unfold bitv; rw [if_neg h]

/-- A list of cells in a block of its own. -/
theorem intsAt_of_row {w : World} {g : Nat} {xs : List Int} (h : w.rowIs g 3 xs.length (fun i => .int .i64 (nth xs i))) (hl : xs.length ≤ 140737488351232)
    (hwf : ∀ i, -9223372036854775808 ≤ nth xs i ∧ nth xs i ≤ 9223372036854775807) : IntsAt w (some ⟨g, 0, none⟩) g 0 xs :=
  ⟨fun _ => ⟨rfl, h.lt⟩, fun i hi => by simpa using h.cell hi, hl, hwf⟩

theorem pow_div_step {pos k : Nat} : pos / 2 ^ k / 2 = pos / 2 ^ (k + 1) := by rw [Nat.div_div_eq_div_mul, Nat.pow_succ]

set_option maxHeartbeats 2000000 in
set_option maxRecDepth 100000 in
theorem refValues_any (n pos : Nat) (w : World) (hn : n ≤ 10) (hp : pos ≤ 1024) :
    Calls Try.prog 40 #[.int .i64 n, .int .i64 pos] w fun e w' => e = .returned (.slice (some ⟨w.heap.size, 0, none⟩) n n) ∧ w'.rowIs w.heap.size 3 n (fun i => .int .i64 (bitv n pos i)) ∧ Below w.heap.size w w' := by
  have hmk := run_make_row' (P := Try.prog) 25 3 (.int .i64 0) 8 Try.underlying25 Try.info3 rfl .i64 .i64 n (by omega) (by omega)
  go_enter Try.func40, Try.ntmps40
  go_wp2
  clear hmk
  go_loopw [1, 6] (fun p i wr => ∃ k : Nat, k ≤ n ∧ i = .int .i64 ((n : Int) - 1 - k) ∧ p = .int .i64 ((pos / 2 ^ k : Nat) : Int) ∧ Below w.heap.size w wr ∧
      wr.rowIs w.heap.size 3 n (fun j => if n - k ≤ j then .int .i64 (bitv n pos j) else .int .i64 0)) (fun _ i _ => (intOf i + 1).toNat)
  case atStart => exact ⟨0, by omega, by go_num, by simp, (Below.refl _ _).alloc (Nat.le_refl _) _, (World.rowIs_made _ _ _ _).congr (fun j hj => by rw [if_neg (by omega)])⟩
  case round =>
    obtain ⟨k, hk, rfl, rfl, hb, h1⟩ := hrel
    have HB := Lib.hid hb
    have H1 := Lib.hid h1
    have hq : pos / 2 ^ k ≤ pos := Nat.div_le_self _ _
    obtain ⟨q, hqq⟩ : ∃ q : Nat, pos / 2 ^ k = q := ⟨_, rfl⟩
    rw [hqq] at hq ⊢
    have HQ := Lib.hid hqq
    clear hb h1 hqq
    by_cases hlt : k < n
    · obtain ⟨m, hm⟩ : ∃ m : Nat, n = m + 1 + k := ⟨n - 1 - k, by omega⟩
      have HM := Lib.hid hm
      have hmi : ((n : Int) - 1 - k) = (m : Int) := by omega
      rw [hmi]
      clear hm
      have hmn : m < n := by have := HM.out; omega
      have hc : wr.cell? ⟨w.heap.size, m, none⟩ = some (.int .i64 0) := by have := H1.out.cell hmn; rw [if_neg (by have := HM.out; omega)] at this; exact this
      have hf : wr.frozen? ⟨w.heap.size, m, none⟩ = false := H1.out.frozen m
      clear hmi
      go_wp2
      go_roundw
      case rel =>
        have hm := HM.out
        have eb : ((q : Int) % 2) = bitv n pos m := by
          unfold bitv; rw [if_pos hmn, show n - 1 - m = k by omega, HQ.out]; simp
        refine ⟨k + 1, by omega, congrArg _ (by omega), congrArg _ ?_, HB.out.setCell (Nat.le_refl _) _, (H1.out.set m _).congr (fun j hj => ?_)⟩
        · rw [← pow_div_step, HQ.out]; simp
        · by_cases e : j = m
          · subst e; rw [if_pos rfl, if_pos (by omega), eb]
          · rw [if_neg e]
            by_cases e2 : n - k ≤ j
            · rw [if_pos e2, if_pos (by omega)]
            · rw [if_neg e2, if_neg (by omega)]
      case measure => have hm := HM.out; simp [intOf]
    · have : k = n := by omega
      subst this
      go_wp2
      go_ret
      exact ⟨rfl, H1.out.congr (fun j hj => by rw [if_pos (by omega)]), HB.out⟩

/-- One value for each variable. -/
def okAsg (xs : List Int) (n : Nat) : Bool := decide (xs.length = n ∧ ∀ i, i < xs.length → nth xs i = 0 ∨ nth xs i = 1)

theorem okAsg_Bits {xs : List Int} {n : Nat} (h : okAsg xs n = true) : Bits (nth xs) := by
  intro v
  by_cases hv : v < xs.length
  · exact (of_decide_eq_true h).2 v hv
  · exact .inl (nth_out (by omega))

theorem results_cell_row2 {P : Program} {fn : Func} {p u : Tmp} {ty : TypeId} (h : fn.results = #[.cell p ty, .tmp u]) (tmps : Array Value) (w : World) (g : Nat) (t : TypeId) (cs : Array Value) (fr : Nat × Nat) (d : TypeDesc)
    (hp : tmps.getD p undef = .pointer (some ⟨g, 0, none⟩)) (hg : w.heap[g]? = some (.cells cs t fr))
    (hu : P.underlying ty = some d) (hd : (match d with | .struct _ | .array _ _ => true | _ => false) = true) (hi : (P.info? ty).map (·.size) = some cs.size) :
    (results fn tmps).run P w = .ok (.tuple #[.agg cs, tmps.getD u undef]) w := by
  have hp' : tmps[p]?.getD undef = .pointer (some ⟨g, 0, none⟩) := by simpa using hp
  rw [results_cell_tmp h]
  simp [hp', asAddr, run_loadVar_row w g t ty cs fr d hg hu hd hi, Result.andThen]

set_option maxHeartbeats 2000000 in
set_option maxRecDepth 100000 in
theorem toAssignment_any (xs : List Int) (n : Nat) (ao : Option Addr) (b o cap : Nat) (w : World) (h : IntsAt w ao b o xs) (hn : n ≤ 10) :
    Calls Try.prog 46 #[.slice ao xs.length cap, .int .i64 n] w fun e w' =>
      (∃ f : Nat → Int, e = .returned (.tuple #[.agg (arrC f), .bool (okAsg xs n)]) ∧ (okAsg xs n = true → f = nth xs)) ∧ Below w.heap.size w w' := by
  have hl := h.len
  have H := Lib.hid h
  clear h
  by_cases hln : xs.length = n
  · subst hln
    go_enter Try.func46, Try.ntmps46
    go_wp2
    go_loopw [7, 8, 16] (fun _ _ i wr => ∃ k : Nat, k ≤ xs.length ∧ i = .int .i64 k ∧ Below w.heap.size w wr ∧ (∀ j, j < k → nth xs j = 0 ∨ nth xs j = 1) ∧
        wr.heap[w.heap.size]? = some (.cells (arrC (fun _ => 0)) 78 (0, 0)) ∧ wr.heap[w.heap.size + 1]? = some (.cells (arrC (fun v => if v < k then nth xs v else 0)) 78 (0, 0))) (fun _ _ i _ => xs.length - (intOf i).toNat)
    case atStart => exact ⟨0, by omega, rfl, ((Below.refl _ _).alloc (Nat.le_refl _) _).alloc (by simp) _, fun j hj => absurd hj (by omega), heap_alloc2_old _ _ _, heap_alloc2_new _ _ _⟩
    case round =>
      obtain ⟨k, hk, rfl, hb, ha, h0, h1⟩ := hrel
      have HB := Lib.hid hb
      have HA := Lib.hid ha
      have H0 := Lib.hid h0
      have H1 := Lib.hid h1
      clear hb ha h0 h1
      by_cases hlt : k < xs.length
      · have hx := H.out.below HB.out (Nat.le_refl _)
        obtain ⟨rfl, hbb⟩ := hx.ptr (by omega)
        have hck := hx.cell k hlt
        have hwf := hx.wf k
        clear hx
        cases e1 : isVal (nth xs k)
        · have HF := Lib.hid (show okAsg xs xs.length = false from decide_eq_false (fun q => by have := q.2 k hlt; simp [isVal] at e1; omega))
          have hC := isValue_any (nth xs k) wr
          rw [e1] at hC
          have HC := Lib.hid hC
          clear hC e1
          go_wp2_with (first | (go_at_call 66; refine HC.out.mono ?_; rintro e w' ⟨rfl, rfl⟩) | (refine wpList_store_row rfl 78 (.tmp 4) (.tmp 24) rfl w.heap.size _ rfl rfl 78 _ H0.out (by kernel_rfl) rfl (arrC_all (fun _ => 0)) ?_))
          refine bodyPost_ret (v := .tuple #[.agg (arrC fun _ => 0), .bool false]) ?_ rfl ⟨⟨fun _ => 0, by rw [HF.out], fun h => absurd (HF.out.symm.trans h) (by decide)⟩, ?_⟩
          · exact results_cell_row2 (ty := 78) (p := 4) (u := 5) rfl _ _ w.heap.size 78 _ (0, 0) _ rfl (setRow_heap _ _ _ _ _ _ H0.out) Try.underlying78 rfl (by kernel_rfl)
          · exact below_setRow HB.out (Nat.le_refl _) _
        · have hC := isValue_any (nth xs k) wr
          have hv : nth xs k = 0 ∨ nth xs k = 1 := by simpa [isVal] using e1
          have HV := Lib.hid hv
          rw [e1] at hC
          have HC := Lib.hid hC
          have hc : wr.cell? ⟨w.heap.size + 1, k, none⟩ = some (.int .i64 0) := by rw [cell_of_row _ _ _ _ _ _ H1.out, arrC_get _ _ (by omega)]; simp
          have hf : wr.frozen? ⟨w.heap.size + 1, k, none⟩ = false := frozen_of_row _ _ _ _ _ H1.out
          clear hC e1 hv
          go_wp2_with (first | (go_at_call 66; refine HC.out.mono ?_; rintro e w' ⟨rfl, rfl⟩))
          go_roundw
          case rel =>
            refine ⟨k + 1, by omega, by go_num, HB.out.setCell (by show w.heap.size ≤ w.heap.size + 1; omega) _, fun j hj => ?_, ?_, ?_⟩
            · by_cases e : j = k
              · subst e; exact HV.out
              · exact HA.out j (by omega)
            · rw [heap_setCell_other _ _ _ _ (by show w.heap.size ≠ w.heap.size + 1; omega)]; exact H0.out
            · rw [heap_setCell_same _ _ _ _ _ _ H1.out, arrC_set _ _ _ (by omega)]
              refine congrArg (fun x => some (Obj.cells x 78)) (arrC_congr fun i hi => ?_)
              by_cases e : i = k
              · subst e; simp
              · by_cases e2 : i < k
                · rw [if_neg e, if_pos e2, if_pos (by omega)]
                · rw [if_neg e, if_neg e2, if_neg (by omega)]
          case measure => simp [intOf]; omega
      · go_wp2_with (first | (refine wpList_load_row rfl 78 (.tmp 6) rfl (w.heap.size + 1) rfl 78 _ _ _ H1.out Try.underlying78 rfl (by kernel_rfl) ?_) | (refine wpList_store_row rfl 78 (.tmp 4) (.tmp 29) rfl w.heap.size _ rfl rfl 78 _ H0.out (by kernel_rfl) rfl (arrC_all _) ?_))
        have e2 : arrC (fun v => if v < k then nth xs v else 0) = arrC (nth xs) := arrC_congr fun i hi => by
          by_cases h : i < k
          · rw [if_pos h]
          · rw [if_neg h, nth_out (by omega)]
        have HT := Lib.hid (show okAsg xs xs.length = true from decide_eq_true ⟨rfl, fun i hi => HA.out i (by omega)⟩)
        refine bodyPost_ret (v := .tuple #[.agg (arrC (nth xs)), .bool true]) ?_ rfl ⟨⟨nth xs, by rw [HT.out], fun _ => rfl⟩, ?_⟩
        · rw [← e2]
          exact results_cell_row2 (ty := 78) (p := 4) (u := 5) rfl _ _ w.heap.size 78 _ (0, 0) _ rfl (setRow_heap _ _ _ _ _ _ H0.out) Try.underlying78 rfl (by kernel_rfl)
        · exact below_setRow HB.out (Nat.le_refl _) _
  · have hB : (((xs.length : Int)) != (n : Int)) = true := by rw [bne_iff_ne]; omega
    have HF := Lib.hid (show okAsg xs n = false from decide_eq_false (fun q => hln q.1))
    go_enter Try.func46, Try.ntmps46
    go_wp2
    refine bodyPost_ret (v := .tuple #[.agg (arrC fun _ => 0), .bool false]) ?_ rfl ⟨⟨fun _ => 0, by rw [HF.out], fun h => absurd (HF.out.symm.trans h) (by decide)⟩, ?_⟩
    · simp [results, Try.results46, go_sem, arrC]
    · exact ((Below.refl _ _).alloc (Nat.le_refl _) _).alloc (by simp) _

end Go.Proofs.Ytghffnjnpgiicaa

