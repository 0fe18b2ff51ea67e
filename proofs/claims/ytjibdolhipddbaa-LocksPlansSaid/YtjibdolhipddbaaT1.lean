/- Sets of pairs as numbers, the maximal ones of a list, and unions of chambers, in plain words. -/
import Derived.Test.YtjibdolhipddbaaQu
namespace Go.Proofs.Ytjibdolhipddbaa
open Go.RowKit

theorem i64_small (n : Nat) (h : n < 9223372036854775808) : IntKind.i64.wrap (n : Int) = (n : Int) := by
  exact IntWalk.i64_in _ ⟨by omega, by omega⟩
theorem ofInt64 (a : Nat) (ha : a < 18446744073709551616) : (BitVec.ofInt 64 (a : Int)).toNat = a := by
  rw [BitVec.ofInt_natCast, BitVec.toNat_ofNat]; exact Nat.mod_eq_of_lt (by omega)
theorem i64_or_nat (a b : Nat) (ha : a < 68719476736) (hb : b < 68719476736) : bits .or .i64 (a : Int) (b : Int) = ((a ||| b : Nat) : Int) := by
  have hx : a ||| b < 2 ^ 36 := Nat.or_lt_two_pow (by omega) (by omega)
  show IntKind.i64.wrap ((BitVec.ofInt 64 (a : Int) ||| BitVec.ofInt 64 (b : Int)).toNat : Int) = _
  rw [BitVec.toNat_or, ofInt64 a (by omega), ofInt64 b (by omega), i64_small _ (by omega)]
theorem i64_andNot_nat (a b : Nat) (ha : a < 68719476736) (hb : b < 68719476736) : bits .andNot .i64 (a : Int) (b : Int) = ((a &&& (18446744073709551615 - b) : Nat) : Int) := by
  have hx : a &&& (18446744073709551615 - b) ≤ a := Nat.and_le_left
  show IntKind.i64.wrap ((BitVec.ofInt 64 (a : Int) &&& ~~~BitVec.ofInt 64 (b : Int)).toNat : Int) = _
  rw [BitVec.toNat_and, BitVec.toNat_not, ofInt64 a (by omega), ofInt64 b (by omega)]
  have e : 2 ^ 64 - 1 - b = 18446744073709551615 - b := by omega
  rw [e, i64_small _ (by omega)]

/-- One set is a part of another one. -/
def subB (a b : Nat) : Bool := (a &&& b) == a
theorem subB_iff {a b : Nat} : subB a b = true ↔ ∀ i, a.testBit i = true → b.testBit i = true := by
  unfold subB
  rw [beq_iff_eq]
  constructor
  · intro h i hi
    rw [← h, Nat.testBit_and, Bool.and_eq_true] at hi
    exact hi.2
  · intro h
    refine Nat.eq_of_testBit_eq fun i => ?_
    rw [Nat.testBit_and]
    cases e : a.testBit i
    · rfl
    · rw [h i e]; rfl
theorem subB_le {a b : Nat} (h : subB a b = true) : a ≤ b := by
  unfold subB at h
  rw [beq_iff_eq] at h
  rw [← h]; exact Nat.and_le_right
theorem subB_refl (a : Nat) : subB a a = true := subB_iff.2 fun _ h => h
theorem subB_trans {a b c : Nat} (h1 : subB a b = true) (h2 : subB b c = true) : subB a c = true := subB_iff.2 fun i h => subB_iff.1 h2 i (subB_iff.1 h1 i h)
theorem subB_or {a b c d : Nat} (h1 : subB a c = true) (h2 : subB b d = true) : subB (a ||| b) (c ||| d) = true := by
  rw [subB_iff]
  intro i h
  rw [Nat.testBit_or, Bool.or_eq_true] at h ⊢
  rcases h with h | h
  · exact .inl (subB_iff.1 h1 i h)
  · exact .inr (subB_iff.1 h2 i h)
theorem as_S36 {a : Nat} (ha : a < 68719476736) : a = S36 a.testBit := S36_of fun i => by
  by_cases h : i < 36
  · simp [h]
  · rw [decide_eq_false h, Bool.false_and]
    exact Nat.testBit_lt_two_pow (Nat.lt_of_lt_of_le (show a < 2 ^ 36 by omega) (Nat.pow_le_pow_right (by omega) (by omega)))
theorem andNot_zero {a b : Nat} (ha : a < 68719476736) (hb : b < 68719476736) : (bits .andNot .i64 (a : Int) (b : Int) == 0) = subB a b := by
  rw [i64_andNot_nat a b ha hb]
  have h : a &&& (18446744073709551615 - b) = S36 fun i => a.testBit i && !b.testBit i := by
    rw [← S36_not, ← as_S36 ha, ← as_S36 hb]
  rw [h, Bool.eq_iff_iff, beq_iff_eq, subB_iff]
  constructor
  · intro h0 i hi
    have h0 : S36 (fun i => a.testBit i && !b.testBit i) = 0 := by omega
    by_cases hi36 : i < 36
    · have := S36_eq_zero.1 h0 i hi36
      simp only [hi, Bool.true_and, Bool.not_eq_false'] at this
      exact this
    · rw [Nat.testBit_lt_two_pow (Nat.lt_of_lt_of_le (show a < 2 ^ 36 by omega) (Nat.pow_le_pow_right (by omega) (by omega)))] at hi
      cases hi
  · intro h0
    have : S36 (fun i => a.testBit i && !b.testBit i) = 0 := S36_eq_zero.2 fun i _ => by
      cases e : a.testBit i
      · rfl
      · rw [h0 i e]; rfl
    omega

def ntN (l : List Nat) (i : Nat) : Nat := l.getD i 0
theorem ntN_mem {l : List Nat} {i : Nat} (h : i < l.length) : ntN l i ∈ l := by
  unfold ntN; rw [List.getD_eq_getElem?_getD, List.getElem?_eq_getElem h]; exact List.getElem_mem h
theorem mem_ntN {l : List Nat} {x : Nat} (h : x ∈ l) : ∃ i, i < l.length ∧ ntN l i = x := by
  obtain ⟨i, hi, e⟩ := List.getElem_of_mem h
  exact ⟨i, hi, by rw [← e]; simp [ntN, List.getD_eq_getElem?_getD, hi]⟩
/-- What keeps the set i out of the maximal ones. -/
def Out (l : List Nat) (i k : Nat) : Prop := subB (ntN l i) (ntN l k) = true ∧ (ntN l i ≠ ntN l k ∨ k < i)
instance (l : List Nat) (i k : Nat) : Decidable (Out l i k) := inferInstanceAs (Decidable (_ ∧ _))
def OutTo (l : List Nat) (i n : Nat) : Prop := ∃ k, k < n ∧ Out l i k
instance (l : List Nat) (i n : Nat) : Decidable (OutTo l i n) := inferInstanceAs (Decidable (∃ k, k < n ∧ Out l i k))
def mxTo (l : List Nat) : Nat → List Nat
  | 0 => []
  | i + 1 => if OutTo l i l.length then mxTo l i else mxTo l i ++ [ntN l i]
def mxS (l : List Nat) : List Nat := mxTo l l.length
theorem mxTo_len (l : List Nat) : ∀ n, (mxTo l n).length ≤ n
  | 0 => Nat.le_refl _
  | n + 1 => by
    have := mxTo_len l n
    rw [mxTo]; split
    · omega
    · rw [List.length_append, List.length_singleton]; omega
theorem mxTo_mem (l : List Nat) : ∀ n, n ≤ l.length → ∀ x ∈ mxTo l n, x ∈ l
  | 0, _, x, h => by simp [mxTo] at h
  | n + 1, hn, x, h => by
    rw [mxTo] at h
    split at h
    · exact mxTo_mem l n (by omega) x h
    · rcases List.mem_append.1 h with h | h
      · exact mxTo_mem l n (by omega) x h
      · rw [List.mem_singleton.1 h]; exact ntN_mem (by omega)
theorem mxTo_has (l : List Nat) : ∀ n i, i < n → ¬ OutTo l i l.length → ntN l i ∈ mxTo l n
  | 0, i, h, _ => by omega
  | n + 1, i, h, ho => by
    rw [mxTo]
    by_cases e : i = n
    · subst e; rw [if_neg ho]; simp
    · have := mxTo_has l n i (by omega) ho
      split
      · exact this
      · exact List.mem_append_left _ this
theorem mx_above (l : List Nat) (hl : ∀ x ∈ l, x < 68719476736) : ∀ m i, i < l.length → 68719476736 - ntN l i ≤ m → ∃ t ∈ mxS l, subB (ntN l i) t = true := by
  intro m
  induction m with
  | zero =>
    intro i hi h
    have := hl _ (ntN_mem hi)
    omega
  | succ m ih =>
    intro i hi h
    -- the first place of the same set
    have key : ∀ n i, i ≤ n → i < l.length → ∃ i0, i0 < l.length ∧ ntN l i0 = ntN l i ∧ ∀ k, k < i0 → ntN l k ≠ ntN l i := by
      intro n
      induction n with
      | zero => intro i h1 h2; exact ⟨i, h2, rfl, fun k hk => by omega⟩
      | succ n ihn =>
        intro i h1 h2
        by_cases e : ∃ k, k < i ∧ ntN l k = ntN l i
        · obtain ⟨k, hk, e⟩ := e
          obtain ⟨i0, q1, q2, q3⟩ := ihn k (by omega) (by omega)
          exact ⟨i0, q1, q2.trans e, fun t ht => by rw [← e]; exact q3 t ht⟩
        · exact ⟨i, h2, rfl, fun k hk he => e ⟨k, hk, he⟩⟩
    obtain ⟨i0, q1, q2, q3⟩ := key i i (Nat.le_refl _) hi
    by_cases ho : OutTo l i0 l.length
    · obtain ⟨k, hk, h1, h2⟩ := ho
      have hne : ntN l i0 ≠ ntN l k := by
        rcases h2 with h2 | h2
        · exact h2
        · intro e; exact q3 k h2 (by rw [← e]; exact q2)
      have hle := subB_le h1
      have hlk := hl _ (ntN_mem hk)
      obtain ⟨t, ht, hs⟩ := ih k hk (by rw [q2] at hne hle; omega)
      exact ⟨t, ht, by rw [← q2]; exact subB_trans h1 hs⟩
    · exact ⟨ntN l i0, mxTo_has l l.length i0 q1 ho, by rw [q2]; exact subB_refl _⟩
theorem mx_sub {l : List Nat} (hl : ∀ x ∈ l, x < 68719476736) {s : Nat} (hs : s ∈ l) : ∃ t ∈ mxS l, subB s t = true := by
  obtain ⟨i, hi, rfl⟩ := mem_ntN hs
  exact mx_above l hl _ i hi (Nat.le_refl _)
theorem mx_mem {l : List Nat} {s : Nat} (h : s ∈ mxS l) : s ∈ l := mxTo_mem l l.length (Nat.le_refl _) s h

/-- The depths that a chamber gives the keys: each key has a depth that an earlier one has, or the next new one. -/
def lvs (d : Nat) : Nat → List Int → Nat → List (List Int)
  | 0, pre, _ => [pre]
  | n + 1, pre, used => (List.range (min (used + 1) d)).flatMap fun x => lvs d n (pre ++ [((x + 1 : Nat) : Int)]) (max used (x + 1))
def lvsGood (k d : Nat) : Bool := (cls d k).all fun y => (lvs d k [] 0).contains (y.take k)
def lvsFine (k d : Nat) : Bool := decide ((lvs d k [] 0).length ≤ 187) && (lvs d k [] 0).all fun y => decide (y.length = k) && (List.range k).all fun i => decide (1 ≤ nth y i) && decide (nth y i ≤ (d : Int))
set_option maxRecDepth 100000 in
theorem lvs_good : (List.range 7).all (fun k => (List.range 4).all fun d => lvsGood k (d + 1)) = true := by decide +kernel
set_option maxRecDepth 100000 in
theorem lvs_fine : (List.range 7).all (fun k => (List.range 4).all fun d => lvsFine k (d + 1)) = true := by decide +kernel
theorem lvs_has {k d : Nat} (hk : k ≤ 6) (hd : 1 ≤ d) (hd4 : d ≤ 4) {y : List Int} (hy : y ∈ cls d k) : y.take k ∈ lvs d k [] 0 := by
  have h := all_two lvs_good (k := k) (by omega) hd hd4
  rw [lvsGood, List.all_eq_true] at h
  exact List.contains_iff_mem.1 (h y hy)
theorem lvs_at {k d : Nat} (hk : k ≤ 6) (hd : 1 ≤ d) (hd4 : d ≤ 4) : (lvs d k [] 0).length ≤ 187 ∧ ∀ y ∈ lvs d k [] 0, y.length = k ∧ ∀ i, i < k → 1 ≤ nth y i ∧ nth y i ≤ d := by
  have h := all_two lvs_fine (k := k) (by omega) hd hd4
  rw [lvsFine] at h
  simp only [Bool.and_eq_true, decide_eq_true_eq, List.all_eq_true, List.mem_range] at h
  exact h
theorem lvs_len (d : Nat) (hd4 : d ≤ 4) : ∀ n pre used, (lvs d n pre used).length ≤ 4 ^ n
  | 0, _, _ => by simp [lvs]
  | n + 1, pre, used => by
    rw [lvs, List.length_flatMap]
    have : ∀ m, m ≤ 4 → ((List.range m).map fun x => (lvs d n (pre ++ [((x + 1 : Nat) : Int)]) (max used (x + 1))).length).sum ≤ m * 4 ^ n := by
      intro m hm
      induction m with
      | zero => simp
      | succ m ih =>
        rw [List.range_succ, List.map_append, List.sum_append, Nat.add_mul]
        have h1 := ih (by omega)
        have h2 := lvs_len d hd4 n (pre ++ [((m + 1 : Nat) : Int)]) (max used (m + 1))
        simp only [List.map_cons, List.map_nil, List.sum_cons, List.sum_nil]
        omega
    have h1 := this (min (used + 1) d) (by omega)
    rw [Nat.pow_succ]
    have : min (used + 1) d * 4 ^ n ≤ 4 * 4 ^ n := Nat.mul_le_mul_right _ (by omega)
    omega

section
variable (a : List (List Int)) (d : Nat)
def glF : Nat → Bool := fbF a.length (row a 0).length (mt a)
def blF (y : List Int) (n : Nat) : Bool := glF a n && stF a.length (row a 0).length (mt a) (nth y) n
def glN : Nat := S36 (glF a)
def blN (y : List Int) : Nat := S36 (blF a y)
/-- What the chambers can block. -/
def chN : List Nat := (lvs d a.length [] 0).map (blN a)
/-- The union of some c of them. -/
def InU : Nat → Nat → Prop
  | 0, s => s = 0
  | c + 1, s => ∃ s' t, InU c s' ∧ t ∈ chN a d ∧ s = s' ||| t
end
theorem blN_lt (a : List (List Int)) (y : List Int) : blN a y < 68719476736 := S36_lt _
theorem glN_lt (a : List (List Int)) : glN a < 68719476736 := S36_lt _
theorem blN_sub (a : List (List Int)) (y : List Int) : subB (blN a y) (glN a) = true := by
  rw [subB_iff]
  intro i h
  unfold blN at h
  unfold glN
  rw [S36_bit] at h ⊢
  unfold blF at h
  simp only [Bool.and_eq_true] at h ⊢
  exact ⟨h.1, h.2.1⟩
theorem chN_at {a : List (List Int)} {d s : Nat} (h : s ∈ chN a d) : s < 68719476736 ∧ subB s (glN a) = true := by
  obtain ⟨y, _, rfl⟩ := List.mem_map.1 h
  exact ⟨blN_lt a y, blN_sub a y⟩
theorem inU_at {a : List (List Int)} {d : Nat} : ∀ c s, InU a d c s → s < 68719476736 ∧ subB s (glN a) = true
  | 0, s, h => by have h : s = 0 := h; subst h; exact ⟨by omega, subB_iff.2 fun i h => by simp at h⟩
  | c + 1, s, ⟨s', t, h1, h2, e⟩ => by
    obtain ⟨q1, q2⟩ := inU_at c s' h1
    obtain ⟨q3, q4⟩ := chN_at h2
    subst e
    refine ⟨?_, ?_⟩
    · have : s' ||| t < 2 ^ 36 := Nat.or_lt_two_pow (by omega) (by omega)
      omega
    · rw [subB_iff]
      intro i h
      rw [Nat.testBit_or, Bool.or_eq_true] at h
      rcases h with h | h
      · exact subB_iff.1 q2 i h
      · exact subB_iff.1 q4 i h

/-- Some c chambers block all that must be blocked exactly if there are correct cuts. -/
theorem inU_iff {a : List (List Int)} (ha : IsPlan a) {d : Nat} (hd : 1 ≤ d ∧ d ≤ 4) (c : Nat) : InU a d c (glN a) ↔ PosA a d c := by
  have h6 := ha.le
  have hl6 := ha.le0
  have hU : ∀ c s, InU a d c s ↔ ∃ ys : Nat → List Int, (∀ q, q < c → ys q ∈ lvs d a.length [] 0) ∧ ∀ i, s.testBit i = true ↔ ∃ q, q < c ∧ (blN a (ys q)).testBit i = true := by
    intro c
    induction c with
    | zero =>
      intro s
      constructor
      · intro h
        have h : s = 0 := h
        subst h
        exact ⟨fun _ => [], fun q hq => by omega, fun i => ⟨fun h => by simp at h, fun ⟨q, hq, _⟩ => by omega⟩⟩
      · rintro ⟨ys, _, h⟩
        show s = 0
        refine Nat.eq_of_testBit_eq fun i => ?_
        cases e : s.testBit i
        · simp
        · obtain ⟨q, hq, _⟩ := (h i).1 e; omega
    | succ c ih =>
      intro s
      constructor
      · rintro ⟨s', t, h1, h2, e⟩
        obtain ⟨ys, k1, k2⟩ := (ih s').1 h1
        obtain ⟨y, hy, rfl⟩ := List.mem_map.1 h2
        refine ⟨fun q => if q = c then y else ys q, fun q hq => ?_, fun i => ?_⟩
        · by_cases e2 : q = c
          · simp only [e2, if_true]; exact hy
          · simp only [e2, if_false]; exact k1 q (by omega)
        · rw [e, Nat.testBit_or, Bool.or_eq_true, k2 i]
          constructor
          · rintro (⟨q, hq, h⟩ | h)
            · exact ⟨q, by omega, by dsimp only; rw [if_neg (by omega)]; exact h⟩
            · exact ⟨c, by omega, by dsimp only; rw [if_pos rfl]; exact h⟩
          · rintro ⟨q, hq, h⟩
            dsimp only at h
            by_cases e2 : q = c
            · rw [if_pos e2] at h; exact .inr h
            · rw [if_neg e2] at h; exact .inl ⟨q, by omega, h⟩
      · rintro ⟨ys, k1, k2⟩
        have hb : ∃ s' : Nat, ∀ i, s'.testBit i = true ↔ ∃ q, q < c ∧ (blN a (ys q)).testBit i = true := by
          have : ∀ c, ∃ s' : Nat, ∀ i, s'.testBit i = true ↔ ∃ q, q < c ∧ (blN a (ys q)).testBit i = true := by
            intro c
            induction c with
            | zero => exact ⟨0, fun i => ⟨fun h => by simp at h, fun ⟨q, hq, _⟩ => by omega⟩⟩
            | succ c ihc =>
              obtain ⟨s', hs⟩ := ihc
              refine ⟨s' ||| blN a (ys c), fun i => ?_⟩
              rw [Nat.testBit_or, Bool.or_eq_true, hs i]
              constructor
              · rintro (⟨q, hq, h⟩ | h)
                · exact ⟨q, by omega, h⟩
                · exact ⟨c, by omega, h⟩
              · rintro ⟨q, hq, h⟩
                by_cases e2 : q = c
                · subst e2; exact .inr h
                · exact .inl ⟨q, by omega, h⟩
          exact this c
        obtain ⟨s', hs'⟩ := hb
        refine ⟨s', blN a (ys c), (ih s').2 ⟨ys, fun q hq => k1 q (by omega), hs'⟩, List.mem_map.2 ⟨_, k1 c (by omega), rfl⟩, ?_⟩
        refine Nat.eq_of_testBit_eq fun i => ?_
        rw [Bool.eq_iff_iff, k2 i, Nat.testBit_or, Bool.or_eq_true, hs' i]
        constructor
        · rintro ⟨q, hq, h⟩
          by_cases e2 : q = c
          · subst e2; exact .inr h
          · exact .inl ⟨q, by omega, h⟩
        · rintro (⟨q, hq, h⟩ | h)
          · exact ⟨q, by omega, h⟩
          · exact ⟨c, by omega, h⟩
  rw [hU]
  obtain ⟨-, hlv⟩ := lvs_at h6 hd.1 hd.2
  unfold PosA Pos
  constructor
  · rintro ⟨ys, h1, h2⟩
    refine ⟨fun q i => nth (ys q) i, fun q hq i hi => (hlv _ (h1 q hq)).2 i hi, fun i hi j hj hf => ?_⟩
    have hg : (glN a).testBit (6 * i + j) = true := by
      unfold glN glF fbF
      rw [S36_bit, decide_eq_true (show 6 * i + j < 36 by omega), show (6 * i + j) / 6 = i by omega, show (6 * i + j) % 6 = j by omega, decide_eq_true hi, decide_eq_true hj, hf]; rfl
    obtain ⟨q, hq, h⟩ := (h2 _).1 hg
    refine ⟨q, hq, ?_⟩
    unfold blN blF at h
    rw [S36_bit] at h
    simp only [Bool.and_eq_true] at h
    exact (stF_at hi hj hl6).1 h.2.2
  · rintro ⟨Z, h1, h2⟩
    have hz : ∀ q, ∃ y : List Int, q < c → y ∈ lvs d a.length [] 0 ∧ ∀ i, i < a.length → ∀ j, j < a.length → (nth y i = nth y j ↔ Z q i = Z q j) := fun q => by
      by_cases hq : q < c
      · obtain ⟨y, hy, hs⟩ := same_kernel hd.1 hd.2 (Z q) a.length h6 (h1 q hq)
        exact ⟨y.take a.length, fun _ => ⟨lvs_has h6 hd.1 hd.2 hy, fun i hi j hj => by
          have ht : ∀ t, t < a.length → nth (y.take a.length) t = nth y t := fun t ht => by
            unfold nth; rw [List.getD_eq_getElem?_getD, List.getD_eq_getElem?_getD, List.getElem?_take, if_pos ht]
          rw [ht i hi, ht j hj]; exact hs i hi j hj⟩⟩
      · exact ⟨[], fun h => absurd h hq⟩
    obtain ⟨ys, hys⟩ := Classical.axiomOfChoice hz
    refine ⟨ys, fun q hq => (hys q hq).1, fun p => ?_⟩
    constructor
    · intro hp
      unfold glN at hp
      rw [S36_bit] at hp
      simp only [Bool.and_eq_true, decide_eq_true_eq] at hp
      obtain ⟨hp36, hg⟩ := hp
      have hg' := hg
      unfold glF fbF at hg
      simp only [Bool.and_eq_true, decide_eq_true_eq, Bool.not_eq_true'] at hg
      obtain ⟨⟨g1, g2⟩, g3⟩ := hg
      have hp6 : 6 * (p / 6) + p % 6 = p := by omega
      obtain ⟨q, hq, hs⟩ := h2 (p / 6) g1 (p % 6) g2 (by rw [hp6]; exact g3)
      refine ⟨q, hq, ?_⟩
      unfold blN blF
      rw [S36_bit, decide_eq_true hp36, hg', Bool.true_and, Bool.true_and]
      rw [← hp6, stF_at g1 g2 hl6]
      intro o ho hf e
      exact hs o ho hf (((hys q hq).2 o ho _ g1).1 e)
    · rintro ⟨q, hq, h⟩
      exact subB_iff.1 (blN_sub a (ys q)) p h

end Go.Proofs.Ytjibdolhipddbaa
