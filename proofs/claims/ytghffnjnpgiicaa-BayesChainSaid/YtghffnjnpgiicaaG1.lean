/- G1: M A W B C -/
import Derived.WalkKit
import Derived.WalkSpells
import Derived.Deep.OwnRows
import Derived.Lib.Hide
import Derived.Test.YtghffnjnpgiicaaRows
import Derived.WalkLawsBesides
import Derived.Deep.LoopGhost
import Derived.Deep.QuietTactic
import Derived.BigQuiet
/- How lists of numbers and networks lie in memory; plain words on lists. -/
namespace Go.Proofs.Ytghffnjnpgiicaa
open Go.RowKit

/-- The number at a place of a list (0 behind its end). -/
def nth (xs : List Int) (i : Nat) : Int := xs.getD i 0
/-- The row at a place of a list of rows. -/
def row (xs : List (List Int)) (i : Nat) : List Int := xs.getD i []

theorem nth_cons_zero (x : Int) (xs : List Int) : nth (x :: xs) 0 = x := rfl
theorem nth_cons_succ (x : Int) (xs : List Int) (i : Nat) : nth (x :: xs) (i + 1) = nth xs i := rfl
theorem nth_mem {xs : List Int} {i : Nat} (h : i < xs.length) : nth xs i ∈ xs := by
  unfold nth; simp [List.getD_eq_getElem?_getD, h]
theorem nth_out {xs : List Int} {i : Nat} (h : xs.length ≤ i) : nth xs i = 0 := by
  unfold nth; simp [List.getD_eq_getElem?_getD, h]

/-- The cells of a slice of ints. -/
structure IntsAt (w : World) (ao : Option Addr) (b o : Nat) (xs : List Int) : Prop where
  ptr : 0 < xs.length → ao = some ⟨b, o, none⟩ ∧ b < w.heap.size
  cell : ∀ i, i < xs.length → w.cell? ⟨b, o + i, none⟩ = some (.int .i64 (nth xs i))
  len : xs.length ≤ 140737488351232
  wf : ∀ i, -9223372036854775808 ≤ nth xs i ∧ nth xs i ≤ 9223372036854775807

theorem IntsAt.below {B : Nat} {w w' : World} {ao : Option Addr} {b o : Nat} {xs : List Int} (h : IntsAt w ao b o xs) (hb : Below B w w') (hB : w.heap.size ≤ B) : IntsAt w' ao b o xs := by
  refine ⟨fun hp => ⟨(h.ptr hp).1, Nat.lt_of_lt_of_le (h.ptr hp).2 hb.size⟩, fun i hi => ?_, h.len, h.wf⟩
  have hlt := (h.ptr (by omega)).2
  rw [hb.cell (p := ⟨b, o + i, none⟩) (by show b < B; omega)]
  exact h.cell i hi

theorem IntsAt.nil (w : World) (ao : Option Addr) (b o : Nat) : IntsAt w ao b o [] :=
  ⟨fun h => absurd h (by simp), fun i hi => absurd hi (by simp), by simp, fun i => by simp [nth]⟩

/-- The cells of a slice of slices of ints. -/
structure RowsAt (w : World) (ao : Option Addr) (b o : Nat) (xs : List (List Int)) (A : Nat → Option Addr) (B O C : Nat → Nat) : Prop where
  ptr : 0 < xs.length → ao = some ⟨b, o, none⟩ ∧ b < w.heap.size
  cell : ∀ i, i < xs.length → w.cell? ⟨b, o + i, none⟩ = some (.slice (A i) (row xs i).length (C i))
  rows : ∀ i, i < xs.length → IntsAt w (A i) (B i) (O i) (row xs i)
  len : xs.length ≤ 140737488351232

theorem RowsAt.below {N : Nat} {w w' : World} {ao : Option Addr} {b o : Nat} {xs : List (List Int)} {A : Nat → Option Addr} {B O C : Nat → Nat} (h : RowsAt w ao b o xs A B O C) (hb : Below N w w') (hB : w.heap.size ≤ N) : RowsAt w' ao b o xs A B O C := by
  refine ⟨fun hp => ⟨(h.ptr hp).1, Nat.lt_of_lt_of_le (h.ptr hp).2 hb.size⟩, fun i hi => ?_, fun i hi => (h.rows i hi).below hb hB, h.len⟩
  have hlt := (h.ptr (by omega)).2
  rw [hb.cell (p := ⟨b, o + i, none⟩) (by show b < N; omega)]
  exact h.cell i hi

theorem IntsAt.alloc {w : World} {ao : Option Addr} {b o : Nat} {xs : List Int} (h : IntsAt w ao b o xs) (x : Obj) : IntsAt (w.alloc x) ao b o xs :=
  h.below ((Below.refl _ _).alloc (Nat.le_refl _) x) (Nat.le_refl _)
theorem RowsAt.alloc {w : World} {ao : Option Addr} {b o : Nat} {xs : List (List Int)} {A : Nat → Option Addr} {B O C : Nat → Nat} (h : RowsAt w ao b o xs A B O C) (x : Obj) : RowsAt (w.alloc x) ao b o xs A B O C :=
  h.below ((Below.refl _ _).alloc (Nat.le_refl _) x) (Nat.le_refl _)

/-- A network lies in the world. -/
structure NetAt (w : World) (v : Value) (P T : List (List Int)) : Prop where
  ex : ∃ pa pb po pc A B O C ta tb to tc A' B' O' C', v = .agg #[.slice pa P.length pc, .slice ta T.length tc] ∧ RowsAt w pa pb po P A B O C ∧ RowsAt w ta tb to T A' B' O' C'

theorem NetAt.below {N : Nat} {w w' : World} {v : Value} {P T : List (List Int)} (h : NetAt w v P T) (hb : Below N w w') (hB : w.heap.size ≤ N) : NetAt w' v P T := by
  obtain ⟨pa, pb, po, pc, A, B, O, C, ta, tb, to, tc, A', B', O', C', h1, h2, h3⟩ := h.ex
  exact ⟨⟨pa, pb, po, pc, A, B, O, C, ta, tb, to, tc, A', B', O', C', h1, h2.below hb hB, h3.below hb hB⟩⟩
theorem NetAt.alloc {w : World} {v : Value} {P T : List (List Int)} (h : NetAt w v P T) (x : Obj) : NetAt (w.alloc x) v P T :=
  h.below ((Below.refl _ _).alloc (Nat.le_refl _) x) (Nat.le_refl _)

/-- A struct of two cells that has been boxed. -/
theorem box2 {w W : World} {a b : Value} {T : TypeId} (h : Below (w.heap.size + 1) (w.alloc (.cells #[a, b] T)) W) :
    W.cell? ⟨w.heap.size, 0, none⟩ = some a ∧ W.cell? ⟨w.heap.size, 1, none⟩ = some b := by
  have h0 := h.cell (p := ⟨w.heap.size, 0, none⟩) (by show w.heap.size < w.heap.size + 1; omega)
  have h1 := h.cell (p := ⟨w.heap.size, 1, none⟩) (by show w.heap.size < w.heap.size + 1; omega)
  rw [h0, h1]
  exact ⟨by simp, by simp⟩

/-- A struct of two cells that is stored whole. -/
theorem set2_cells {w : World} {N : Nat} {x y x0 y0 : Value} (h0 : w.cell? ⟨N, 0, none⟩ = some x0) (h1 : w.cell? ⟨N, 1, none⟩ = some y0) :
    (w.setCell ⟨N, 0, none⟩ x).cell? ⟨N, 0, none⟩ = some x ∧ ((w.setCell ⟨N, 0, none⟩ x).setCell ⟨N, 1, none⟩ y).cell? ⟨N, 1, none⟩ = some y := by
  refine ⟨World.cell?_setCell_same _ _ _ h0, World.cell?_setCell_same _ _ _ (u := y0) ?_⟩
  rw [World.cell?_setCell_other _ _ _ _ (by simp)]; exact h1

theorem gcd_step (m n : Int) (hm : 0 ≤ m) (hn : 0 ≤ n) : Int.gcd n (m % n) = Int.gcd m n := by
  obtain ⟨m, rfl⟩ := Int.eq_ofNat_of_zero_le hm
  obtain ⟨n, rfl⟩ := Int.eq_ofNat_of_zero_le hn
  rw [← Int.natCast_emod]
  show Nat.gcd n (m % n) = Nat.gcd m n
  rw [Nat.gcd_comm m n, Nat.gcd_rec n m, Nat.gcd_comm]

end Go.Proofs.Ytghffnjnpgiicaa

/- Small functions. -/
namespace Go.Proofs.Ytghffnjnpgiicaa
open Go.RowKit

def isVar (v c : Int) : Bool := decide (0 ≤ v ∧ v < c)
def isVal (v : Int) : Bool := decide (v = 0 ∨ v = 1)

set_option maxHeartbeats 400000 in
theorem isVariable_any (v c : Int) (w : World) :
    Calls Try.prog 58 #[.int .i64 v, .int .i64 c] w fun e w' => e = .returned (.bool (isVar v c)) ∧ w = w' := by
  by_cases h : 0 ≤ v
  · by_cases h2 : v < c
    · go_enter Try.func58, Try.ntmps58
      go_wp2
      go_ret
      exact ⟨by simp [isVar, h, h2], rfl⟩
    · go_enter Try.func58, Try.ntmps58
      go_wp2
      go_ret
      exact ⟨by simp [isVar, h]; omega, rfl⟩
  · go_enter Try.func58, Try.ntmps58
    go_wp2
    go_ret
    exact ⟨by simp [isVar]; omega, rfl⟩

set_option maxHeartbeats 400000 in
theorem isValue_any (v : Int) (w : World) :
    Calls Try.prog 66 #[.int .i64 v] w fun e w' => e = .returned (.bool (isVal v)) ∧ w = w' := by
  by_cases h : v = 0
  · subst h
    go_enter Try.func66, Try.ntmps66
    go_wp2
    go_ret
    exact ⟨by simp [isVal], rfl⟩
  · by_cases h2 : v = 1
    · subst h2
      go_enter Try.func66, Try.ntmps66
      go_wp2
      go_ret
      exact ⟨by simp [isVal], rfl⟩
    · go_enter Try.func66, Try.ntmps66
      go_wp2
      go_ret
      exact ⟨by simp [isVal, h, h2], rfl⟩

set_option maxHeartbeats 400000 in
theorem refGcd_any (a b : Int) (w : World) (ha : 0 ≤ a) (hb : 0 ≤ b) (ha2 : a ≤ 9223372036854775807) (hb2 : b ≤ 9223372036854775807) :
    Calls Try.prog 68 #[.int .i64 a, .int .i64 b] w fun e w' => e = .returned (.int .i64 (Int.gcd a b)) ∧ w = w' := by
  go_enter Try.func68, Try.ntmps68
  go_wp2
  go_loop [0, 1, 5] (fun x y _ => ∃ m n : Int, x = .int .i64 m ∧ y = .int .i64 n ∧ 0 ≤ m ∧ 0 ≤ n ∧ m ≤ 9223372036854775807 ∧ n ≤ 9223372036854775807 ∧ Int.gcd m n = Int.gcd a b) (fun _ y _ => (intOf y).toNat)
  case atStart => exact ⟨a, b, rfl, rfl, ha, hb, ha2, hb2, rfl⟩
  case round =>
    obtain ⟨m, n, rfl, rfl, hm, hn, hm2, hn2, hg⟩ := hrel
    have H := Lib.hid hg
    clear hg
    by_cases h : 0 < n
    · have hmod := Int.emod_nonneg m (show n ≠ 0 by omega)
      have hlt := Int.emod_lt_of_pos m h
      go_wp2
      go_round
      case rel => exact ⟨n, m % n, rfl, rfl, hn, hmod, hn2, by omega, by rw [← H.out]; exact gcd_step m n hm hn⟩
      case measure => simp [intOf]; omega
    · have h0 : n = 0 := by omega
      subst h0
      go_wp2
      go_ret
      exact ⟨by rw [← H.out]; simp; omega, rfl⟩

end Go.Proofs.Ytghffnjnpgiicaa

/- Weights of assignments: plain numbers. -/
namespace Go.Proofs.Ytghffnjnpgiicaa
open Go.RowKit

/-- The list is one of parents of the variable v. -/
def OkPar (xs : List Int) (v : Int) : Prop :=
  xs.length ≤ 3 ∧ (∀ j, j < xs.length → 0 ≤ nth xs j ∧ nth xs j < v) ∧ (∀ j, j < xs.length → 0 < j → nth xs (j - 1) < nth xs j)
def OkTab (t : List Int) (n : Nat) : Prop := t.length = 2 ^ n ∧ ∀ j, j < t.length → 0 ≤ nth t j ∧ nth t j ≤ 16
instance (xs : List Int) (v : Int) : Decidable (OkPar xs v) := by unfold OkPar; infer_instance
instance (t : List Int) (n : Nat) : Decidable (OkTab t n) := by unfold OkTab; infer_instance
def okPar (xs : List Int) (v : Int) : Bool := decide (OkPar xs v)
def okTab (t : List Int) (n : Nat) : Bool := decide (OkTab t n)

/-- The lists are a network's. -/
structure IsNet (P T : List (List Int)) : Prop where
  pos : 1 ≤ P.length
  le : P.length ≤ 10
  tab : T.length = P.length
  par : ∀ v, v < P.length → OkPar (row P v) v
  ok : ∀ v, v < P.length → OkTab (row T v) (row P v).length

instance (P T : List (List Int)) : Decidable (IsNet P T) :=
  decidable_of_iff (1 ≤ P.length ∧ P.length ≤ 10 ∧ T.length = P.length ∧ (∀ v, v < P.length → OkPar (row P v) v) ∧ (∀ v, v < P.length → OkTab (row T v) (row P v).length))
    ⟨fun ⟨a, b, c, d, e⟩ => ⟨a, b, c, d, e⟩, fun ⟨a, b, c, d, e⟩ => ⟨a, b, c, d, e⟩⟩
def isNet (P T : List (List Int)) : Bool := decide (IsNet P T)

/-- Every value is 0 or 1. -/
def Bits (a : Nat → Int) : Prop := ∀ v, a v = 0 ∨ a v = 1

/-- The table's index by the first j parents. -/
def idx (ps : List Int) (a : Nat → Int) : Nat → Int
  | 0 => 0
  | j + 1 => idx ps a j + a (nth ps j).toNat * 2 ^ j

theorem idx_bd (ps : List Int) {a : Nat → Int} (ha : Bits a) (j : Nat) : 0 ≤ idx ps a j ∧ idx ps a j < 2 ^ j := by
  induction j with
  | zero => simp [idx]
  | succ j ih =>
    have h2 : (0 : Int) < 2 ^ j := Int.pow_pos (by omega)
    simp only [idx, Int.pow_succ]
    rcases ha (nth ps j).toNat with e | e <;> rw [e] <;> constructor <;> omega

/-- The factor of a variable. -/
def fac (P T : List (List Int)) (a : Nat → Int) (v : Nat) : Int :=
  if a v = 1 then nth (row T v) (idx (row P v) a (row P v).length).toNat else 16 - nth (row T v) (idx (row P v) a (row P v).length).toNat

/-- The weight of an assignment, of the first k variables. -/
def wt (P T : List (List Int)) (a : Nat → Int) : Nat → Int
  | 0 => 1
  | k + 1 => wt P T a k * fac P T a k

theorem pow2_int (n : Nat) : ((2 ^ n : Nat) : Int) = (2 : Int) ^ n := by simp

theorem idx_lt {P T : List (List Int)} {a : Nat → Int} (h : IsNet P T) (ha : Bits a) {v : Nat} (hv : v < P.length) :
    (idx (row P v) a (row P v).length).toNat < (row T v).length := by
  have := idx_bd (row P v) ha (row P v).length
  rw [(h.ok v hv).1]
  have e := pow2_int (row P v).length
  omega

theorem fac_bd {P T : List (List Int)} {a : Nat → Int} (h : IsNet P T) (ha : Bits a) {v : Nat} (hv : v < P.length) : 0 ≤ fac P T a v ∧ fac P T a v ≤ 16 := by
  have h1 := (h.ok v hv).2 _ (idx_lt h ha hv)
  unfold fac
  split <;> omega

theorem wt_bd {P T : List (List Int)} {a : Nat → Int} (h : IsNet P T) (ha : Bits a) (k : Nat) (hk : k ≤ P.length) : 0 ≤ wt P T a k ∧ wt P T a k ≤ 16 ^ k := by
  induction k with
  | zero => simp [wt]
  | succ k ih =>
    have ⟨i1, i2⟩ := ih (by omega)
    have ⟨f1, f2⟩ := fac_bd h ha (v := k) (by omega)
    simp only [wt, Int.pow_succ]
    exact ⟨Int.mul_nonneg i1 f1, Int.mul_le_mul i2 f2 f1 (by have := Int.pow_pos (n := 16) (m := k) (by omega); omega)⟩

theorem pow16_le {k : Nat} (h : k ≤ 10) : (16 : Int) ^ k ≤ 1099511627776 := by
  have h1 : 16 ^ k ≤ 16 ^ 10 := Nat.pow_le_pow_right (by omega) h
  have h2 : ((16 ^ k : Nat) : Int) = (16 : Int) ^ k := by simp
  omega

theorem wt_le {P T : List (List Int)} {a : Nat → Int} (h : IsNet P T) (ha : Bits a) (k : Nat) (hk : k ≤ P.length) : 0 ≤ wt P T a k ∧ wt P T a k ≤ 1099511627776 := by
  have := wt_bd h ha k hk
  have := pow16_le (k := k) (by have := h.le; omega)
  omega

/-- The same values on the network's variables: the same weight. -/
theorem idx_congr {ps : List Int} {a b : Nat → Int} {v : Nat} (hp : OkPar ps v) (h : ∀ i, i < v → a i = b i) (j : Nat) (hj : j ≤ ps.length) : idx ps a j = idx ps b j := by
  induction j with
  | zero => rfl
  | succ j ih =>
    have := hp.2.1 j (by omega)
    simp only [idx, ih (by omega)]
    rw [h (nth ps j).toNat (by omega)]

theorem wt_congr {P T : List (List Int)} {a b : Nat → Int} (hn : IsNet P T) (k : Nat) (hk : k ≤ P.length) (h : ∀ i, i < k → a i = b i) : wt P T a k = wt P T b k := by
  induction k with
  | zero => rfl
  | succ k ih =>
    simp only [wt, fac, ih (by omega) (fun i hi => h i (by omega)), h k (by omega)]
    rw [idx_congr (hn.par k (by omega)) (fun i hi => h i (by omega)) _ (Nat.le_refl _)]

end Go.Proofs.Ytghffnjnpgiicaa

/- What a network is. -/
namespace Go.Proofs.Ytghffnjnpgiicaa
open Go.RowKit

theorem ret_bool {a b : Bool} (h : a = b) : Ending.returned (.bool a) = .returned (.bool b) := by rw [h]
theorem ret_int {k : IntKind} {a b : Int} (h : a = b) : Ending.returned (.int k a) = .returned (.int k b) := by rw [h]

/-- What areParents has seen of the list when k are read: the next one must be at least this. -/
def least (xs : List Int) : Nat → Int
  | 0 => 0
  | k + 1 => nth xs k + 1

theorem least_step {xs : List Int} {k : Nat} (h : ∀ j, j < k → 0 ≤ nth xs j) (hk : least xs k ≤ nth xs k) : 0 ≤ nth xs k ∧ (0 < k → nth xs (k - 1) < nth xs k) := by
  cases k with
  | zero => exact ⟨hk, fun h => absurd h (by omega)⟩
  | succ k => have := h k (by omega); simp only [least] at hk; exact ⟨by omega, fun _ => by simp; omega⟩

theorem least_bad {xs : List Int} {k : Nat} (hk : nth xs k < least xs k) : nth xs k < 0 ∨ (0 < k ∧ nth xs k ≤ nth xs (k - 1)) := by
  cases k with
  | zero => exact .inl hk
  | succ k => simp only [least] at hk; exact .inr ⟨by omega, by simp; omega⟩

set_option maxHeartbeats 400000 in
theorem areParents_any (xs : List Int) (v : Int) (ao : Option Addr) (b o cap : Nat) (w : World) (h : IntsAt w ao b o xs) (hv : v ≤ 9223372036854775807) :
    Calls Try.prog 70 #[.slice ao xs.length cap, .int .i64 v] w fun e w' => e = .returned (.bool (okPar xs v)) ∧ w = w' := by
  have hl := h.len
  by_cases h3 : xs.length ≤ 3
  · have hc := h.cell
    have HAO := Lib.hid h.ptr
    go_enter Try.func70, Try.ntmps70
    go_wp2
    go_loop [5, 7, 13] (fun l _ i => ∃ k : Nat, k ≤ xs.length ∧ i = .int .i64 k ∧ l = .int .i64 (least xs k) ∧ (∀ j, j < k → 0 ≤ nth xs j ∧ nth xs j < v) ∧ (∀ j, j < k → 0 < j → nth xs (j - 1) < nth xs j)) (fun _ _ i => xs.length - (intOf i).toNat)
    case atStart => exact ⟨0, by omega, rfl, rfl, fun j hj => absurd hj (by omega), fun j hj => absurd hj (by omega)⟩
    case round =>
      obtain ⟨k, hk, rfl, rfl, ha, hb⟩ := hrel
      have HA := Lib.hid ha
      have HB := Lib.hid hb
      clear ha hb
      by_cases hlt : k < xs.length
      · obtain ⟨rfl, hbb⟩ := HAO.out (by omega)
        have hck := hc k hlt
        have hwf := h.wf k
        clear hc
        by_cases g1 : nth xs k < least xs k
        · have hf : okPar xs v = false := decide_eq_false (fun q => by
            rcases least_bad g1 with h1 | ⟨h1, h2⟩
            · have := (q.2.1 k hlt).1; omega
            · have := q.2.2 k hlt h1; omega)
          have HF := Lib.hid hf
          clear hf
          go_wp2
          go_ret
          exact ⟨ret_bool HF.out.symm, rfl⟩
        · by_cases g2 : v ≤ nth xs k
          · have hf : okPar xs v = false := decide_eq_false (fun q => by have := (q.2.1 k hlt).2; omega)
            have HF := Lib.hid hf
            clear hf
            go_wp2
            go_ret
            exact ⟨ret_bool HF.out.symm, rfl⟩
          · have hs := least_step (fun j hj => (HA.out j hj).1) (show least xs k ≤ nth xs k by omega)
            have HS := Lib.hid hs
            clear hs
            go_wp2
            go_round
            case rel =>
              refine ⟨k + 1, by omega, by go_num, rfl, fun j hj => ?_, fun j hj => ?_⟩
              · by_cases e : j = k
                · subst e; exact ⟨HS.out.1, by omega⟩
                · exact HA.out j (by omega)
              · by_cases e : j = k
                · subst e; exact HS.out.2
                · exact HB.out j (by omega)
            case measure => simp [intOf]; omega
      · have hf : okPar xs v = true := decide_eq_true ⟨h3, fun j hj => HA.out j (by omega), fun j hj => HB.out j (by omega)⟩
        have HF := Lib.hid hf
        clear hf
        go_wp2
        go_ret
        exact ⟨ret_bool HF.out.symm, rfl⟩
  · have hf : okPar xs v = false := decide_eq_false (fun q => h3 q.1)
    have HF := Lib.hid hf
    clear hf
    go_enter Try.func70, Try.ntmps70
    go_wp2
    go_ret
    exact ⟨ret_bool HF.out.symm, rfl⟩

theorem wrap_pow (n : Nat) (hn : n ≤ 62) : wrap64 ((2 : Int) ^ n) = ((2 ^ n : Nat) : Int) := by
  have h1 : (2 : Int) ^ n = ((2 ^ n : Nat) : Int) := by simp
  have h2 : 2 ^ n ≤ 2 ^ 62 := Nat.pow_le_pow_right (by omega) hn
  rw [h1]
  generalize (2 ^ n : Nat) = m at h2 ⊢
  exact IntWalk.wrap64_in _ ⟨by omega, by omega⟩

set_option maxHeartbeats 400000 in
theorem isTable_any (xs : List Int) (n : Nat) (ao : Option Addr) (b o cap : Nat) (w : World) (h : IntsAt w ao b o xs) (hn : n ≤ 3) :
    Calls Try.prog 71 #[.slice ao xs.length cap, .int .i64 n] w fun e w' => e = .returned (.bool (okTab xs n)) ∧ w = w' := by
  have hl := h.len
  have hp := wrap_pow n (by omega)
  by_cases hlen : xs.length = 2 ^ n
  · have hB : (((xs.length : Int)) != wrap64 (2 ^ n)) = false := by rw [hp, hlen]; simp
    have HL := Lib.hid hlen
    clear hlen hp
    have hc := h.cell
    have HAO := Lib.hid h.ptr
    go_enter Try.func71, Try.ntmps71
    go_wp2
    go_loop [6, 14] (fun _ i => ∃ k : Nat, k ≤ xs.length ∧ i = .int .i64 k ∧ (∀ j, j < k → 0 ≤ nth xs j ∧ nth xs j ≤ 16)) (fun _ i => xs.length - (intOf i).toNat)
    case atStart => exact ⟨0, by omega, rfl, fun j hj => absurd hj (by omega)⟩
    case round =>
      obtain ⟨k, hk, rfl, ha⟩ := hrel
      have HA := Lib.hid ha
      clear ha
      by_cases hlt : k < xs.length
      · obtain ⟨rfl, hbb⟩ := HAO.out (by omega)
        have hck := hc k hlt
        have hwf := h.wf k
        clear hc
        by_cases g1 : nth xs k < 0
        · have HF := Lib.hid (show okTab xs n = false from decide_eq_false (fun q => by have := (q.2 k hlt).1; omega))
          go_wp2
          go_ret
          exact ⟨ret_bool HF.out.symm, rfl⟩
        · by_cases g2 : 16 < nth xs k
          · have HF := Lib.hid (show okTab xs n = false from decide_eq_false (fun q => by have := (q.2 k hlt).2; omega))
            go_wp2
            go_ret
            exact ⟨ret_bool HF.out.symm, rfl⟩
          · go_wp2
            go_round
            case rel =>
              refine ⟨k + 1, by omega, by go_num, fun j hj => ?_⟩
              by_cases e : j = k
              · subst e; exact ⟨by omega, by omega⟩
              · exact HA.out j (by omega)
            case measure => simp [intOf]; omega
      · have HF := Lib.hid (show okTab xs n = true from decide_eq_true ⟨HL.out, fun j hj => HA.out j (by omega)⟩)
        go_wp2
        go_ret
        exact ⟨ret_bool HF.out.symm, rfl⟩
  · have hB : (((xs.length : Int)) != wrap64 (2 ^ n)) = true := by rw [hp, bne_iff_ne]; intro e; exact hlen (Int.ofNat.inj e)
    clear hp
    have HF := Lib.hid (show okTab xs n = false from decide_eq_false (fun q => hlen q.1))
    go_enter Try.func71, Try.ntmps71
    go_wp2
    go_ret
    exact ⟨ret_bool HF.out.symm, rfl⟩

set_option maxHeartbeats 1000000 in
theorem isNetwork_any (P T : List (List Int)) (v : Value) (w : World) (h : NetAt w v P T) :
    Calls Try.prog 45 #[v] w fun e w' => e = .returned (.bool (isNet P T)) ∧ Below w.heap.size w w' := by
  obtain ⟨pa, b, o, pc, A, B, O, C, ta, b', o', tc, A', B', O', C', rfl, hP, hT⟩ := h.ex
  have hlp := hP.len
  have hlt := hT.len
  clear h
  by_cases h1 : 1 ≤ P.length ∧ P.length ≤ 10
  · obtain ⟨h1, h10⟩ := h1
    by_cases he : T.length = P.length
    · have hB : (((T.length : Int)) != (P.length : Int)) = false := by rw [he]; simp
      have HE := Lib.hid he
      obtain ⟨rfl, hbb⟩ := hP.ptr (by omega)
      obtain ⟨rfl, hbb'⟩ := hT.ptr (by omega)
      have hc := hP.cell
      have hc' := hT.cell
      clear he
      go_enter Try.func45, Try.ntmps45
      go_wp2
      go_loop [4, 5, 25] (fun _ _ i => ∃ k : Nat, k ≤ P.length ∧ i = .int .i64 k ∧ (∀ j, j < k → OkPar (row P j) j ∧ OkTab (row T j) (row P j).length)) (fun _ _ i => P.length - (intOf i).toNat)
      case atStart => exact ⟨0, by omega, rfl, fun j hj => absurd hj (by omega)⟩
      case round =>
        obtain ⟨k, hk, rfl, ha⟩ := hrel
        have HA := Lib.hid ha
        clear ha
        by_cases hlk : k < P.length
        · have hlk' : k < T.length := by rw [HE.out]; exact hlk
          have hck : ∀ X, (w.alloc X).cell? ⟨b, o + k, none⟩ = some (.slice (A k) (row P k).length (C k)) := fun X => ((Below.refl _ _).alloc (Nat.le_refl _) X).cell (B := w.heap.size) (p := ⟨b, o + k, none⟩) hbb |>.trans (hc k hlk)
          have hck' : ∀ X, (w.alloc X).cell? ⟨b', o' + k, none⟩ = some (.slice (A' k) (row T k).length (C' k)) := fun X => ((Below.refl _ _).alloc (Nat.le_refl _) X).cell (B := w.heap.size) (p := ⟨b', o' + k, none⟩) hbb' |>.trans (hc' k hlk')
          clear hc hc'
          have hrP := hP.rows k hlk
          have hrT := hT.rows k hlk'
          have hlr := hrP.len
          have hlr' := hrT.len
          have HrP := Lib.hid hrP
          have HrT := Lib.hid hrT
          clear hrP hrT
          have hC1 := areParents_any (row P k) k (A k) (B k) (O k) (C k) (w.alloc (.cells #[.slice (some ⟨b, o, none⟩) P.length pc, .slice (some ⟨b', o', none⟩) T.length tc] 24)) (HrP.out.alloc _) (by omega)
          cases e1 : okPar (row P k) k
          · have HF := Lib.hid (show isNet P T = false from decide_eq_false (fun q => by have := q.par k hlk; rw [okPar, decide_eq_false_iff_not] at e1; exact e1 this))
            rw [e1] at hC1
            have HC := Lib.hid hC1
            clear hC1 e1
            go_wp2_with (go_at_call 70; refine HC.out.mono ?_; rintro e w' ⟨rfl, rfl⟩)
            go_ret
            exact ⟨ret_bool HF.out.symm, (Below.refl _ _).alloc (Nat.le_refl _) _⟩
          · rw [e1] at hC1
            have HC := Lib.hid hC1
            have he1 := of_decide_eq_true e1
            have h3 := he1.1
            have HE1 := Lib.hid he1
            have hC2 := isTable_any (row T k) (row P k).length (A' k) (B' k) (O' k) (C' k) (w.alloc (.cells #[.slice (some ⟨b, o, none⟩) P.length pc, .slice (some ⟨b', o', none⟩) T.length tc] 24)) (HrT.out.alloc _) h3
            clear hC1 e1 he1
            cases e2 : okTab (row T k) (row P k).length
            · have HF := Lib.hid (show isNet P T = false from decide_eq_false (fun q => by have := q.ok k hlk; rw [okTab, decide_eq_false_iff_not] at e2; exact e2 this))
              rw [e2] at hC2
              have HC2 := Lib.hid hC2
              clear hC2 e2
              go_wp2_with (first | (go_at_call 70; refine HC.out.mono ?_; rintro e w' ⟨rfl, rfl⟩) | (go_at_call 71; refine HC2.out.mono ?_; rintro e w' ⟨rfl, rfl⟩))
              go_ret
              exact ⟨ret_bool HF.out.symm, (Below.refl _ _).alloc (Nat.le_refl _) _⟩
            · rw [e2] at hC2
              have HC2 := Lib.hid hC2
              have HE2 := Lib.hid (of_decide_eq_true e2)
              clear hC2 e2
              go_wp2_with (first | (go_at_call 70; refine HC.out.mono ?_; rintro e w' ⟨rfl, rfl⟩) | (go_at_call 71; refine HC2.out.mono ?_; rintro e w' ⟨rfl, rfl⟩))
              go_round
              case rel =>
                refine ⟨k + 1, by omega, by go_num, fun j hj => ?_⟩
                by_cases e : j = k
                · subst e; exact ⟨HE1.out, HE2.out⟩
                · exact HA.out j (by omega)
              case measure => simp [intOf]; omega
        · have HF := Lib.hid (show isNet P T = true from decide_eq_true ⟨h1, h10, HE.out, fun j hj => (HA.out j (by omega)).1, fun j hj => (HA.out j (by omega)).2⟩)
          go_wp2
          go_ret
          exact ⟨ret_bool HF.out.symm, (Below.refl _ _).alloc (Nat.le_refl _) _⟩
    · have hB : (((T.length : Int)) != (P.length : Int)) = true := by rw [bne_iff_ne]; omega
      have HF := Lib.hid (show isNet P T = false from decide_eq_false (fun q => he q.tab))
      go_enter Try.func45, Try.ntmps45
      go_wp2
      go_ret
      exact ⟨ret_bool HF.out.symm, (Below.refl _ _).alloc (Nat.le_refl _) _⟩
  · have HF := Lib.hid (show isNet P T = false from decide_eq_false (fun q => h1 ⟨q.pos, q.le⟩))
    by_cases h1' : P.length < 1
    · go_enter Try.func45, Try.ntmps45
      go_wp2
      go_ret
      exact ⟨ret_bool HF.out.symm, (Below.refl _ _).alloc (Nat.le_refl _) _⟩
    · have h10 : 10 < P.length := by omega
      go_enter Try.func45, Try.ntmps45
      go_wp2
      go_ret
      exact ⟨ret_bool HF.out.symm, (Below.refl _ _).alloc (Nat.le_refl _) _⟩

end Go.Proofs.Ytghffnjnpgiicaa

/- What a network is: the reference. -/
namespace Go.Proofs.Ytghffnjnpgiicaa
open Go.RowKit

theorem not_par {P T : List (List Int)} {k : Nat} (hk : k < P.length) (h : ¬ OkPar (row P k) k) : isNet P T = false := decide_eq_false fun q => h (q.par k hk)
theorem not_tab {P T : List (List Int)} {k : Nat} (hk : k < P.length) (h : ¬ OkTab (row T k) (row P k).length) : isNet P T = false := decide_eq_false fun q => h (q.ok k hk)

set_option maxHeartbeats 4000000 in
set_option maxRecDepth 100000 in
theorem refNetwork_any (P T : List (List Int)) (v : Value) (w : World) (h : NetAt w v P T) :
    Calls Try.prog 18 #[v] w fun e w' => e = .returned (.bool (isNet P T)) ∧ Below w.heap.size w w' := by
  obtain ⟨pa, b, o, pc, A, B, O, C, ta, b', o', tc, A', B', O', C', rfl, hP, hT⟩ := h.ex
  have hlp := hP.len
  have hlt := hT.len
  clear h
  by_cases h1 : 1 ≤ P.length ∧ P.length ≤ 10
  · obtain ⟨h1, h10⟩ := h1
    by_cases he : T.length = P.length
    · have hB : (((T.length : Int)) != (P.length : Int)) = false := by rw [he]; simp
      have HE := Lib.hid he
      obtain ⟨rfl, hbb⟩ := hP.ptr (by omega)
      obtain ⟨rfl, hbb'⟩ := hT.ptr (by omega)
      clear he
      have HP := Lib.hid hP
      have HT := Lib.hid hT
      clear hP hT
      go_enter Try.func18, Try.ntmps18
      go_wp2
      go_loopw [4, 5, 6, 7] (fun i _ _ _ wr => ∃ k : Nat, k ≤ P.length ∧ i = .int .i64 k ∧ Below (w.heap.size + 1) (w.alloc (.cells #[.slice (some ⟨b, o, none⟩) P.length pc, .slice (some ⟨b', o', none⟩) T.length tc] 24)) wr ∧ (∀ j, j < k → OkPar (row P j) j ∧ OkTab (row T j) (row P j).length)) (fun i _ _ _ _ => P.length - (intOf i).toNat)
      case atStart => exact ⟨0, by omega, rfl, Below.refl _ _, fun j hj => absurd hj (by omega)⟩
      case round =>
        obtain ⟨k, hk, rfl, hbel, ha⟩ := hrel
        have HA := Lib.hid ha
        have HB := Lib.hid hbel
        obtain ⟨hx0, hx1⟩ := box2 hbel
        clear ha hbel
        by_cases hlk : k < P.length
        · have hlk' : k < T.length := by rw [HE.out]; exact hlk
          have hP' := (HP.out.alloc (.cells #[.slice (some ⟨b, o, none⟩) P.length pc, .slice (some ⟨b', o', none⟩) T.length tc] 24)).below HB.out (by simp)
          have hT' := (HT.out.alloc (.cells #[.slice (some ⟨b, o, none⟩) P.length pc, .slice (some ⟨b', o', none⟩) T.length tc] 24)).below HB.out (by simp)
          have hck := hP'.cell k hlk
          have hck' := hT'.cell k hlk'
          have hlr := (hP'.rows k hlk).len
          have hlr' := (hT'.rows k hlk').len
          have HrP := Lib.hid (hP'.rows k hlk)
          have HrT := Lib.hid (hT'.rows k hlk')
          clear hP' hT'
          by_cases h3 : (row P k).length ≤ 3
          · by_cases h2 : (row T k).length = 2 ^ (row P k).length
            · have hp := wrap_pow (row P k).length (by omega)
              have hB2 : (((row T k).length : Int) != wrap64 (2 ^ (row P k).length)) = false := by rw [hp, h2]; simp
              have H2 := Lib.hid h2
              have d1 : decide (3 < (row P k).length) = false := by simp; omega
              have d2 : decide ((3 : Int) < ((row P k).length : Int)) = false := by simp; omega
              clear hp h2
              go_wp2
              go_quiet (fail)
              go_wp2
              have hcP := HrP.out.cell
              have HAP := Lib.hid HrP.out.ptr
              clear hck hck' hx0 hx1 d1 d2 hB2
              go_loopw [6] (fun j wi => ∃ t : Nat, t ≤ (row P k).length ∧ j = .int .i64 t ∧ Below (w.heap.size + 1) (w.alloc (.cells #[.slice (some ⟨b, o, none⟩) P.length pc, .slice (some ⟨b', o', none⟩) T.length tc] 24)) wi ∧ (∀ s, s < t → 0 ≤ nth (row P k) s ∧ nth (row P k) s < k) ∧ (∀ s, s < t → 0 < s → nth (row P k) (s - 1) < nth (row P k) s)) (fun j _ => (row P k).length - (intOf j).toNat)
              case atStart => exact ⟨0, by omega, rfl, below_drewN HB.out _, fun j hj => absurd hj (by omega), fun j hj => absurd hj (by omega)⟩
              case round =>
                obtain ⟨t, ht, rfl, hbel2, ha2, ha3⟩ := hrel
                have HA2 := Lib.hid ha2
                have HA3 := Lib.hid ha3
                have HB2 := Lib.hid hbel2
                clear ha2 ha3 hbel2
                obtain ⟨hx0, hx1⟩ := box2 HB2.out
                have hP' := (HP.out.alloc (.cells #[.slice (some ⟨b, o, none⟩) P.length pc, .slice (some ⟨b', o', none⟩) T.length tc] 24)).below HB2.out (by simp)
                by_cases hlt2 : t < (row P k).length
                · obtain ⟨hAk, _⟩ := HAP.out (by omega)
                  have hct := (hP'.rows k hlk).cell t hlt2
                  have hct1 := fun h0 : 0 < t => (hP'.rows k hlk).cell (t - 1) (by omega)
                  have hwt := (hP'.rows k hlk).wf t
                  have hwP := (hP'.rows k hlk).wf
                  have hck := hP'.cell k hlk
                  rw [hAk] at hck
                  clear hP'
                  rcases (show (nth (row P k) t < 0) ∨ (0 ≤ nth (row P k) t ∧ (k : Int) ≤ nth (row P k) t) ∨ (0 ≤ nth (row P k) t ∧ nth (row P k) t < k ∧ t = 0) ∨ (0 ≤ nth (row P k) t ∧ nth (row P k) t < k ∧ 0 < t ∧ nth (row P k) t ≤ nth (row P k) (t - 1)) ∨ (0 ≤ nth (row P k) t ∧ nth (row P k) t < k ∧ 0 < t ∧ nth (row P k) (t - 1) < nth (row P k) t) by omega) with g1 | ⟨g1, g2⟩ | ⟨g1, g2, g3⟩ | ⟨g1, g2, g3, g4⟩ | ⟨g1, g2, g3, g4⟩
                  · have d1 : decide (nth (row P k) t < 0) = true := by simp; omega
                    have HF := Lib.hid (not_par (T := T) hlk (fun y => by have := (y.2.1 t hlt2).1; omega))
                    clear hct1
                    go_wp2
                    go_quiet (fail)
                    go_wp2
                    go_ret
                    exact ⟨ret_bool HF.out.symm, ((Below.refl _ _).alloc (Nat.le_refl _) _).trans ((below_drewN HB2.out _).mono (by omega))⟩
                  · have d1 : decide (nth (row P k) t < 0) = false := by simp; omega
                    have d2 : decide ((k : Int) ≤ nth (row P k) t) = true := by simp; omega
                    have HF := Lib.hid (not_par (T := T) hlk (fun y => by have := (y.2.1 t hlt2).2; omega))
                    clear hct1
                    go_wp2
                    go_quiet (fail)
                    go_wp2
                    go_ret
                    exact ⟨ret_bool HF.out.symm, ((Below.refl _ _).alloc (Nat.le_refl _) _).trans ((below_drewN HB2.out _).mono (by omega))⟩
                  · subst g3
                    simp only [Nat.add_zero] at hct
                    have d1 : decide (nth (row P k) 0 < 0) = false := by simp; omega
                    have d2 : decide ((k : Int) ≤ nth (row P k) 0) = false := by simp; omega
                    clear hct1
                    go_wp2
                    go_quiet (fail)
                    go_wp2
                    go_roundw
                    case rel =>
                      refine ⟨1, by omega, by go_num, below_drewN HB2.out _, fun j hj => ?_, fun j hj h0 => absurd hj (by omega)⟩
                      have : j = 0 := by omega
                      subst this
                      exact ⟨g1, g2⟩
                    case measure => simp [intOf]; omega
                  · have d1 : decide (nth (row P k) t < 0) = false := by simp; omega
                    have d2 : decide ((k : Int) ≤ nth (row P k) t) = false := by simp; omega
                    have d3 : decide (nth (row P k) t ≤ nth (row P k) (t - 1)) = true := by simp; omega
                    have d4 : decide (0 < t) = true := by simp; omega
                    have d5 : decide ((0 : Int) < (t : Int)) = true := by simp; omega
                    have hct1' := hct1 g3
                    have hwt' := hwP (t - 1)
                    clear hct1
                    have HF := Lib.hid (not_par (T := T) hlk (fun y => by have := y.2.2 t hlt2 g3; omega))
                    go_wp2
                    go_quiet (fail)
                    go_wp2
                    go_ret
                    exact ⟨ret_bool HF.out.symm, ((Below.refl _ _).alloc (Nat.le_refl _) _).trans ((below_drewN HB2.out _).mono (by omega))⟩
                  · have d1 : decide (nth (row P k) t < 0) = false := by simp; omega
                    have d2 : decide ((k : Int) ≤ nth (row P k) t) = false := by simp; omega
                    have d3 : decide (nth (row P k) t ≤ nth (row P k) (t - 1)) = false := by simp; omega
                    have d4 : decide (0 < t) = true := by simp; omega
                    have d5 : decide ((0 : Int) < (t : Int)) = true := by simp; omega
                    have hct1' := hct1 g3
                    have hwt' := hwP (t - 1)
                    clear hct1
                    go_wp2
                    go_quiet (fail)
                    go_wp2
                    go_roundw
                    case rel =>
                      refine ⟨t + 1, by omega, by go_num, below_drewN HB2.out _, fun j hj => ?_, fun j hj => ?_⟩
                      · by_cases e : j = t
                        · subst e; exact ⟨g1, g2⟩
                        · exact HA2.out j (by omega)
                      · by_cases e : j = t
                        · subst e; exact fun _ => g4
                        · exact HA3.out j (by omega)
                    case measure => simp [intOf]; omega
                · clear hP'
                  have hT' := (HT.out.alloc (.cells #[.slice (some ⟨b, o, none⟩) P.length pc, .slice (some ⟨b', o', none⟩) T.length tc] 24)).below HB2.out (by simp)
                  have hck' := hT'.cell k hlk'
                  clear hT'
                  have HOK := Lib.hid (show OkPar (row P k) k from ⟨h3, fun j hj => HA2.out j (by omega), fun j hj => HA3.out j (by omega)⟩)
                  go_wp2
                  go_loopw [7] (fun j wi => ∃ t : Nat, t ≤ (row T k).length ∧ j = .int .i64 t ∧ Below (w.heap.size + 1) (w.alloc (.cells #[.slice (some ⟨b, o, none⟩) P.length pc, .slice (some ⟨b', o', none⟩) T.length tc] 24)) wi ∧ (∀ s, s < t → 0 ≤ nth (row T k) s ∧ nth (row T k) s ≤ 16)) (fun j _ => (row T k).length - (intOf j).toNat)
                  case atStart => exact ⟨0, by omega, rfl, HB2.out, fun j hj => absurd hj (by omega)⟩
                  case round =>
                    clear hck'
                    obtain ⟨q, hq, rfl, hbel4, ha4⟩ := hrel
                    have HA4 := Lib.hid ha4
                    have HB4 := Lib.hid hbel4
                    clear ha4 hbel4
                    obtain ⟨hx0, hx1⟩ := box2 HB4.out
                    have hT' := (HT.out.alloc (.cells #[.slice (some ⟨b, o, none⟩) P.length pc, .slice (some ⟨b', o', none⟩) T.length tc] 24)).below HB4.out (by simp)
                    have hck' := hT'.cell k hlk'
                    have HrT := Lib.hid (hT'.rows k hlk')
                    clear hT'
                    by_cases hq2 : q < (row T k).length
                    · obtain ⟨hAk', _⟩ := HrT.out.ptr (by omega)
                      have hct := HrT.out.cell q hq2
                      have hwt := HrT.out.wf q
                      rw [hAk'] at hck'
                      clear hAk'
                      rcases (show (nth (row T k) q < 0) ∨ (0 ≤ nth (row T k) q ∧ 16 < nth (row T k) q) ∨ (0 ≤ nth (row T k) q ∧ nth (row T k) q ≤ 16) by omega) with g1 | ⟨g1, g2⟩ | ⟨g1, g2⟩
                      · have HF := Lib.hid (not_tab (T := T) hlk (fun y => by have := y.2 q hq2; omega))
                        go_wp2
                        go_ret
                        exact ⟨ret_bool HF.out.symm, ((Below.refl _ _).alloc (Nat.le_refl _) _).trans (HB4.out.mono (by omega))⟩
                      · have HF := Lib.hid (not_tab (T := T) hlk (fun y => by have := y.2 q hq2; omega))
                        go_wp2
                        go_ret
                        exact ⟨ret_bool HF.out.symm, ((Below.refl _ _).alloc (Nat.le_refl _) _).trans (HB4.out.mono (by omega))⟩
                      · go_wp2
                        go_roundw
                        case rel =>
                          refine ⟨q + 1, by omega, by go_num, HB4.out, fun j hj => ?_⟩
                          by_cases e : j = q
                          · subst e; exact ⟨g1, g2⟩
                          · exact HA4.out j (by omega)
                        case measure => simp [intOf]; omega
                    · go_wp2
                      go_roundw
                      case rel =>
                        refine ⟨k + 1, by omega, by go_num, HB4.out, fun j hj => ?_⟩
                        by_cases e : j = k
                        · subst e; exact ⟨HOK.out, H2.out, fun j hj => HA4.out j (by omega)⟩
                        · exact HA.out j (by omega)
                      case measure => simp [intOf]; omega
            · have hp := wrap_pow (row P k).length (by omega)
              have hB2 : (((row T k).length : Int) != wrap64 (2 ^ (row P k).length)) = true := by rw [hp, bne_iff_ne]; intro e; exact h2 (Int.ofNat.inj e)
              have HF := Lib.hid (not_tab (T := T) hlk (fun y => h2 y.1))
              have d1 : decide (3 < (row P k).length) = false := by simp; omega
              have d2 : decide ((3 : Int) < ((row P k).length : Int)) = false := by simp; omega
              clear hp h2
              go_wp2
              go_quiet (fail)
              go_wp2
              go_ret
              exact ⟨ret_bool HF.out.symm, ((Below.refl _ _).alloc (Nat.le_refl _) _).trans ((below_drewN HB.out _).mono (by omega))⟩
          · have HF := Lib.hid (not_par (T := T) hlk (fun y => h3 y.1))
            have d1 : decide (3 < (row P k).length) = true := by simp; omega
            have d2 : decide ((3 : Int) < ((row P k).length : Int)) = true := by simp; omega
            go_wp2
            go_quiet (fail)
            go_wp2
            go_ret
            exact ⟨ret_bool HF.out.symm, ((Below.refl _ _).alloc (Nat.le_refl _) _).trans ((below_drewN HB.out _).mono (by omega))⟩
        · have HF := Lib.hid (show isNet P T = true from decide_eq_true ⟨h1, h10, HE.out, fun j hj => (HA.out j (by omega)).1, fun j hj => (HA.out j (by omega)).2⟩)
          go_wp2
          go_ret
          exact ⟨ret_bool HF.out.symm, ((Below.refl _ _).alloc (Nat.le_refl _) _).trans (HB.out.mono (by omega))⟩
    · have hB : (((T.length : Int)) != (P.length : Int)) = true := by rw [bne_iff_ne]; omega
      have HF := Lib.hid (show isNet P T = false from decide_eq_false (fun q => he q.tab))
      go_enter Try.func18, Try.ntmps18
      go_wp2
      go_ret
      exact ⟨ret_bool HF.out.symm, (Below.refl _ _).alloc (Nat.le_refl _) _⟩
  · have HF := Lib.hid (show isNet P T = false from decide_eq_false (fun q => h1 ⟨q.pos, q.le⟩))
    by_cases h1' : P.length < 1
    · go_enter Try.func18, Try.ntmps18
      go_wp2
      go_ret
      exact ⟨ret_bool HF.out.symm, (Below.refl _ _).alloc (Nat.le_refl _) _⟩
    · have h10 : 10 < P.length := by omega
      go_enter Try.func18, Try.ntmps18
      go_wp2
      go_ret
      exact ⟨ret_bool HF.out.symm, (Below.refl _ _).alloc (Nat.le_refl _) _⟩

end Go.Proofs.Ytghffnjnpgiicaa

