/- All orders of the candidates: the function that calls itself. -/
import Derived.Test.YthnkmmjelpdamaaE4
namespace Go.Proofs.Ythnkmmjelpdamaa
open Go.RowKit

/-- What an order is worth. -/
def lfG (l : List Int) (n skip : Nat) : Nat → Nat → Int → Int
  | 0, _, _ => 0
  | f + 1, i, b => if b < nth l i ∧ skip ≤ i then (if nth l i = (n : Int) - 1 then 1 else 0) else lfG l n skip f (i + 1) (max b (nth l i))
/-- A number is among the first ones of a list. -/
def hasTo (l : List Int) (v : Int) : Nat → Bool
  | 0 => false
  | j + 1 => hasTo l v j || nth l j == v
def og (n skip : Nat) : Nat → List Int → Int
  | 0, l => lfG l n skip n 0 (-1)
  | d + 1, l => addTo (fun v => if hasTo l (v : Int) l.length = true then 0 else og n skip d (l ++ [(v : Int)])) n
def oa (n : Nat) : Nat → List Int → Int
  | 0, _ => 1
  | d + 1, l => addTo (fun v => if hasTo l (v : Int) l.length = true then 0 else oa n d (l ++ [(v : Int)])) n

theorem addTo_bd {f : Nat → Int} {M : Int} {k : Nat} (h : ∀ v, v < k → 0 ≤ f v ∧ f v ≤ M) : 0 ≤ addTo f k ∧ addTo f k ≤ (k : Int) * M := by
  induction k with
  | zero => simp [addTo]
  | succ k ih =>
    have h1 := ih fun v hv => h v (by omega)
    have h2 := h k (by omega)
    simp only [addTo]
    rw [show ((k + 1 : Nat) : Int) * M = (k : Int) * M + M by rw [Int.natCast_add, Int.add_mul]; simp]
    omega
theorem lfG_bd (l : List Int) (n skip : Nat) : ∀ f i b, 0 ≤ lfG l n skip f i b ∧ lfG l n skip f i b ≤ 1 := by
  intro f
  induction f with
  | zero => intro i b; simp [lfG]
  | succ f ih =>
    intro i b
    simp only [lfG]
    split
    · split <;> omega
    · exact ih _ _
theorem pow6_pos (d : Nat) : (1 : Int) ≤ 6 ^ d := by
  have : (0 : Int) < 6 ^ d := Int.pow_pos (by omega)
  omega
theorem og_bd {n skip : Nat} (hn : n ≤ 6) : ∀ d l, 0 ≤ og n skip d l ∧ og n skip d l ≤ 6 ^ d := by
  intro d
  induction d with
  | zero => intro l; exact lfG_bd _ _ _ _ _ _
  | succ d ih =>
    intro l
    have h := addTo_bd (f := fun v => if hasTo l (v : Int) l.length = true then 0 else og n skip d (l ++ [(v : Int)])) (M := 6 ^ d) (k := n) (fun v _ => by
      have := pow6_pos d
      split
      · omega
      · exact ih _)
    refine ⟨h.1, Int.le_trans h.2 ?_⟩
    rw [Int.pow_succ, Int.mul_comm]
    exact Int.mul_le_mul_of_nonneg_left (by omega) (by have := pow6_pos d; omega)
theorem oa_bd {n : Nat} (hn : n ≤ 6) : ∀ d l, 0 ≤ oa n d l ∧ oa n d l ≤ 6 ^ d := by
  intro d
  induction d with
  | zero => intro l; simp [oa]
  | succ d ih =>
    intro l
    have h := addTo_bd (f := fun v => if hasTo l (v : Int) l.length = true then 0 else oa n d (l ++ [(v : Int)])) (M := 6 ^ d) (k := n) (fun v _ => by
      have := pow6_pos d
      split
      · omega
      · exact ih _)
    refine ⟨h.1, Int.le_trans h.2 ?_⟩
    rw [Int.pow_succ, Int.mul_comm]
    exact Int.mul_le_mul_of_nonneg_left (by omega) (by have := pow6_pos d; omega)
theorem pow6_le {d : Nat} (h : d ≤ 6) : (6 : Int) ^ d ≤ 46656 := by
  rcases d with _ | _ | _ | _ | _ | _ | _ | d
  all_goals first | omega | decide

/-- The slice of a list: a nil one where the list is empty. -/
structure SlAt (w : World) (ao : Option Addr) (b o cap : Nat) (l : List Int) : Prop where
  at_ : IntsAt w ao b o l
  cap_ : l.length ≤ cap
  nil_ : l = [] → ao = none ∧ cap = 0
theorem slAt_own {B : Nat} {w : World} {v : Value} {xs : List Int} (h : w.ownsRow B 3 1 v xs.length (xs.map (Value.int .i64))) (hwf : ∀ i, -9223372036854775808 ≤ nth xs i ∧ nth xs i ≤ 9223372036854775807) (hlen : xs.length ≤ 140737488351232) (hx : xs ≠ []) :
    ∃ ao b cap, v = .slice ao xs.length cap ∧ SlAt w ao b 0 cap xs := by
  obtain ⟨hl, h1⟩ := h
  rcases h1 with ⟨rfl, h0⟩ | ⟨g, cap, cur, rfl, hg, hh, hcap, hm, hcs, htk⟩
  · exact absurd (List.length_eq_zero_iff.1 h0) hx
  · refine ⟨some ⟨g, 0, none⟩, g, cap, rfl, ⟨⟨fun _ => ⟨rfl, lt_of_blk hh⟩, fun i hi => ?_, hlen, hwf⟩, by omega, fun q => absurd q hx⟩⟩
    have e : cur[i]? = some (.int .i64 (nth xs i)) := by
      rw [← nth_mapI xs hi, ← htk, List.getElem?_take]
      rw [if_pos (by omega)]; simp
    simp [World.cell?, hh, e]
theorem news_all {w : World} {ao : Option Addr} {b o : Nat} {xs : List Int} (h : IntsAt w ao b o xs) (ad : Addr) (had : ao = some ad) :
    ∀ j u, (xs.map (Value.int .i64))[j]? = some u → w.cell? (ad.add j) = some u := by
  intro j u hj
  have hlt : j < (xs.map (Value.int .i64)).length := (List.getElem?_eq_some_iff.1 hj).1
  rw [List.length_map] at hlt
  have h0 := (h.ptr (by omega)).1
  rw [had] at h0
  obtain rfl : ad = ⟨b, o, none⟩ := Option.some.inj h0
  rw [nth_mapI _ hlt] at hj
  rw [← hj]
  have := h.cell j hlt
  by_cases hj0 : j = 0
  · subst hj0; simpa [Addr.add] using this
  · simpa [Addr.add, hj0] using this
theorem oneCell_ints (xs : List Int) : ∀ u ∈ xs.map (Value.int .i64), u.oneCell' = true := by
  intro u hu
  obtain ⟨x, _, rfl⟩ := List.mem_map.1 hu
  rfl
theorem own_nil (w : World) (B : Nat) : w.ownsRow B 3 1 (.slice none 0 0) 0 [] := ⟨rfl, .inl ⟨rfl, rfl⟩⟩
theorem nth_snoc {l : List Int} {v : Int} (i : Nat) : nth (l ++ [v]) i = nth l i ∨ nth (l ++ [v]) i = v ∨ nth (l ++ [v]) i = 0 := by
  unfold nth
  rw [List.getD_eq_getElem?_getD, List.getD_eq_getElem?_getD]
  by_cases h : i < l.length
  · left; rw [List.getElem?_append_left h]
  · rw [List.getElem?_append_right (by omega)]
    rcases Nat.eq_or_lt_of_le (Nat.le_of_not_lt h) with e | e
    · subst e; right; left; simp
    · right; right; rw [List.getElem?_eq_none (by simp; omega)]; rfl

set_option maxHeartbeats 4000000 in
set_option maxRecDepth 100000 in
theorem orders_leaf (n skip : Nat) (l : List Int) (ao : Option Addr) (b o cap : Nat) (w : World) (hn : n ≤ 6) (hl : l.length = n) (hs : skip ≤ 6) (hr : ∀ i, 0 ≤ nth l i ∧ nth l i ≤ 6) (h : SlAt w ao b o cap l) :
    Calls Try.prog 46 #[.slice ao l.length cap, .int .i64 n, .int .i64 skip] w fun e w' => e = .returned (.tuple #[.int .i64 (og n skip 0 l), .int .i64 1]) ∧ Below w.heap.size w w' := by
  have t1 : ((l.length : Int) == (n : Int)) = true := by rw [beq_iff_eq]; omega
  have t1' : (l.length == n) = true := by rw [beq_iff_eq]; exact hl
  have H := Lib.hid h.at_
  have HR := Lib.hid hr
  have HO := Lib.hid (show og n skip 0 l = lfG l n skip n 0 (-1) from rfl)
  have HL := Lib.hid hl
  have hwn : wrap64 ((n : Int) - 1) = (n : Int) - 1 := IntWalk.wrap64_in _ ⟨by omega, by omega⟩
  obtain ⟨res, hres⟩ : ∃ r, og n skip 0 l = r := ⟨_, rfl⟩
  rw [hres] at HO ⊢
  clear h hr hres hl
  go_enter Try.func46, Try.ntmps46
  go_wp2
  clear t1 t1'
  go_loop [8, 9] (fun y z => ∃ (i : Nat) (m : Int), i ≤ n ∧ z = .int .i64 i ∧ y = .int .i64 m ∧ lfG l n skip (n - i) i m = res ∧ -1 ≤ m ∧ m ≤ 6) (fun _ z => n - (intOf z).toNat)
  case atStart => exact ⟨0, -1, Nat.zero_le _, rfl, rfl, HO.out.symm, by omega, by omega⟩
  case round =>
    obtain ⟨i, m, hi, rfl, rfl, hm, hm1, hm2⟩ := hrel
    by_cases hlt : i < n
    · have hil : i < l.length := by rw [HL.out]; exact hlt
      obtain ⟨rfl, -⟩ := H.out.ptr (by omega)
      have c0 := H.out.cell i hil
      obtain ⟨x, hx⟩ : ∃ x, nth l i = x := ⟨_, rfl⟩
      have hxr := HR.out i
      rw [show n - i = n - (i + 1) + 1 by omega, lfG, hx] at hm
      rw [hx] at hxr c0
      have HX := Lib.hid hx
      clear hx
      by_cases hbx : m < x
      · have d1 : decide (m < x) = true := decide_eq_true hbx
        by_cases hsi : skip ≤ i
        · have d2 : decide ((skip : Int) ≤ (i : Int)) = true := decide_eq_true (by omega)
          have d2' : decide (skip ≤ i) = true := decide_eq_true hsi
          rw [if_pos ⟨hbx, hsi⟩] at hm
          by_cases hxn : x = (n : Int) - 1
          · have d3 : (x == (n : Int) - 1) = true := by rw [beq_iff_eq]; exact hxn
            rw [if_pos hxn] at hm
            have HM := Lib.hid hm
            clear hm hxn hbx hsi
            go_wp2
            refine bodyPost_ret (v := .tuple #[.int .i64 1, .int .i64 1]) (by simp [results, Try.results46, go_sem]) rfl ⟨by rw [← HM.out], Below.refl _ _⟩
          · have d3 : (x == (n : Int) - 1) = false := by rw [beq_eq_false_iff_ne]; exact hxn
            rw [if_neg hxn] at hm
            have HM := Lib.hid hm
            clear hm hxn hbx hsi
            go_wp2
            refine bodyPost_ret (v := .tuple #[.int .i64 0, .int .i64 1]) (by simp [results, Try.results46, go_sem]) rfl ⟨by rw [← HM.out], Below.refl _ _⟩
        · have d2 : decide ((skip : Int) ≤ (i : Int)) = false := decide_eq_false (by omega)
          have d2' : decide (skip ≤ i) = false := decide_eq_false hsi
          rw [if_neg (fun q => hsi q.2), show max m x = x by omega] at hm
          have HM := Lib.hid hm
          clear hm hsi
          go_wp2
          go_round
          case rel => exact ⟨i + 1, x, by omega, by go_num, rfl, HM.out, by omega, by omega⟩
          case measure => simp [intOf]; omega
      · have d1 : decide (m < x) = false := decide_eq_false hbx
        rw [if_neg (fun q => hbx q.1), show max m x = m by omega] at hm
        have HM := Lib.hid hm
        clear hm
        go_wp2
        go_round
        case rel => exact ⟨i + 1, m, by omega, by go_num, rfl, HM.out, by omega, by omega⟩
        case measure => simp [intOf]; omega
    · obtain rfl : i = n := by omega
      rw [Nat.sub_self] at hm
      have HM := Lib.hid (show (0 : Int) = res from hm)
      clear hm
      go_wp2
      refine bodyPost_ret (v := .tuple #[.int .i64 0, .int .i64 1]) (by simp [results, Try.results46, go_sem]) rfl ⟨by rw [← HM.out], Below.refl _ _⟩

end Go.Proofs.Ythnkmmjelpdamaa
