/- The first colouring that is struck. -/
import Derived.Test.YtjibdolhipddbaaA8
namespace Go.Proofs.Ytjibdolhipddbaa
open Go.RowKit

/-- The place of the first struck one among those from place i on, with n of them. -/
def idxF (k d : Int) (X : List (List Int)) : Nat → Option Nat
  | 0 => none
  | n + 1 => match idxF k d X n with
    | some i => some i
    | none => if delF k d (nth (row X n)) then some n else none

/-- No colouring among the first n is struck. -/
def NoneTo (k d : Int) (X : List (List Int)) (n : Nat) : Prop := ∀ i, i < n → delF k d (nth (row X i)) = false

set_option maxHeartbeats 4000000 in
set_option maxRecDepth 100000 in
theorem idx_any (k d : Int) (X : List (List Int)) (ao : Option Addr) (b o cap : Nat) (p q : Nat) (w : World) (H : ColsAt w ao b o X) (hp : w.cell? ⟨p, 0, none⟩ = some (.int .i64 k)) (hq : w.cell? ⟨q, 0, none⟩ = some (.int .i64 d)) (hpw : p < w.heap.size) (hqw : q < w.heap.size) :
    Calls Try.prog 61 #[.slice ao X.length cap, .func (.func 58) #[] #[.pointer (some ⟨p, 0, none⟩), .pointer (some ⟨q, 0, none⟩)]] w fun e w' =>
      ((e = .returned (.int .i64 (-1)) ∧ NoneTo k d X X.length) ∨ ∃ i, i < X.length ∧ e = .returned (.int .i64 (i : Nat)) ∧ NoneTo k d X i ∧ delF k d (nth (row X i)) = true) ∧ Below w.heap.size w w' := by
  have HX := Lib.hid H
  have hxl := H.len
  have HP := Lib.hid (And.intro hp (And.intro hq (And.intro hpw hqw)))
  clear H hp hq hpw hqw
  go_enter Try.func61, Try.ntmps61
  go_wp2
  go_loopw [5, 8] (fun _ x wr => ∃ i : Nat, i ≤ X.length ∧ x = .int .i64 i ∧ NoneTo k d X i ∧ Below w.heap.size w wr) (fun _ x _ => X.length - (intOf x).toNat)
  case atStart => exact ⟨0, by omega, rfl, fun i hi => absurd hi (by omega), Below.refl _ _⟩
  case round =>
    obtain ⟨i, hi, rfl, hn, hb⟩ := hrel
    have HN := Lib.hid hn
    have HB := Lib.hid hb
    clear hn hb
    by_cases hlt : i < X.length
    · have hc := HX.out.below HB.out (Nat.le_refl _)
      obtain ⟨rfl, -⟩ := hc.ptr (by omega)
      have HR := Lib.hid (hc.rng i hlt)
      have HS := Lib.hid (struck_any k d (nth (row X i)) p q wr (by rw [HB.out.cell (p := ⟨p, 0, none⟩) HP.out.2.2.1]; exact HP.out.1) (by rw [HB.out.cell (p := ⟨q, 0, none⟩) HP.out.2.2.2]; exact HP.out.2.1) (Nat.lt_of_lt_of_le HP.out.2.2.1 HB.out.size) (Nat.lt_of_lt_of_le HP.out.2.2.2 HB.out.size))
      clear hc
      go_wp2_with (refine wpList_load_mid rfl 84 (.tmp 14) rfl b (o + i * 6) rfl _ _ HR.out Try.underlying84 rfl (info_col _) ?_; rw [colL_arr])
      refine (HS.out).mono ?_
      rintro e w2 ⟨rfl, hb⟩
      have HB2 := Lib.hid (HB.out.trans (hb.mono HB.out.size))
      clear hb
      obtain ⟨t, ht⟩ : ∃ t, delF k d (nth (row X i)) = t := ⟨_, rfl⟩
      rw [ht]
      have HT := Lib.hid ht
      clear ht
      cases t
      · go_wp2
        go_roundw
        case rel => exact ⟨i + 1, by omega, by go_num, fun j hj => by
          by_cases e : j = i
          · rw [e]; exact HT.out
          · exact HN.out j (by omega), HB2.out⟩
        case measure => simp [intOf]; omega
      · go_wp2
        go_ret
        exact ⟨.inr ⟨i, hlt, rfl, HN.out, HT.out⟩, HB2.out⟩
    · have hil : i = X.length := by omega
      subst hil
      go_wp2
      go_ret
      exact ⟨.inl ⟨rfl, HN.out⟩, HB.out⟩

end Go.Proofs.Ytjibdolhipddbaa
