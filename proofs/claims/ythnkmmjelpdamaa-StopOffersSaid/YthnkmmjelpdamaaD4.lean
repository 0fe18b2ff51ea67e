/- A list from its end on: a function that is ranged over. -/
import Derived.RangeFuncNested
import Derived.RangeFuncBound
import Derived.RangeFuncCalls
import Derived.RangeFuncLeaves
import Derived.RangeFuncBox
import Derived.Shelf.Abstract
import Derived.Shelf.RegionOpen
import Derived.OwnWalkIn
import Derived.TacticsInMore
import Derived.LoopNIn
import Derived.LoopIn
import Derived.Test.YthnkmmjelpdamaaD1
namespace Go.Proofs.Ythnkmmjelpdamaa
open Go.RowKit Go.Shelf

attribute [local go_sem] Oper.semAt_some

/-- The first k places from the end of n. -/
def dn (n k : Nat) : List Nat := (List.range k).map fun i => n - 1 - i
theorem dn_succ (n k : Nat) : dn n (k + 1) = dn n k ++ [n - 1 - k] := by simp [dn, List.range_succ]
theorem dn_length (n k : Nat) : (dn n k).length = k := by simp [dn]

/-- Two blocks lie on, and the memory has not shrunk. -/
def Keep2 (D B : Nat) (W W' : World) : Prop := W'.heap[D]? = W.heap[D]? ∧ W'.heap[B]? = W.heap[B]? ∧ W.heap.size ≤ W'.heap.size
theorem Keep2.refl (D B : Nat) (W : World) : Keep2 D B W W := ⟨rfl, rfl, Nat.le_refl _⟩
theorem Keep2.trans {D B : Nat} {a b c : World} (h : Keep2 D B a b) (k : Keep2 D B b c) : Keep2 D B a c := ⟨k.1.trans h.1, k.2.1.trans h.2.1, Nat.le_trans h.2.2 k.2.2⟩
theorem Keep2.of {D B N : Nat} {a b : World} (h : Below N a b) (hD : D < N) (hB : B < N) : Keep2 D B a b := ⟨h.block _ hD, h.block _ hB, h.size⟩
theorem keep2_put {D B : Nat} {w : World} (hD : D < w.heap.size) (hB : B < w.heap.size) (W : World) (l : Nat) (o o' : Obj) (hl : w.heap.size ≤ l) (h : W.heap[l]? = some o) (_ : o.isCells = false) (_ : o.isWalk = false) : Keep2 D B W (W.putObj l o') :=
  .of (belowK_b (w := w) (Nat.le_refl _) W l o o' hl h ‹_› ‹_›) hD hB

/-- What is handed to the loop's body. -/
def offEnc (L : List (List (Int × Int))) (A : Nat → Option Addr) (C : Nat → Nat) (x : Nat) : Array Value := #[.int .i64 x, .slice (A x) (rowP L x).length (C x)]

set_option maxHeartbeats 1000000 in
theorem backward_in (F : Fence) (m : Nat) (h7 : F.fn 78) (hro : F.round = none) (v : Value) (ao : Option Addr) (n cap : Nat) (hv : v = .slice ao n cap) (w : World) :
    CallsIn F m Try.prog 78 #[.slice ao n cap] w fun e w' => e = .returned (.func (.func 81) #[] #[.pointer (some ⟨w.heap.size, 0, none⟩)]) ∧ w' = w.alloc (.cells #[.slice ao n cap] 56) := by
  clear hv
  refine callsIn_of_wp Try.func78 rfl h7 ?_ hro
  simp only [Try.ntmps78, List.size_toArray, List.length_cons, List.length_nil, Nat.reduceAdd, Nat.reduceSub, Array.replicate_succ, Array.replicate_zero, List.push_toArray, List.append_toArray, List.nil_append, List.cons_append]
  gi_wp2
  go_ret
  exact ⟨rfl, rfl⟩

set_option maxRecDepth 100000 in
set_option maxHeartbeats 4000000 in
/-- The function that is ranged over. -/
theorem backward1_in (F : Fence) (n : Nat) (h7 : F.fn 81) (hro : F.round = none) (hn : 1 ≤ n) (l D Bs : Nat) (L : List (List (Int × Int))) (ao : Option Addr) (b o cap : Nat) (A : Nat → Option Addr) (C : Nat → Nat) (J Jx : List Nat → World → Prop)
    (W : World) (hJa : AbidesFrom W.heap.size J) (hL6 : L.length ≤ 140737488351232)
    (hY : ∀ pre x W1, J pre W1 → pre.length < L.length → YieldAt F (n - 1) Try.prog l (offEnc L A C x) W1 fun e W' =>
      (e = .returned (.bool true) ∧ J (pre ++ [x]) W' ∧ Keep2 D Bs W1 W') ∨ (e = .returned (.bool false) ∧ Jx (pre ++ [x]) W'))
    (hBs : W.heap[Bs]? = some (.cells #[.slice ao L.length cap] 56 (0, 0)))
    (hD : ∀ w', Keep2 D Bs W w' → ∀ i, i < L.length → ao = some ⟨b, o, none⟩ ∧ w'.cell? ⟨b, o + i, none⟩ = some (.slice (A i) (rowP L i).length (C i))) (h0 : J [] W) :
    CallsIn F n Try.prog 81 #[.func (.yield l) #[] #[], .pointer (some ⟨Bs, 0, none⟩)] W fun e W' => (∃ v, e = .returned v) ∧
      ((∃ ys, ys = dn L.length L.length ∧ J ys W') ∨ (∃ pre, (∃ k, k ≤ L.length ∧ pre = dn L.length k) ∧ Jx pre W')) := by
  have HJA := Lib.hid hJa
  have HY := Lib.hid hY
  have HD := Lib.hid hD
  have HBS := Lib.hid (show ∀ w', Keep2 D Bs W w' → w'.cell? ⟨Bs, 0, none⟩ = some (.slice ao L.length cap) from fun w' h => by
    rw [cell_of_row _ _ _ _ _ _ (h.2.1.trans hBs)]; rfl)
  have cb : W.cell? ⟨Bs, 0, none⟩ = some (.slice ao L.length cap) := HBS.out W (Keep2.refl _ _ _)
  clear hJa hY hBs hD
  refine callsIn_of_wp Try.func81 rfl h7 ?_ hro
  simp only [Try.ntmps81, List.size_toArray, List.length_cons, List.length_nil, Nat.reduceAdd, Nat.reduceSub, Array.replicate_succ, Array.replicate_zero, List.push_toArray, List.append_toArray, List.nil_append, List.cons_append]
  have hw1 : wrap64 ((L.length : Int) - 1) = (L.length : Int) - 1 := IntWalk.wrap64_in _ ⟨by omega, by omega⟩
  gi_wp2
  clear cb hw1
  gi_loopw [3] (fun y wr => ∃ k : Nat, k ≤ L.length ∧ y = .int .i64 ((L.length : Int) - 1 - (k : Int)) ∧ J (dn L.length k) wr ∧ Keep2 D Bs W wr) (fun y _ => (intOf y + 1).toNat)
  case atStart => exact ⟨0, Nat.zero_le _, by simp, h0, Keep2.refl _ _ _⟩
  case round =>
    clear h0
    obtain ⟨k, hk, rfl, hj, hb⟩ := hrel
    obtain ⟨wq, rfl⟩ : ∃ x, x = wr := ⟨_, rfl⟩
    have HJ := Lib.hid hj
    have HB := Lib.hid hb
    clear hj hb
    by_cases hlt : k < L.length
    · obtain ⟨x, hx⟩ : ∃ x, L.length - 1 - k = x := ⟨_, rfl⟩
      have hxl : x < L.length := by omega
      have hxi : (L.length : Int) - 1 - (k : Int) = (x : Int) := by omega
      have hxs : (x : Int) - 1 = (L.length : Int) - 1 - ((k + 1 : Nat) : Int) := by omega
      have hw1 : wrap64 ((x : Int) - 1) = (x : Int) - 1 := IntWalk.wrap64_in _ ⟨by omega, by omega⟩
      have hge : decide (0 ≤ (x : Int)) = true := decide_eq_true (by omega)
      have HDN := Lib.hid (show dn L.length (k + 1) = dn L.length k ++ [x] by rw [dn_succ, hx])
      have cb := HBS.out wq HB.out
      obtain ⟨rfl, cd⟩ := HD.out wq HB.out x hxl
      obtain ⟨fn, tmps, assign, body, hy, hR⟩ := HY.out _ x wq HJ.out (by rw [dn_length]; exact hlt)
      unfold offEnc at hy
      have HRD := Lib.hid hR
      have HXS := Lib.hid hxs
      clear hR hx hxs
      rw [hxi]
      clear hxi
      gi_wp2
      refine HRD.out.mono ?_
      rintro e W3 (⟨rfl, hJ3, hk3⟩ | ⟨rfl, hJx3⟩)
      · have HJ3 := Lib.hid hJ3
        have HB3 := Lib.hid (HB.out.trans hk3)
        clear hJ3 hk3
        gi_wp2
        go_roundw
        case rel => exact ⟨k + 1, by omega, by rw [← HXS.out], by rw [HDN.out]; exact HJ3.out, HB3.out⟩
        case measure => simp [intOf]
      · have HJx3 := Lib.hid hJx3
        clear hJx3
        gi_wp2
        refine bodyPost_ret (results_none rfl _ _ _) rfl ?_
        exact ⟨⟨_, rfl⟩, .inr ⟨_, ⟨k + 1, by omega, HDN.out.symm⟩, HJx3.out⟩⟩
    · obtain rfl : k = L.length := by omega
      rw [show (L.length : Int) - 1 - (L.length : Int) = -1 by omega]
      gi_wp2
      go_end0
      exact ⟨⟨_, rfl⟩, .inl ⟨_, rfl, HJ.out⟩⟩

/-- What is ranged over gives all of the list, from its end on. -/
theorem backward_stops (F : Fence) (n : Nat) (h7 : F.fn 81) (hro : F.round = none) (hn : 1 ≤ n) (D Bs : Nat) (L : List (List (Int × Int))) (ao : Option Addr) (b o cap : Nat) (A : Nat → Option Addr) (B O C : Nat → Nat) (w : World) (h : OffsAt w ao b o L A B O C) (hDb : 0 < L.length → D = b) (hD : D < w.heap.size) (hB : Bs < w.heap.size)
    (hBs : w.heap[Bs]? = some (.cells #[.slice ao L.length cap] 56 (0, 0))) :
    SeqStopsK F n Try.prog 81 #[.pointer (some ⟨Bs, 0, none⟩)] (offEnc L A C) (Keep2 D Bs) (fun ys => ys = dn L.length L.length) (fun pre => ∃ k, k ≤ L.length ∧ pre = dn L.length k) L.length w := fun l J Jx W hW hJ _ hY h0 =>
  backward1_in F n h7 hro hn l D Bs L ao b o cap A C J Jx W hJ h.len hY ((hW.block Bs hB).trans hBs) (fun w' hk i hi => by
    obtain rfl := hDb (by omega)
    refine ⟨(h.ptr (by omega)).1, ?_⟩
    rw [World.cell?_of_block (hk.1.trans (hW.block D hD))]
    exact h.cell i hi) h0

end Go.Proofs.Ythnkmmjelpdamaa
