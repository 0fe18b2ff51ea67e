/- A statement that draws its order, with two new slices, a copy, an append and a call: what is known of the world at each of its steps. -/
import Derived.Test.YtghffnjnpgiicaaJ1
namespace Go.Proofs.Ytghffnjnpgiicaa
open Go.RowKit

/-- A and Bv: the cells of two pairs; g: the facts that are copied, g2: those behind the append. What has not been made yet is none. -/
structure Rg (wz w : World) (A Bv : Array Value) (g g2 : List (Int × Int)) (nb na nl : Option Nat) (own ap : Option Value) : Prop where
  below : Below wz.heap.size wz w
  b : ∀ n, nb = some n → w.heap[n]? = some (.cells Bv 52 (0, 0))
  a : ∀ n, na = some n → w.heap[n]? = some (.cells A 52 (0, 0))
  al : ∀ n, nl = some n → wz.heap.size ≤ n ∧ w.heap[n]? = some (.cells #[.int .i64 0, .int .i64 0] 29 (0, 0))
  own : ∀ v, own = some v → NewPairs wz.heap.size w v g ∧ (∀ n, nb = some n → some n ≠ v.ownBlock) ∧ (∀ n, na = some n → some n ≠ v.ownBlock) ∧ (∀ n, nl = some n → some n ≠ v.ownBlock)
  ap : ∀ v, ap = some v → NewPairs wz.heap.size w v g2

section
variable {wz w : World} {A Bv : Array Value} {g g2 : List (Int × Int)} {nb na nl : Option Nat} {own ap : Option Value}

theorem Rg.start : Rg wz wz A Bv g g2 none none none none none :=
  ⟨Below.refl _ _, (fun n h => by cases h), (fun n h => by cases h), (fun n h => by cases h), (fun n h => by cases h), (fun n h => by cases h)⟩
theorem Rg.more {w' : World} (h : Rg wz w A Bv g g2 nb na nl own ap) (hb : Below w.heap.size w w') : Rg wz w' A Bv g g2 nb na nl own ap :=
  ⟨h.below.trans (hb.mono h.below.size), fun n e => (hb.block _ (lt_of_block (h.b n e))).trans (h.b n e), fun n e => (hb.block _ (lt_of_block (h.a n e))).trans (h.a n e),
    fun n e => ⟨(h.al n e).1, (hb.block _ (lt_of_block (h.al n e).2)).trans (h.al n e).2⟩, fun v e => ⟨(h.own v e).1.later hb (Nat.le_refl _), (h.own v e).2⟩, fun v e => (h.ap v e).later hb (Nat.le_refl _)⟩
theorem Rg.drew (h : Rg wz w A Bv g g2 nb na nl own ap) : Rg wz w.drew A Bv g g2 nb na nl own ap := h.more (below_dr (Below.refl _ _))
theorem ne_size {v : Value} (h : Rg wz w A Bv g g2 nb na nl own ap) (hv : own = some v) : some w.heap.size ≠ v.ownBlock := fun e => by
  have := ((h.own v hv).1.own.lt _ e.symm).2
  omega
theorem Rg.allocB (h : Rg wz w A Bv g g2 none na nl own ap) : Rg wz (w.alloc (.cells Bv 52)) A Bv g g2 (some w.heap.size) na nl own ap := by
  have h2 := h.more ((Below.refl _ w).alloc (Nat.le_refl _) (.cells Bv 52))
  refine ⟨h2.below, fun n e => ?_, h2.a, h2.al, fun v e => ⟨(h2.own v e).1, fun n e2 => ?_, (h2.own v e).2.2⟩, h2.ap⟩
  · cases e; exact heap_alloc_new _ _
  · cases e2; exact ne_size h e
theorem Rg.allocA (h : Rg wz w A Bv g g2 nb none nl own ap) : Rg wz (w.alloc (.cells A 52)) A Bv g g2 nb (some w.heap.size) nl own ap := by
  have h2 := h.more ((Below.refl _ w).alloc (Nat.le_refl _) (.cells A 52))
  refine ⟨h2.below, h2.b, fun n e => ?_, h2.al, fun v e => ⟨(h2.own v e).1, (h2.own v e).2.1, fun n e2 => ?_, (h2.own v e).2.2.2⟩, h2.ap⟩
  · cases e; exact heap_alloc_new _ _
  · cases e2; exact ne_size h e
theorem Rg.allocL (h : Rg wz w A Bv g g2 nb na none own ap) : Rg wz (w.alloc (.cells #[.int .i64 0, .int .i64 0] 29)) A Bv g g2 nb na (some w.heap.size) own ap := by
  have h2 := h.more ((Below.refl _ w).alloc (Nat.le_refl _) (.cells #[.int .i64 0, .int .i64 0] 29))
  refine ⟨h2.below, h2.b, h2.a, fun n e => ?_, fun v e => ⟨(h2.own v e).1, (h2.own v e).2.1, (h2.own v e).2.2.1, fun n e2 => ?_⟩, h2.ap⟩
  · cases e; exact ⟨h.below.size, heap_alloc_new _ _⟩
  · cases e2; exact ne_size h e

theorem Rg.allocB' {n : Nat} (hn : w.heap.size = n) (h : Rg wz w A Bv g g2 none na nl own ap) : Rg wz (w.alloc (.cells Bv 52)) A Bv g g2 (some n) na nl own ap := hn ▸ h.allocB
theorem Rg.allocA' {n : Nat} (hn : w.heap.size = n) (h : Rg wz w A Bv g g2 nb none nl own ap) : Rg wz (w.alloc (.cells A 52)) A Bv g g2 nb (some n) nl own ap := hn ▸ h.allocA
theorem Rg.allocL' {n : Nat} (hn : w.heap.size = n) (h : Rg wz w A Bv g g2 nb na none own ap) : Rg wz (w.alloc (.cells #[.int .i64 0, .int .i64 0] 29)) A Bv g g2 nb na (some n) own ap := hn ▸ h.allocL

/-- The copy. -/
theorem rg_facts (go : Option Addr) (gb gc : Nat) (hg : PairsAt wz go gb 0 g) (hc : g.length ≤ gc) (hn : go = none → gc = 0) (h6 : g.length ≤ 20) (W : World) (st : Rg wz W A Bv g g2 nb na nl none ap) :
    Calls Try.prog 21 #[.slice go g.length gc] W fun e w' => ∃ v, e = .returned v ∧ Rg wz w' A Bv g g2 nb na nl (some v) ap := by
  refine (facts_any g go gb 0 gc W (hg.below st.below (Nat.le_refl _)) hc hn).mono ?_
  rintro e w' ⟨v, rfl, n1, hb⟩
  rw [List.take_of_length_le h6] at n1
  have h2 := st.more hb
  have far : ∀ n, n < W.heap.size → some n ≠ v.ownBlock := fun n hn e => by have := (n1.own.lt _ e.symm).1; omega
  refine ⟨v, rfl, h2.below, h2.b, h2.a, h2.al, fun u e => ?_, h2.ap⟩
  cases e
  exact ⟨n1.mono st.below.size, fun n e => far n (lt_of_block (st.b n e)), fun n e => far n (lt_of_block (st.a n e)), fun n e => far n (lt_of_block (st.al n e).2)⟩

/-- The append. -/
theorem rg_append {ops : Array Oper} {o : Oper} {a : Act} {W : World} {K : Act → World → Prop} {Q : Exit → Act → World → Prop} {E : Prop} {N : Nat} {v : Value} {x y : Int} (hgd : o.guard = none) (s t : Operand)
    (ho : o.op = .call { callee := .builtin .append, args := #[s, t], argTypes := #[38, 38] }) (st : Rg wz W #[.int .i64 x, .int .i64 y] Bv g (g ++ [(x, y)]) nb (some N) nl (some v) none)
    (hs : a.eval s = v) (hx : a.eval t = .slice (some ⟨N, 0, none⟩) 1 1) (h6 : g.length ≤ 1000) (hxy : (-9223372036854775808 ≤ x ∧ x ≤ 9223372036854775807) ∧ -9223372036854775808 ≤ y ∧ y ≤ 9223372036854775807)
    (h : ∀ gg cap w', Rg wz w' #[.int .i64 x, .int .i64 y] Bv g (g ++ [(x, y)]) nb (some N) nl none (some (.slice (some ⟨gg, 0, none⟩) (g.length + 1) cap)) → K (a.put o.dst (.slice (some ⟨gg, 0, none⟩) (g.length + 1) cap)) w') :
    if Region.wanted o (yielded ops a.tmps) = true then Oper.wp Try.prog o a W K Q else E := by
  obtain ⟨i0, hi, hz0, hz1, hz2⟩ := info_parts Try.info52
  obtain ⟨o1, o2, o3, o4⟩ := st.own v rfl
  refine step_append_lies W hgd s t _ ho wz.heap.size 52 i0 (.agg #[.int .i64 0, .int .i64 0]) 2 16 Try.underlying38 hi hz0 hz1 hz2 rfl (by omega) v g.length (cells2 g) hs o1.own ⟨N, 0, none⟩ 1 1 [.int .i64 x, .int .i64 y] hx rfl
    (World.news_of_block (cs := #[.int .i64 x, .int .i64 y]) (t := 52) (fr := (0, 0)) (st.a N rfl)) (by simp [Value.oneCell']) (by omega) (by unfold maxLen; omega) (by omega) st.below.size W.heap.size rfl ?_
  intro gg cap w' hown hgrow _ _
  refine h gg cap w' ⟨st.below.grown hgrow st.below.size (fun q hq => (o1.own.lt q hq).1), fun n e => (hgrow.block n (lt_of_block (st.b n e)) (o2 n e)).trans (st.b n e), fun n e => (hgrow.block n (lt_of_block (st.a n e)) (o3 n e)).trans (st.a n e),
    fun n e => ⟨(st.al n e).1, (hgrow.block n (lt_of_block (st.al n e).2) (o4 n e)).trans (st.al n e).2⟩, (fun v e => by cases e), fun u e => ?_⟩
  cases e
  exact o1.snoc h6 hxy hown

end
end Go.Proofs.Ytghffnjnpgiicaa
