/- The search for a trail; Separated. -/
import Derived.Test.YtaphmjccdokiiaaY
import Derived.Great.BuildSlice
namespace Go.Proofs.Ytaphmjccdokiiaa
open Go.RowKit

/-- What find hands back. -/
def FindRes (w : World) (r : Option (List Nat)) (e : Ending) (w' : World) : Prop :=
  ∃ v, e = .returned v ∧ NewInts w.heap.size w' v (ints (r.getD [])) ∧ (r = none → v = .slice none 0 0) ∧ Below w.heap.size w w'

/-- What each step keeps, the found trail has; it ends at y. -/
theorem dfs_keeps (W : Web) (y : Nat) (P : List Nat → Prop) (hP : ∀ tr k, P tr → k < W.count → okNext W tr k = true → P (tr ++ [k])) (f : Nat) :
    ∀ tr r, P tr → dfs W y f tr = some r → P r ∧ r.getD (r.length - 1) 0 = y := by
  induction f with
  | zero => intro tr r _ h; simp [dfs] at h
  | succ f ih =>
    intro tr r hp h
    rw [dfs] at h
    by_cases e : tr.getD (tr.length - 1) 0 = y
    · rw [if_pos e] at h
      obtain rfl := Option.some.inj h
      exact ⟨hp, e⟩
    · rw [if_neg e] at h
      have aux : ∀ k, k ≤ W.count → dfsTo W y f tr k = some r → P r ∧ r.getD (r.length - 1) 0 = y := by
        intro k
        induction k with
        | zero => intro _ h; simp [dfsTo] at h
        | succ k ihk =>
          intro hk h
          rw [dfsTo] at h
          cases ed : dfsTo W y f tr k with
          | some r' => rw [ed] at h; obtain rfl := Option.some.inj h; exact ihk (by omega) ed
          | none =>
            rw [ed] at h
            cases eo : okNext W tr k
            · rw [eo] at h; simp at h
            · rw [eo] at h
              exact ih _ _ (hP tr k hp (by omega) eo) (by simpa using h)
      exact aux W.count (Nat.le_refl _) h
theorem okNext_new {W : Web} {tr : List Nat} {k : Nat} (h : okNext W tr k = true) : ¬ k ∈ tr := by
  unfold okNext at h
  simp only [Bool.and_eq_true, Bool.not_eq_true', decide_eq_false_iff_not] at h
  exact h.1.2
theorem dfs_plain {W : Web} {y f : Nat} {tr r : List Nat} (h : dfs W y f tr = some r) (hne : tr ≠ []) (hnd : tr.Nodup) (hlt : ∀ x ∈ tr, x < W.count) : r ≠ [] ∧ r.Nodup ∧ ∀ x ∈ r, x < W.count :=
  (dfs_keeps W y (fun tr => tr ≠ [] ∧ tr.Nodup ∧ ∀ x ∈ tr, x < W.count) (fun tr k ⟨_, h2, h3⟩ hk ho => ⟨by simp, nodup_snoc h2 (okNext_new ho), fun x hx => by
    simp at hx; rcases hx with hx | hx
    · exact h3 x hx
    · omega⟩) f tr r ⟨hne, hnd, hlt⟩ h).1
theorem own_base {w : World} {B B' n : Nat} {v : Value} {xs : List Value} (h : w.ownsRow B 3 1 v n xs) (hB : B' ≤ B) : w.ownsRow B' 3 1 v n xs := by
  refine ⟨h.1, ?_⟩
  rcases h.2 with h2 | ⟨g, cap, cur, hv, hg, rest⟩
  · exact .inl h2
  · exact .inr ⟨g, cap, cur, hv, by omega, rest⟩

/-- Memory before the search. -/
theorem find_start (w : World) (a b c d e : Obj) : ∃ w5, w5 = ((((w.alloc a).alloc b).alloc c).alloc d).alloc e ∧ w5.heap[w.heap.size]? = some a ∧ w5.heap[w.heap.size + 1]? = some b ∧ w5.heap[w.heap.size + 1 + 1]? = some c ∧ w5.heap[w.heap.size + 1 + 1 + 1]? = some d ∧ w5.heap[w.heap.size + 1 + 1 + 1 + 1]? = some e ∧ Below w.heap.size w w5 := by
  have o : ∀ (w : World) (o : Obj) (i : Nat), i < w.heap.size → (w.alloc o).heap[i]? = w.heap[i]? := fun w o i h => Below.heap_alloc w o i h
  refine ⟨_, rfl, ?_, ?_, ?_, ?_, ?_, (((((Below.refl _ w).alloc (by simp) a).alloc (by simp) b).alloc (by simp; omega) c).alloc (by simp; omega) d).alloc (by simp; omega) e⟩
  · rw [o _ _ _ (by simp; omega), o _ _ _ (by simp; omega), o _ _ _ (by simp; omega), o _ _ _ (by simp), heap_alloc_new]
  · rw [o _ _ _ (by simp), o _ _ _ (by simp), o _ _ _ (by simp)]
    have := heap_alloc_new (w.alloc a) b
    simpa using this
  · rw [o _ _ _ (by simp), o _ _ _ (by simp)]
    have := heap_alloc_new ((w.alloc a).alloc b) c
    simpa using this
  · rw [o _ _ _ (by simp)]
    have := heap_alloc_new (((w.alloc a).alloc b).alloc c) d
    simpa using this
  · have := heap_alloc_new ((((w.alloc a).alloc b).alloc c).alloc d) e
    simpa using this
theorem find_e (w : World) (a b c d e : Obj) : (((((w.alloc a).alloc b).alloc c).alloc d).alloc e).heap[w.heap.size + 1 + 1 + 1 + 1]? = some e := by
  obtain ⟨_, rfl, h⟩ := find_start w a b c d e
  exact h.2.2.2.2.1

/-- .. with the closure in its place. -/
theorem find_fs (W : Web) (x y : Nat) (w : World) (hx : x < W.count) (hc : W.count ≤ 10) : ∃ w6, (((((w.alloc (Obj.cells W.cells 102)).alloc (Obj.cells #[Value.int IntKind.i64 ↑y] 3)).alloc (Obj.cells #[Value.int IntKind.i64 ↑x] 3)).alloc (Obj.cells #[Value.slice (some { block := w.heap.size + 1 + 1, off := 0 }) 1 1] 25)).alloc (Obj.cells #[Value.nilFunc] 34)).setRow (w.heap.size + 1 + 1 + 1 + 1) #[.func (.func 76) #[] #[.pointer (some ⟨w.heap.size + 1 + 1 + 1, 0, none⟩), .pointer (some ⟨w.heap.size + 1, 0, none⟩), .pointer (some ⟨w.heap.size, 0, none⟩), .pointer (some ⟨w.heap.size + 1 + 1 + 1 + 1, 0, none⟩)]] = w6 ∧
    FS w6 (w.heap.size + 1 + 1 + 1) (w.heap.size + 1) w.heap.size (w.heap.size + 1 + 1 + 1 + 1) W y [x] ∧ Below w.heap.size w w6 := by
  obtain ⟨w5, e5, f0, f1, f2, f3, f4, hb5⟩ := find_start w (Obj.cells W.cells 102) (Obj.cells #[Value.int IntKind.i64 ↑y] 3) (Obj.cells #[Value.int IntKind.i64 ↑x] 3) (Obj.cells #[Value.slice (some { block := w.heap.size + 1 + 1, off := 0 }) 1 1] 25) (Obj.cells #[Value.nilFunc] 34)
  refine ⟨_, rfl, ?_, ?_⟩
  · rw [← e5]
    refine ⟨⟨w.heap.size + 1 + 1, 1, (setRow_other _ _ _ _ (by omega)).trans f3, by simp [ints], .inr ⟨w.heap.size + 1 + 1, 1, #[.int .i64 x], rfl, by omega, (setRow_other _ _ _ _ (by omega)).trans f2, by simp, by unfold maxLen; omega, by simp, by simp [ints]⟩⟩, (setRow_other _ _ _ _ (by omega)).trans f1, (setRow_other _ _ _ _ (by omega)).trans f0, setRow_heap _ _ _ _ _ _ f4⟩
  · rw [← e5]
    exact below_setRow hb5 (by omega) _

set_option maxHeartbeats 4000000 in
set_option maxRecDepth 100000 in
theorem find_any (W : Web) (x y : Nat) (w : World) (hc : W.count ≤ 10) (hx : x < W.count) (hy : y < W.count) :
    Calls Try.prog 61 #[.agg W.cells, .int .i64 x, .int .i64 y] w (FindRes w (dfs W y W.count [x])) := by
  obtain ⟨w6, e6, hfs, hb6⟩ := find_fs W x y w hx hc
  have HW := Lib.hid e6
  have HFS := Lib.hid hfs
  have HB := Lib.hid hb6
  have c0 := cell_of_one hfs.he
  clear e6 hfs hb6
  obtain ⟨r0, hr0⟩ : ∃ r0, r0 = dfs W y W.count [x] := ⟨_, rfl⟩
  rw [← hr0]
  have HR0 := Lib.hid hr0
  clear hr0
  go_enter Try.func61, Try.ntmps61
  go_wp2_with (first
    | (refine wpList_store_oneTo rfl 34 (.tmp 8) (.tmp 11) rfl rfl (w.heap.size + 1 + 1 + 1 + 1) _ rfl rfl rfl 34 .nilFunc ?hg rfl ?_; exact find_e _ _ _ _ _ _; refine wpList_world HW.out ?_)
    | fail)
  refine (extend_any W y w.heap.size (w.heap.size + 1 + 1 + 1) (w.heap.size + 1) w.heap.size (w.heap.size + 1 + 1 + 1 + 1) hc (by omega) (by omega) (by omega) (by omega) hy W.count [x] w6 (by simp) (by simp) (by simp [hx]) (by simp; omega) HFS.out).mono ?_
  rintro e w7 ⟨rfl, hfs7, hb7⟩
  rw [← HR0.out] at hfs7 ⊢
  have HB7 := Lib.hid (HB.out.trans hb7)
  clear hb7 c0 HW HFS
  cases r0 with
  | none =>
    clear hfs7
    go_wp2
    go_ret
    exact ⟨_, rfl, ⟨own_nil _ _, by simp [nth, ints], by simp [ints]⟩, fun _ => rfl, HB7.out⟩
  | some r =>
    obtain ⟨g, cap, hv, hown⟩ := hfs7.tv
    have c1 := cell_of_one hv
    have HO := Lib.hid hown
    clear hv hown hfs7
    go_wp2
    go_ret
    have h1 := HO.out
    obtain ⟨_, hnd, hlt⟩ := dfs_plain HR0.out.symm (by simp) (by simp) (by simp [hx])
    have hl := nodup_le _ _ hnd hlt
    refine ⟨_, rfl, ⟨?_, fun i => ?_, ?_⟩, (fun h => by simp at h), HB7.out⟩
    · rw [ints_length]
      exact own_base h1 (by omega)
    · rw [nth_ints]
      simp only [Option.getD_some]
      by_cases hi : i < r.length
      · have := hlt (r.getD i 0) (by simp [List.getD_eq_getElem?_getD, hi])
        omega
      · rw [show r.getD i 0 = 0 by simp [List.getD_eq_getElem?_getD, List.getElem?_eq_none (by omega : r.length ≤ i)]]
        omega
    · rw [ints_length]
      simp only [Option.getD_some]
      omega

end Go.Proofs.Ytaphmjccdokiiaa
