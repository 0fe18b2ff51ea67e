/- The search for a trail, as a plain function. -/
import Derived.Test.YtaphmjccdokiiaaV
namespace Go.Proofs.Ytaphmjccdokiiaa
open Go.RowKit

/-- May the trail go on to this variable? -/
def okNext (W : Web) (tr : List Nat) (nx : Nat) : Bool :=
  W.adj (tr.getD (tr.length - 1) 0) nx && !decide (nx ∈ tr) && (decide (tr.length ≤ 1) || W.pass (tr.getD (tr.length - 2) 0) (tr.getD (tr.length - 1) 0) nx)

mutual
/-- The first trail to y that goes on from this one. -/
def dfs (W : Web) (y : Nat) : Nat → List Nat → Option (List Nat)
  | 0, _ => none
  | f + 1, tr => if tr.getD (tr.length - 1) 0 = y then some tr else dfsTo W y f tr W.count
/-- .. among the first k variables that come next. -/
def dfsTo (W : Web) (y : Nat) (f : Nat) (tr : List Nat) : Nat → Option (List Nat)
  | 0 => none
  | k + 1 => match dfsTo W y f tr k with
    | some r => some r
    | none => if okNext W tr k then dfs W y f (tr ++ [k]) else none
end

/-- The list as ints. -/
def ints (tr : List Nat) : List Int := tr.map (fun x : Nat => (x : Int))
theorem ints_length (tr : List Nat) : (ints tr).length = tr.length := by simp [ints]
theorem nth_ints {tr : List Nat} {i : Nat} : nth (ints tr) i = ((tr.getD i 0 : Nat) : Int) := by
  unfold nth ints
  simp [List.getD_eq_getElem?_getD]
  cases tr[i]? <;> simp
theorem hasI_ints (tr : List Nat) (x : Nat) : hasI (ints tr) (x : Int) = decide (x ∈ tr) := by
  unfold hasI
  rw [Bool.eq_iff_iff]
  simp only [decide_eq_true_eq, nth_ints, ints_length]
  constructor
  · rintro ⟨i, hi, e⟩
    have : tr.getD i 0 ∈ tr := by simp [List.getD_eq_getElem?_getD, hi]
    rw [← (show tr.getD i 0 = x by omega)]; exact this
  · intro h
    obtain ⟨i, hi, e⟩ := List.getElem_of_mem h
    exact ⟨i, hi, by simp [List.getD_eq_getElem?_getD, hi, e]⟩
theorem ints_append (tr : List Nat) (x : Nat) : ints (tr ++ [x]) = ints tr ++ [(x : Int)] := by simp [ints]

/-- Different numbers below c: at most c. -/
theorem nodup_le : ∀ (c : Nat) (l : List Nat), l.Nodup → (∀ x ∈ l, x < c) → l.length ≤ c := by
  intro c
  induction c with
  | zero => intro l _ h; cases l with
    | nil => simp
    | cons x l => exact absurd (h x (by simp)) (by omega)
  | succ c ih =>
    intro l hd h
    have h1 := ih (l.filter (fun x => decide (x ≠ c))) (hd.filter _) (fun x hx => by
      rw [List.mem_filter] at hx
      have := h x hx.1
      have := of_decide_eq_true hx.2
      omega)
    have h2 : l.length ≤ (l.filter (fun x => decide (x ≠ c))).length + 1 := by
      clear h1 ih h
      induction l with
      | nil => simp
      | cons x l ihl =>
        rw [List.nodup_cons] at hd
        by_cases e : x = c
        · subst e
          have : l.filter (fun y => decide (y ≠ x)) = l := by
            rw [List.filter_eq_self]
            intro y hy
            exact decide_eq_true (fun e => hd.1 (e ▸ hy))
          rw [List.filter_cons, if_neg (by simp), this]; simp
        · have := ihl hd.2
          rw [List.filter_cons, if_pos (by simpa using e)]; simp only [List.length_cons]; omega
    omega

/-- What the search for a trail has in memory. -/
structure FS (w : World) (Bt By Bw Be : Nat) (W : Web) (y : Nat) (tr : List Nat) : Prop where
  tv : ∃ g cap, w.heap[Bt]? = some (.cells #[.slice (some ⟨g, 0, none⟩) tr.length cap] 25 (0, 0)) ∧ w.ownsRow (By + 1) 3 1 (.slice (some ⟨g, 0, none⟩) tr.length cap) tr.length ((ints tr).map (Value.int .i64))
  hy : w.heap[By]? = some (.cells #[.int .i64 (y : Int)] 3 (0, 0))
  hw : w.heap[Bw]? = some (.cells W.cells 102 (0, 0))
  he : w.heap[Be]? = some (.cells #[.func (.func 76) #[] #[.pointer (some ⟨Bt, 0, none⟩), .pointer (some ⟨By, 0, none⟩), .pointer (some ⟨Bw, 0, none⟩), .pointer (some ⟨Be, 0, none⟩)]] 34 (0, 0))

theorem FS.below {M : Nat} {w w' : World} {Bt By Bw Be : Nat} {W : Web} {y : Nat} {tr : List Nat} (h : FS w Bt By Bw Be W y tr) (hb : Below M w w') (hM : w.heap.size ≤ M) : FS w' Bt By Bw Be W y tr := by
  obtain ⟨g, cap, h1, h2⟩ := h.tv
  exact ⟨⟨g, cap, (hb.block _ (by have := lt_of_block h1; omega)).trans h1, ownsRow_below h2 hb hM⟩, (hb.block _ (by have := lt_of_block h.hy; omega)).trans h.hy, (hb.block _ (by have := lt_of_block h.hw; omega)).trans h.hw, (hb.block _ (by have := lt_of_block h.he; omega)).trans h.he⟩

theorem ownsRow_take {w : World} {B g n cap k : Nat} {xs : List Value} (h : w.ownsRow B 3 1 (.slice (some ⟨g, 0, none⟩) n cap) n xs) (hk : k ≤ n) : w.ownsRow B 3 1 (.slice (some ⟨g, 0, none⟩) k cap) k (xs.take k) := by
  obtain ⟨h1, h2⟩ := h
  refine ⟨by simp; omega, ?_⟩
  rcases h2 with ⟨h2, _⟩ | ⟨g', cap', cur, e, hB, hh, hn, hm, hs, ht⟩
  · simp at h2
  · simp at e
    obtain ⟨rfl, rfl⟩ := e
    refine .inr ⟨g, cap, cur, rfl, hB, hh, by omega, hm, hs, ?_⟩
    rw [← ht, List.take_take]
    congr 1; omega

/-- The trail's ints, where they lie. -/
theorem FS.ints {w : World} {B g cap : Nat} {tr : List Nat} (h : w.ownsRow B 3 1 (.slice (some ⟨g, 0, none⟩) tr.length cap) tr.length ((ints tr).map (Value.int .i64))) (ht : ∀ x ∈ tr, x < 10) (hl : tr.length ≤ 10) :
    IntsAt w (some ⟨g, 0, none⟩) g 0 (ints tr) := by
  have hg := (h.lt g (by simp [Value.ownBlock])).2
  refine ⟨fun _ => ⟨rfl, hg⟩, fun i hi => ?_, by rw [ints_length]; omega, fun i => ?_⟩
  · rw [ints_length] at hi
    have := h.cellAt i (by omega)
    rw [Nat.zero_add, this, nth_map _ _ (by rw [ints_length]; exact hi)]
  · rw [nth_ints]
    by_cases hi : i < tr.length
    · have := ht (tr.getD i 0) (by simp [List.getD_eq_getElem?_getD, hi])
      omega
    · rw [show tr.getD i 0 = 0 by simp [List.getD_eq_getElem?_getD, List.getElem?_eq_none (by omega : tr.length ≤ i)]]
      omega

end Go.Proofs.Ytaphmjccdokiiaa
