/- The colourings that are worth a try. -/
import Derived.Test.YtjibdolhipddbaaB2
namespace Go.Proofs.Ytjibdolhipddbaa
open Go.RowKit

def fixB (x : List Int) : Bool := sameB (nth x) (rnF (nth x))
def ext1 (key : Nat) (x : List Int) : Nat → List (List Int)
  | 0 => []
  | e + 1 => ext1 key x e ++ if fixB (x.set key ((e + 1 : Nat) : Int)) = true then [x.set key ((e + 1 : Nat) : Int)] else []
def ext (key d : Nat) (L : List (List Int)) : Nat → List (List Int)
  | 0 => []
  | n + 1 => ext key d L n ++ ext1 key (row L n) d
def cls (d : Nat) : Nat → List (List Int)
  | 0 => [[0, 0, 0, 0, 0, 0]]
  | k + 1 => ext k d (cls d k) (cls d k).length
/-- The list that the program makes. -/
def clsL (k d : Nat) : List (List Int) := flt k d (cls d k) (cls d k).length

theorem ext1_len (key : Nat) (x : List Int) : ∀ e, (ext1 key x e).length ≤ e
  | 0 => Nat.le_refl _
  | e + 1 => by
    have := ext1_len key x e
    rw [ext1, List.length_append]
    split <;> simp <;> omega
theorem ext_len (key d : Nat) (L : List (List Int)) : ∀ n, (ext key d L n).length ≤ n * d
  | 0 => by simp [ext]
  | n + 1 => by
    have h1 := ext_len key d L n
    have h2 := ext1_len key (row L n) d
    rw [ext, List.length_append, Nat.add_mul]
    omega

/-- What is true of all of them. -/
def goodX (x : List Int) : Bool := decide (x.length = 6) && (List.range 6).all fun i => decide (0 ≤ nth x i) && decide (nth x i ≤ 4)
def goodC (k d : Nat) : Bool := decide (0 < (cls d k).length) && decide ((cls d k).length ≤ 4096) && (cls d k).all goodX
theorem good_all : (List.range 7).all (fun k => (List.range 4).all fun d => goodC k (d + 1)) = true := by decide +kernel

theorem good_cls {k d : Nat} (hk : k ≤ 6) (hd : 1 ≤ d) (hd4 : d ≤ 4) : 0 < (cls d k).length ∧ (cls d k).length ≤ 4096 ∧ ∀ x ∈ cls d k, x.length = 6 ∧ ∀ i, i < 6 → 0 ≤ nth x i ∧ nth x i ≤ 4 := by
  have h := good_all
  rw [List.all_eq_true] at h
  have h := h k (List.mem_range.2 (by omega))
  rw [List.all_eq_true] at h
  have h := h (d - 1) (List.mem_range.2 (by omega))
  rw [show d - 1 + 1 = d by omega, goodC, Bool.and_eq_true, Bool.and_eq_true, decide_eq_true_eq, decide_eq_true_eq, List.all_eq_true] at h
  refine ⟨h.1.1, h.1.2, fun x hx => ?_⟩
  have hx := h.2 x hx
  rw [goodX, Bool.and_eq_true, decide_eq_true_eq, List.all_eq_true] at hx
  refine ⟨hx.1, fun i hi => ?_⟩
  have := hx.2 i (List.mem_range.2 hi)
  simpa using this

end Go.Proofs.Ytjibdolhipddbaa
