/- Who is open: the program's way and the reference's. -/
import Derived.Test.YtaphmjccdokiiaaAb
namespace Go.Proofs.Ytaphmjccdokiiaa
open Go.RowKit

theorem hasI_yes {xs : List Int} {x : Int} (h : hasI xs x = true) : ∃ i, i < xs.length ∧ nth xs i = x := of_decide_eq_true h
theorem hasI_mk {xs : List Int} {x : Int} {i : Nat} (hi : i < xs.length) (h : nth xs i = x) : hasI xs x = true := decide_eq_true ⟨i, hi, h⟩
/-- A parent is smaller. -/
theorem par_lt {P T : List (List Int)} (hn : IsNet P T) {c p : Nat} (hc : c < P.length) (h : hasI (row P c) (p : Int) = true) : p < c := by
  obtain ⟨i, hi, e⟩ := hasI_yes h
  have := (hn.par c hc).2.1 i hi
  omega

theorem dTo_keep {P : List (List Int)} {fr j q : Nat} (hq : q < fr + 1 + j) (m : Nat) : dTo P fr (j + m) q = dTo P fr j q := by
  induction m with
  | zero => rfl
  | succ m ih =>
    show (if q = fr + 1 + (j + m) then _ else dTo P fr (j + m) q) = _
    rw [if_neg (by omega), ih]

/-- Descendants, by their parents. -/
theorem desc_iff {P T : List (List Int)} (hn : IsNet P T) {fr s : Nat} (hs : s < P.length) :
    desc P fr s = true ↔ fr < s ∧ ∃ q : Nat, hasI (row P s) (q : Int) = true ∧ (q = fr ∨ desc P fr q = true) := by
  by_cases h : fr < s
  · obtain ⟨j, hj⟩ : ∃ j, s = fr + 1 + j := ⟨s - fr - 1, by omega⟩
    obtain ⟨m, hm⟩ : ∃ m, P.length - (fr + 1) = j + 1 + m := ⟨P.length - (fr + 1) - j - 1, by omega⟩
    have e1 : desc P fr s = hit (row P s) fr (dTo P fr j) (row P s).length := by
      unfold desc
      rw [hm, dTo_keep (by omega)]
      show (if s = fr + 1 + j then _ else _) = _
      rw [if_pos hj]
    have e2 : ∀ q, q < s → desc P fr q = dTo P fr j q := fun q hq => by
      unfold desc
      rw [hm, show j + 1 + m = j + (1 + m) by omega, dTo_keep (by omega)]
    rw [e1]
    unfold hit
    rw [decide_eq_true_eq]
    constructor
    · rintro ⟨t, ht, e⟩
      have hp := (hn.par s hs).2.1 t ht
      refine ⟨h, (nth (row P s) t).toNat, hasI_mk ht (by omega), ?_⟩
      rcases e with e | e
      · exact .inl (by omega)
      · exact .inr (by rw [e2 _ (by omega)]; exact e)
    · rintro ⟨_, q, hq, e⟩
      obtain ⟨t, ht, et⟩ := hasI_yes hq
      have hp := (hn.par s hs).2.1 t ht
      refine ⟨t, ht, ?_⟩
      rcases e with e | e
      · exact .inl (by omega)
      · exact .inr (by rw [e2 _ (by omega)] at e; rw [et]; simpa using e)
  · constructor
    · intro q
      unfold desc at q
      rw [dTo_old (by omega)] at q
      cases q
    · intro q; exact absurd q.1 h

theorem desc_par {P T : List (List Int)} (hn : IsNet P T) {p c : Nat} (hc : c < P.length) (h : hasI (row P c) (p : Int) = true) : desc P p c = true :=
  (desc_iff hn hc).2 ⟨par_lt hn hc h, p, h, .inl rfl⟩
theorem desc_trans {P T : List (List Int)} (hn : IsNet P T) {p c : Nat} (hc : c < P.length) (h : hasI (row P c) (p : Int) = true) : ∀ (n s : Nat), s ≤ n → s < P.length → desc P c s = true → desc P p s = true := by
  intro n
  induction n with
  | zero => intro s hs hsl hd; have := ((desc_iff hn hsl).1 hd).1; omega
  | succ n ih =>
    intro s hs hsl hd
    obtain ⟨h1, q, hq, e⟩ := (desc_iff hn hsl).1 hd
    have hqs := par_lt hn hsl hq
    have hpc := par_lt hn hc h
    refine (desc_iff hn hsl).2 ⟨by omega, q, hq, .inr ?_⟩
    rcases e with e | e
    · rw [e]; exact desc_par hn hc h
    · exact ih q (by omega) (by omega) e

theorem opnTo_mono {P : List (List Int)} {giv : Nat → Bool} {k : Nat} {p : Nat} (h : opnTo P giv k p = true) (m : Nat) : opnTo P giv (k + m) p = true := by
  induction m with
  | zero => exact h
  | succ m ih =>
    show (opnTo P giv (k + m) p || _) = true
    rw [ih, Bool.true_or]
theorem opnTo_keep {P T : List (List Int)} (hn : IsNet P T) {giv : Nat → Bool} {c : Nat} (hc : c < P.length) (m : Nat) (hm : m ≤ c + 1) : opnTo P giv (P.length - 1 - c + m) c = opnTo P giv (P.length - 1 - c) c := by
  induction m with
  | zero => rfl
  | succ m ih =>
    show (opnTo P giv (P.length - 1 - c + m) c || (_ && hasI (row P (P.length - 1 - (P.length - 1 - c + m))) (c : Int))) = _
    rw [ih (by omega)]
    have e : P.length - 1 - (P.length - 1 - c + m) = c - m := by omega
    rw [e]
    have : hasI (row P (c - m)) (c : Int) = false := by
      cases h : hasI (row P (c - m)) (c : Int)
      · rfl
      · have := par_lt hn (by omega) h; omega
    rw [this, Bool.and_false, Bool.or_false]

theorem opnTo_sound {P T : List (List Int)} (hn : IsNet P T) {set : List Int} : ∀ (k : Nat), k ≤ P.length → ∀ p, opnTo P (fun v : Nat => hasI set (v : Int)) k p = true → ∃ i, i < set.length ∧ (nth set i = (p : Int) ∨ (nth set i < P.length ∧ 0 ≤ nth set i) ∧ desc P p (nth set i).toNat = true) ∨ False := by
  intro k
  induction k with
  | zero =>
    intro _ p h
    obtain ⟨i, hi, e⟩ := hasI_yes h
    exact ⟨i, .inl ⟨hi, .inl e⟩⟩
  | succ k ih =>
    intro hk p h
    have h' : (opnTo P (fun v : Nat => hasI set (v : Int)) k p || (opnTo P (fun v : Nat => hasI set (v : Int)) k (P.length - 1 - k) && hasI (row P (P.length - 1 - k)) (p : Int))) = true := h
    simp only [Bool.or_eq_true, Bool.and_eq_true] at h'
    rcases h' with h' | ⟨h1, h2⟩
    · exact ih (by omega) p h'
    · obtain ⟨i, hi⟩ := ih (by omega) _ h1
      have hc : P.length - 1 - k < P.length := by omega
      rcases hi with ⟨hi, e⟩ | hi
      · refine ⟨i, .inl ⟨hi, .inr ?_⟩⟩
        rcases e with e | ⟨e1, e2⟩
        · rw [e]; exact ⟨⟨by omega, by omega⟩, by simpa using desc_par hn hc h2⟩
        · exact ⟨e1, desc_trans hn hc h2 _ _ (Nat.le_refl _) (by omega) e2⟩
      · exact hi.elim

theorem opnTo_up {P T : List (List Int)} (hn : IsNet P T) {giv : Nat → Bool} {c p : Nat} (hc : c < P.length) (h : opnTo P giv P.length c = true) (hp : hasI (row P c) (p : Int) = true) : opnTo P giv P.length p = true := by
  have h1 : opnTo P giv (P.length - 1 - c) c = true := by
    rw [← opnTo_keep hn hc (c + 1) (Nat.le_refl _), show P.length - 1 - c + (c + 1) = P.length by omega]; exact h
  have h2 : opnTo P giv (P.length - 1 - c + 1) p = true := by
    show (_ || (opnTo P giv (P.length - 1 - c) (P.length - 1 - (P.length - 1 - c)) && hasI (row P (P.length - 1 - (P.length - 1 - c))) (p : Int))) = true
    rw [show P.length - 1 - (P.length - 1 - c) = c by omega, h1, hp]; simp
  have := opnTo_mono h2 c
  rw [show P.length - 1 - c + 1 + c = P.length by omega] at this
  exact this
theorem opnTo_desc {P T : List (List Int)} (hn : IsNet P T) {giv : Nat → Bool} {p : Nat} : ∀ (n s : Nat), s ≤ n → s < P.length → opnTo P giv P.length s = true → desc P p s = true → opnTo P giv P.length p = true := by
  intro n
  induction n with
  | zero => intro s hs hsl _ hd; have := ((desc_iff hn hsl).1 hd).1; omega
  | succ n ih =>
    intro s hs hsl ho hd
    obtain ⟨h1, q, hq, e⟩ := (desc_iff hn hsl).1 hd
    have hqs := par_lt hn hsl hq
    have hoq := opnTo_up hn hsl ho hq
    rcases e with e | e
    · rw [← e]; exact hoq
    · exact ih q (by omega) (by omega) hoq e

theorem opn_is {P T : List (List Int)} (hn : IsNet P T) {set : List Int} (hok : okSet set P.length = true) (p : Nat) : (webOf P (fun v : Nat => hasI set (v : Int))).opn p = opnd P p set := by
  show opnTo P (fun v : Nat => hasI set (v : Int)) P.length p = opnd P p set
  rw [Bool.eq_iff_iff]
  unfold opnd
  rw [decide_eq_true_eq]
  constructor
  · intro h
    obtain ⟨i, hi⟩ := opnTo_sound hn P.length (Nat.le_refl _) p h
    rcases hi with ⟨hi, e⟩ | hi
    · exact ⟨i, hi, e.imp id (fun q => q.2)⟩
    · exact hi.elim
  · rintro ⟨i, hi, e⟩
    have hr := (of_decide_eq_true hok i hi).1
    have hg : ∀ q : Nat, nth set i = (q : Int) → opnTo P (fun v : Nat => hasI set (v : Int)) P.length q = true := fun q hq => by
      have := opnTo_mono (P := P) (giv := fun v : Nat => hasI set (v : Int)) (k := 0) (p := q) (hasI_mk hi hq) P.length
      rw [Nat.zero_add] at this
      exact this
    rcases e with e | e
    · exact hg p e
    · exact opnTo_desc hn _ (nth set i).toNat (Nat.le_refl _) (by omega) (hg _ (by omega)) e

end Go.Proofs.Ytaphmjccdokiiaa
