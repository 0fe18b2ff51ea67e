/- H5: Ab Bb Cb Db -/
import Derived.Test.YtghffnjnpgiicaaH4
import Derived.Test.YtghffnjnpgiicaaG6
/- The reference's Connected: the walk. -/
namespace Go.Proofs.Ytghffnjnpgiicaa
open Go.RowKit

/-- What Connected answers. -/
def ConnSays (P T : List (List Int)) (set : List Int) (y f : Nat) : Prop :=
  ∀ (tr : List Nat) (v : Value) (lo : Addr) (lb lf lc : Nat) (so : Option Addr) (sb sf sc : Nat) (w : World), NetAt w v P T → IntsAt w (some lo) lb lf (ints tr) → IntsAt w so sb sf set → tr ≠ [] → NoTwo P.length tr → P.length < f + tr.length →
    Calls Try.prog 29 #[v, .slice (some lo) tr.length lc, .int .i64 y, .slice so set.length sc] w fun e w' => e = .returned (.bool (conn P set y f tr)) ∧ Below w.heap.size w w'

theorem own_at {w : World} {B cap g : Nat} {tr : List Nat} (h : w.ownsRow B 3 1 (.slice (some ⟨g, 0, none⟩) tr.length cap) tr.length ((ints tr).map (Value.int .i64))) (ht : ∀ x ∈ tr, x < 10) (hl : tr.length ≤ 10) :
    IntsAt w (some ⟨g, 0, none⟩) g 0 (ints tr) ∧ tr.length ≤ cap := by
  refine ⟨FS.ints h ht hl, ?_⟩
  rcases h.2 with ⟨h2, _⟩ | ⟨g', cap', cur, e, hB, hh, hn, hm, hs, ht⟩
  · simp at h2
  · simp at e
    obtain ⟨rfl, rfl⟩ := e
    exact hn

theorem own_slice {B n : Nat} {w : World} {e : TypeId} {v : Value} {vs : List Value} (h : w.ownsRow B e 1 v n vs) (hp : 0 < n) : ∃ g cap, v = .slice (some ⟨g, 0, none⟩) n cap ∧ B ≤ g := by
  rcases h.2 with ⟨_, h2⟩ | ⟨g, cap, cur, h1, h2, h3⟩
  · omega
  · exact ⟨g, cap, h1, h2⟩

theorem news_all {w : World} {ad : Addr} {b o : Nat} {xs : List Int} (h : IntsAt w (some ad) b o xs) : ∀ j u, (xs.map (Value.int .i64))[j]? = some u → w.cell? (ad.add j) = some u := by
  have := news_at h ad rfl xs.length
  rw [List.take_length] at this
  exact this

set_option maxHeartbeats 4000000 in
set_option maxRecDepth 100000 in
theorem connected_any (P T : List (List Int)) (set : List Int) (y : Nat) (hn : IsNet P T) (hset : okSet set P.length = true) : ∀ f, ConnSays P T set y f := by
  intro f
  induction f with
  | zero => intro tr v lo lb lf lc so sb sf sc w _ _ _ _ hnt hf; exact absurd hnt.le (by omega)
  | succ f ih =>
    intro tr v lo lb lf lc so sb sf sc w h hX hS hne hnt hf
    obtain ⟨i0, hi, hz0, hz1, hz2⟩ := info_parts Try.info3
    have IH := Lib.hid ih
    have HNet := Lib.hid h
    have HN := Lib.hid hn
    have HSET := Lib.hid hset
    have HNT := Lib.hid hnt
    have hlen := hnt.le
    have hpos : 0 < tr.length := by cases tr with
      | nil => exact absurd rfl hne
      | cons a l => simp
    have hlS := hS.len
    obtain ⟨pa, b, o, pc, A, B, O, C, ta, b', o', tc, A', B', O', C', rfl, hP, hT⟩ := h.ex
    have h10 := hn.le
    obtain ⟨W0, hW0⟩ : ∃ W0, w.alloc (.cells #[.slice pa P.length pc, .slice ta T.length tc] 24) = W0 := ⟨_, rfl⟩
    have HW0 := Lib.hid hW0
    have hB0 : Below w.heap.size w W0 := by rw [← hW0]; exact (Below.refl _ _).alloc (Nat.le_refl _) _
    have HB0 := Lib.hid hB0
    have hs0 : W0.heap.size = w.heap.size + 1 := by rw [← hW0]; simp
    have HS0 := Lib.hid hs0
    have hb0 := heap_alloc_new w (.cells #[.slice pa P.length pc, .slice ta T.length tc] 24)
    rw [hW0] at hb0
    have HBX := Lib.hid hb0
    have hX0 := hX.below hB0 (Nat.le_refl _)
    have HX := Lib.hid hX0
    have HS := Lib.hid (hS.below hB0 (Nat.le_refl _))
    obtain ⟨e0, -⟩ := hX.ptr (by rw [ints_length]; exact hpos)
    obtain rfl : lo = ⟨lb, lf, none⟩ := Option.some.inj e0
    obtain ⟨last, hlast⟩ : ∃ last, tr.getD (tr.length - 1) 0 = last := ⟨_, rfl⟩
    have HLAST := Lib.hid hlast
    have cl := hX0.cell (tr.length - 1) (by rw [ints_length]; omega)
    rw [nth_ints, hlast, ← HW0.out] at cl
    have ht10 : ∀ x ∈ tr, x < 10 := fun x hx => by have := hnt.2 x hx; omega
    have HT10 := Lib.hid ht10
    have hl1 : ((tr.length : Int) - 1).toNat = tr.length - 1 := by omega
    have hl2 : (0 : Int) ≤ (tr.length : Int) - 1 := by omega
    have hl3 : (tr.length : Int) - 1 < (tr.length : Int) := by omega
    clear ih h hn hset hnt hW0 hB0 hb0 hX hS hX0 e0 hP hT hlast hs0 ht10
    by_cases hy : last = y
    · have hq : ((last : Int) == (y : Int)) = true := by rw [beq_iff_eq]; omega
      have HF := Lib.hid (conn_here (P := P) (set := set) (f := f) (HLAST.out.trans hy))
      clear hy
      go_enter Try.func29, Try.ntmps29
      go_wp2
      rw [HW0.out]
      go_ret
      exact ⟨ret_bool HF.out.symm, HB0.out⟩
    · have hq : ((last : Int) == (y : Int)) = false := by rw [beq_eq_false_iff_ne]; omega
      have HY := Lib.hid hy
      clear hy
      go_enter Try.func29, Try.ntmps29
      go_wp2
      rw [HW0.out]
      clear cl
      go_loopw [10, 11] (fun i _ wr => ∃ k : Nat, k ≤ P.length ∧ i = .int .i64 k ∧ connTo P set y f tr k = false ∧ Below W0.heap.size W0 wr) (fun i _ _ => P.length - (intOf i).toNat)
      case atStart => exact ⟨0, by omega, rfl, by simp only [connTo], Below.refl _ _⟩
      case round =>
        obtain ⟨k, hk, rfl, hc, hb⟩ := hrel
        have HC := Lib.hid hc
        have HB := Lib.hid hb
        clear hc hb
        obtain ⟨x0, x1, -, -⟩ := cells_of2 ((HB.out.block _ (lt_of_block HBX.out)).trans HBX.out)
        by_cases hlt : k < P.length
        · have hnews := news_all (HX.out.below HB.out (Nat.le_refl _))
          have HNEWS := Lib.hid hnews
          clear hnews
          go_wp2_with (at_builtin; (refine wpList_append_own _ rfl (.tmp 28) (.tmp 29) 25 rfl wr.heap.size 3 i0 (.int .i64 0) 1 8 Try.underlying25 hi hz0 hz1 hz2 rfl (by decide) _ 0 [] rfl (own_nil _ _) ⟨lb, lf, none⟩ tr.length lc ((ints tr).map (Value.int .i64)) rfl ?c1 HNEWS.out (oneCell_ints _) ?c3 ?c4 (Nat.le_refl _) ?_))
          case c1 => rw [List.length_map, ints_length]; omega
          case c3 => unfold maxLen; omega
          case c4 => omega
          intro v' w1 hown hg hnil
          obtain ⟨g1, cap1, rfl, hg1⟩ := own_slice hown hpos
          have HB1 := Lib.hid (HB.out.grown hg HB.out.size (fun j hj => by simp [Value.ownBlock] at hj))
          have HOWN := Lib.hid hown
          have hown1 := hown.alloc (.cells #[.int .i64 (k : Int)] 3)
          have HOWN1 := Lib.hid hown1
          have hsz1 := hg.size
          clear hown hg hnil hown1
          go_wp2_with (at_builtin; (refine wpList_append_own _ rfl (.tmp 31) (.tmp 33) 25 rfl wr.heap.size 3 i0 (.int .i64 0) 1 8 Try.underlying25 hi hz0 hz1 hz2 rfl (by decide) _ tr.length ((ints tr).map (Value.int .i64)) rfl HOWN1.out ⟨w1.heap.size, 0, none⟩ 1 1 [.int .i64 (k : Int)] rfl rfl (cell_one_new _ _ _) (by simp [Value.oneCell']) ?c6 ?c7 ?c8 ?_))
          case c6 => unfold maxLen; omega
          case c7 => omega
          case c8 => simp; omega
          intro v' w2 hown hg hnil
          obtain ⟨tr2, htr2⟩ : ∃ tr2, tr ++ [k] = tr2 := ⟨_, rfl⟩
          have HTR2 := Lib.hid htr2
          have hlen2 : tr.length + 1 = tr2.length := by rw [← htr2]; simp
          have hmap : (ints tr).map (Value.int .i64) ++ [.int .i64 (k : Int)] = (ints tr2).map (Value.int .i64) := by rw [← htr2, ints_append]; simp
          rw [hmap, hlen2] at hown
          have HLEN2 := Lib.hid hlen2
          obtain ⟨g2, cap2, rfl, hg2⟩ := own_slice hown (by omega)
          have hle2 : tr2.length ≤ 11 := by omega
          clear htr2 hlen2
          have s0 := HB.out.size
          have HB2 : Hid (Below W0.heap.size W0 w2) := (HB1.out.alloc (by omega) _).grown hg (by simp; omega) (fun j hj => by simp [Value.ownBlock] at hj; omega)
          have HOWN2 := Lib.hid hown
          have hs0 := HS0.out
          clear hown hg hnil hmap HOWN1 HNEWS x0 x1
          obtain ⟨y0, y1, -, -⟩ := cells_of2 ((HB2.out.block _ (lt_of_block HBX.out)).trans HBX.out)
          have HN2 := Lib.hid (HNet.out.below (HB0.out.trans (HB2.out.mono (by omega))) (Nat.le_refl _))
          have hc1 := has_any (ints tr) (k : Int) (some ⟨lb, lf, none⟩) lb lf lc w2 (HX.out.below HB2.out (Nat.le_refl _))
          rw [ints_length, hasI_ints] at hc1
          have HC1 := Lib.hid hc1
          clear hc1
          cases e1 : decide (k ∈ tr)
          · rw [e1] at HC1
            have hkt : ¬ k ∈ tr := of_decide_eq_false e1
            have HNT2 : Hid (NoTwo P.length tr2) := by rw [← HTR2.out]; exact HNT.out.snoc hlt hkt
            have hl10 := HNT2.out.le
            have hI2 := own_at HOWN2.out (fun x hx => by have := HNT2.out.2 x hx; omega) (by omega)
            have HI2 := Lib.hid hI2.1
            have hcap2 := hI2.2
            have hc2 := trail_any P T (.agg #[.slice pa P.length pc, .slice ta T.length tc]) (ints tr2) (some ⟨g2, 0, none⟩) g2 0 cap2 w2 HN2.out HI2.out (by rw [ints_length]; exact hcap2)
            rw [ints_length] at hc2
            have HE1 := Lib.hid e1
            clear e1 hI2 hkt
            cases e2 : okTrail P (ints tr2)
            · rw [e2] at hc2
              have HC2 := Lib.hid hc2
              have HS := Lib.hid (connTo_skip HC.out (show cond P set tr k = false by unfold cond; rw [HTR2.out, e2, Bool.and_false, Bool.false_and]))
              clear hc2 e2
              go_wp2_with fail
              refine HC1.out.mono ?_
              rintro e w' ⟨rfl, rfl⟩
              go_wp2_with fail
              refine HC2.out.mono ?_
              rintro e w3 ⟨rfl, hb3⟩
              have HB3 := Lib.hid (HB2.out.trans (hb3.mono HB2.out.size))
              clear hb3
              go_wp2
              go_roundw
              case rel => exact ⟨k + 1, by omega, by go_num, HS.out, HB3.out⟩
              case measure => simp [intOf]; omega
            · rw [e2] at hc2
              have HC2 := Lib.hid hc2
              have HE2 := Lib.hid e2
              clear hc2 e2
              go_wp2_with fail
              refine HC1.out.mono ?_
              rintro e w' ⟨rfl, rfl⟩
              go_wp2_with fail
              refine HC2.out.mono ?_
              rintro e w3 ⟨rfl, hb3⟩
              have HB3 := Lib.hid (HB2.out.trans (hb3.mono HB2.out.size))
              have HI3 := Lib.hid (HI2.out.below hb3 (Nat.le_refl _))
              clear hb3 y0 y1
              obtain ⟨y0, y1, -, -⟩ := cells_of2 ((HB3.out.block _ (lt_of_block HBX.out)).trans HBX.out)
              have HN3 := Lib.hid (HNet.out.below (HB0.out.trans (HB3.out.mono (by omega))) (Nat.le_refl _))
              have hok2 := okSet_ints HNT2.out
              have hc3 := refActive_any P T (.agg #[.slice pa P.length pc, .slice ta T.length tc]) (ints tr2) set (some ⟨g2, 0, none⟩) g2 0 cap2 so sb sf sc w3 HN3.out HN.out HI3.out (HS.out.below HB3.out (Nat.le_refl _)) hok2 HSET.out
              rw [ints_length] at hc3
              clear hok2
              cases e3 : actv P (ints tr2) set
              · rw [e3] at hc3
                have HC3 := Lib.hid hc3
                have HSK := Lib.hid (connTo_skip HC.out (show cond P set tr k = false by unfold cond; rw [HTR2.out, e3, Bool.and_false]))
                clear hc3 e3
                go_wp2_with fail
                refine HC3.out.mono ?_
                rintro e w4 ⟨rfl, hb4⟩
                have HB4 := Lib.hid (HB3.out.trans (hb4.mono HB3.out.size))
                clear hb4
                go_wp2
                go_roundw
                case rel => exact ⟨k + 1, by omega, by go_num, HSK.out, HB4.out⟩
                case measure => simp [intOf]; omega
              · rw [e3] at hc3
                have HC3 := Lib.hid hc3
                have HCD := Lib.hid (show cond P set tr k = true by unfold cond; rw [HTR2.out, e3, HE2.out, HE1.out]; rfl)
                clear hc3 e3
                go_wp2_with fail
                refine HC3.out.mono ?_
                rintro e w4 ⟨rfl, hb4⟩
                have HB4 := Lib.hid (HB3.out.trans (hb4.mono HB3.out.size))
                have HI4 := Lib.hid (HI3.out.below hb4 (Nat.le_refl _))
                clear hb4 y0 y1
                obtain ⟨y0, y1, -, -⟩ := cells_of2 ((HB4.out.block _ (lt_of_block HBX.out)).trans HBX.out)
                have hc4 := IH.out tr2 (.agg #[.slice pa P.length pc, .slice ta T.length tc]) ⟨g2, 0, none⟩ g2 0 cap2 so sb sf sc w4 (HNet.out.below (HB0.out.trans (HB4.out.mono (by omega))) (Nat.le_refl _)) HI4.out (HS.out.below HB4.out (Nat.le_refl _)) (fun q => by rw [q] at hcap2; have := HLEN2.out; rw [q] at this; simp at this) HNT2.out (by have := HLEN2.out; omega)
                cases e4 : conn P set y f tr2
                · rw [e4] at hc4
                  have HC4 := Lib.hid hc4
                  have HSK := Lib.hid (connTo_no HC.out (HTR2.out ▸ e4))
                  clear hc4 e4
                  go_wp2_with fail
                  refine HC4.out.mono ?_
                  rintro e w5 ⟨rfl, hb5⟩
                  have HB5 := Lib.hid (HB4.out.trans (hb5.mono HB4.out.size))
                  clear hb5
                  go_wp2
                  go_roundw
                  case rel => exact ⟨k + 1, by omega, by go_num, HSK.out, HB5.out⟩
                  case measure => simp [intOf]; omega
                · rw [e4] at hc4
                  have HC4 := Lib.hid hc4
                  have HF := Lib.hid (connTo_yes HCD.out (HTR2.out ▸ e4) hlt (by rw [HLAST.out]; exact HY.out))
                  clear hc4 e4
                  go_wp2_with fail
                  refine HC4.out.mono ?_
                  rintro e w5 ⟨rfl, hb5⟩
                  have HB5 := Lib.hid (HB4.out.trans (hb5.mono HB4.out.size))
                  clear hb5
                  go_wp2
                  go_ret
                  exact ⟨ret_bool HF.out.symm, HB0.out.trans (HB5.out.mono (by omega))⟩
          · rw [e1] at HC1
            have HSK := Lib.hid (connTo_skip HC.out (show cond P set tr k = false by unfold cond; rw [HTR2.out, e1]; rfl))
            clear e1
            go_wp2_with fail
            refine HC1.out.mono ?_
            rintro e w' ⟨rfl, rfl⟩
            go_wp2
            go_roundw
            case rel => exact ⟨k + 1, by omega, by go_num, HSK.out, HB2.out⟩
            case measure => simp [intOf]; omega
        · have hke : k = P.length := by omega
          have HF := Lib.hid (conn_end (hke ▸ HC.out) (by rw [HLAST.out]; exact HY.out))
          clear hke
          go_wp2
          go_ret
          exact ⟨ret_bool HF.out.symm, HB0.out.trans (HB.out.mono (by have := HS0.out; omega))⟩

end Go.Proofs.Ytghffnjnpgiicaa

/- Who is open: the program's way and the reference's. -/
namespace Go.Proofs.Ytghffnjnpgiicaa
open Go.RowKit

theorem hasI_yes {xs : List Int} {x : Int} (h : hasI xs x = true) : ∃ i, i < xs.length ∧ nth xs i = x := of_decide_eq_true h
theorem hasI_mk {xs : List Int} {x : Int} {i : Nat} (hi : i < xs.length) (h : nth xs i = x) : hasI xs x = true := decide_eq_true ⟨i, hi, h⟩
/-- A parent is smaller. -/
theorem par_lt {P T : List (List Int)} (hn : IsNet P T) {c p : Nat} (hc : c < P.length) (h : hasI (row P c) (p : Int) = true) : p < c := by
  obtain ⟨i, hi, e⟩ := hasI_yes h
  have := (hn.par c hc).2.1 i hi
  omega

theorem dTo_keep {P : List (List Int)} {fr j q : Nat} (hq : q < fr + 1 + j) (m : Nat) : dTo P fr (j + m) q = dTo P fr j q := by
  induction m with
  | zero => rfl
  | succ m ih =>
    show (if q = fr + 1 + (j + m) then _ else dTo P fr (j + m) q) = _
    rw [if_neg (by omega), ih]

/-- Descendants, by their parents. -/
theorem desc_iff {P T : List (List Int)} (hn : IsNet P T) {fr s : Nat} (hs : s < P.length) :
    desc P fr s = true ↔ fr < s ∧ ∃ q : Nat, hasI (row P s) (q : Int) = true ∧ (q = fr ∨ desc P fr q = true) := by
  by_cases h : fr < s
  · obtain ⟨j, hj⟩ : ∃ j, s = fr + 1 + j := ⟨s - fr - 1, by omega⟩
    obtain ⟨m, hm⟩ : ∃ m, P.length - (fr + 1) = j + 1 + m := ⟨P.length - (fr + 1) - j - 1, by omega⟩
    have e1 : desc P fr s = hit (row P s) fr (dTo P fr j) (row P s).length := by
      unfold desc
      rw [hm, dTo_keep (by omega)]
      show (if s = fr + 1 + j then _ else _) = _
      rw [if_pos hj]
    have e2 : ∀ q, q < s → desc P fr q = dTo P fr j q := fun q hq => by
      unfold desc
      rw [hm, show j + 1 + m = j + (1 + m) by omega, dTo_keep (by omega)]
    rw [e1]
    unfold hit
    rw [decide_eq_true_eq]
    constructor
    · rintro ⟨t, ht, e⟩
      have hp := (hn.par s hs).2.1 t ht
      refine ⟨h, (nth (row P s) t).toNat, hasI_mk ht (by omega), ?_⟩
      rcases e with e | e
      · exact .inl (by omega)
      · exact .inr (by rw [e2 _ (by omega)]; exact e)
    · rintro ⟨_, q, hq, e⟩
      obtain ⟨t, ht, et⟩ := hasI_yes hq
      have hp := (hn.par s hs).2.1 t ht
      refine ⟨t, ht, ?_⟩
      rcases e with e | e
      · exact .inl (by omega)
      · exact .inr (by rw [e2 _ (by omega)] at e; rw [et]; simpa using e)
  · constructor
    · intro q
      unfold desc at q
      rw [dTo_old (by omega)] at q
      cases q
    · intro q; exact absurd q.1 h

theorem desc_par {P T : List (List Int)} (hn : IsNet P T) {p c : Nat} (hc : c < P.length) (h : hasI (row P c) (p : Int) = true) : desc P p c = true :=
  (desc_iff hn hc).2 ⟨par_lt hn hc h, p, h, .inl rfl⟩
theorem desc_trans {P T : List (List Int)} (hn : IsNet P T) {p c : Nat} (hc : c < P.length) (h : hasI (row P c) (p : Int) = true) : ∀ (n s : Nat), s ≤ n → s < P.length → desc P c s = true → desc P p s = true := by
  intro n
  induction n with
  | zero => intro s hs hsl hd; have := ((desc_iff hn hsl).1 hd).1; omega
  | succ n ih =>
    intro s hs hsl hd
    obtain ⟨h1, q, hq, e⟩ := (desc_iff hn hsl).1 hd
    have hqs := par_lt hn hsl hq
    have hpc := par_lt hn hc h
    refine (desc_iff hn hsl).2 ⟨by omega, q, hq, .inr ?_⟩
    rcases e with e | e
    · rw [e]; exact desc_par hn hc h
    · exact ih q (by omega) (by omega) e

theorem opnTo_mono {P : List (List Int)} {giv : Nat → Bool} {k : Nat} {p : Nat} (h : opnTo P giv k p = true) (m : Nat) : opnTo P giv (k + m) p = true := by
  induction m with
  | zero => exact h
  | succ m ih =>
    show (opnTo P giv (k + m) p || _) = true
    rw [ih, Bool.true_or]
theorem opnTo_keep {P T : List (List Int)} (hn : IsNet P T) {giv : Nat → Bool} {c : Nat} (hc : c < P.length) (m : Nat) (hm : m ≤ c + 1) : opnTo P giv (P.length - 1 - c + m) c = opnTo P giv (P.length - 1 - c) c := by
  induction m with
  | zero => rfl
  | succ m ih =>
    show (opnTo P giv (P.length - 1 - c + m) c || (_ && hasI (row P (P.length - 1 - (P.length - 1 - c + m))) (c : Int))) = _
    rw [ih (by omega)]
    have e : P.length - 1 - (P.length - 1 - c + m) = c - m := by omega
    rw [e]
    have : hasI (row P (c - m)) (c : Int) = false := by
      cases h : hasI (row P (c - m)) (c : Int)
      · rfl
      · have := par_lt hn (by omega) h; omega
    rw [this, Bool.and_false, Bool.or_false]

theorem opnTo_sound {P T : List (List Int)} (hn : IsNet P T) {set : List Int} : ∀ (k : Nat), k ≤ P.length → ∀ p, opnTo P (fun v : Nat => hasI set (v : Int)) k p = true → ∃ i, i < set.length ∧ (nth set i = (p : Int) ∨ (nth set i < P.length ∧ 0 ≤ nth set i) ∧ desc P p (nth set i).toNat = true) ∨ False := by
  intro k
  induction k with
  | zero =>
    intro _ p h
    obtain ⟨i, hi, e⟩ := hasI_yes h
    exact ⟨i, .inl ⟨hi, .inl e⟩⟩
  | succ k ih =>
    intro hk p h
    have h' : (opnTo P (fun v : Nat => hasI set (v : Int)) k p || (opnTo P (fun v : Nat => hasI set (v : Int)) k (P.length - 1 - k) && hasI (row P (P.length - 1 - k)) (p : Int))) = true := h
    simp only [Bool.or_eq_true, Bool.and_eq_true] at h'
    rcases h' with h' | ⟨h1, h2⟩
    · exact ih (by omega) p h'
    · obtain ⟨i, hi⟩ := ih (by omega) _ h1
      have hc : P.length - 1 - k < P.length := by omega
      rcases hi with ⟨hi, e⟩ | hi
      · refine ⟨i, .inl ⟨hi, .inr ?_⟩⟩
        rcases e with e | ⟨e1, e2⟩
        · rw [e]; exact ⟨⟨by omega, by omega⟩, by simpa using desc_par hn hc h2⟩
        · exact ⟨e1, desc_trans hn hc h2 _ _ (Nat.le_refl _) (by omega) e2⟩
      · exact hi.elim

theorem opnTo_up {P T : List (List Int)} (hn : IsNet P T) {giv : Nat → Bool} {c p : Nat} (hc : c < P.length) (h : opnTo P giv P.length c = true) (hp : hasI (row P c) (p : Int) = true) : opnTo P giv P.length p = true := by
  have h1 : opnTo P giv (P.length - 1 - c) c = true := by
    rw [← opnTo_keep hn hc (c + 1) (Nat.le_refl _), show P.length - 1 - c + (c + 1) = P.length by omega]; exact h
  have h2 : opnTo P giv (P.length - 1 - c + 1) p = true := by
    show (_ || (opnTo P giv (P.length - 1 - c) (P.length - 1 - (P.length - 1 - c)) && hasI (row P (P.length - 1 - (P.length - 1 - c))) (p : Int))) = true
    rw [show P.length - 1 - (P.length - 1 - c) = c by omega, h1, hp]; simp
  have := opnTo_mono h2 c
  rw [show P.length - 1 - c + 1 + c = P.length by omega] at this
  exact this
theorem opnTo_desc {P T : List (List Int)} (hn : IsNet P T) {giv : Nat → Bool} {p : Nat} : ∀ (n s : Nat), s ≤ n → s < P.length → opnTo P giv P.length s = true → desc P p s = true → opnTo P giv P.length p = true := by
  intro n
  induction n with
  | zero => intro s hs hsl _ hd; have := ((desc_iff hn hsl).1 hd).1; omega
  | succ n ih =>
    intro s hs hsl ho hd
    obtain ⟨h1, q, hq, e⟩ := (desc_iff hn hsl).1 hd
    have hqs := par_lt hn hsl hq
    have hoq := opnTo_up hn hsl ho hq
    rcases e with e | e
    · rw [← e]; exact hoq
    · exact ih q (by omega) (by omega) hoq e

theorem opn_is {P T : List (List Int)} (hn : IsNet P T) {set : List Int} (hok : okSet set P.length = true) (p : Nat) : (webOf P (fun v : Nat => hasI set (v : Int))).opn p = opnd P p set := by
  show opnTo P (fun v : Nat => hasI set (v : Int)) P.length p = opnd P p set
  rw [Bool.eq_iff_iff]
  unfold opnd
  rw [decide_eq_true_eq]
  constructor
  · intro h
    obtain ⟨i, hi⟩ := opnTo_sound hn P.length (Nat.le_refl _) p h
    rcases hi with ⟨hi, e⟩ | hi
    · exact ⟨i, hi, e.imp id (fun q => q.2)⟩
    · exact hi.elim
  · rintro ⟨i, hi, e⟩
    have hr := (of_decide_eq_true hok i hi).1
    have hg : ∀ q : Nat, nth set i = (q : Int) → opnTo P (fun v : Nat => hasI set (v : Int)) P.length q = true := fun q hq => by
      have := opnTo_mono (P := P) (giv := fun v : Nat => hasI set (v : Int)) (k := 0) (p := q) (hasI_mk hi hq) P.length
      rw [Nat.zero_add] at this
      exact this
    rcases e with e | e
    · exact hg p e
    · exact opnTo_desc hn _ (nth set i).toNat (Nat.le_refl _) (by omega) (hg _ (by omega)) e

end Go.Proofs.Ytghffnjnpgiicaa

/- The program's search for a trail and the reference's: the same. -/
namespace Go.Proofs.Ytghffnjnpgiicaa
open Go.RowKit

/-- The web that the program makes of a network and a set. -/
def wb (P : List (List Int)) (set : List Int) : Web := webOf P (fun v : Nat => hasI set (v : Int))

/-- A trail that is active. -/
def Good (P : List (List Int)) (set : List Int) (tr : List Nat) : Prop := tr ≠ [] ∧ NoTwo P.length tr ∧ okTrail P (ints tr) = true ∧ actv P (ints tr) set = true

theorem at_ints (tr : List Nat) (i : Nat) : at' (ints tr) i = tr.getD i 0 := by unfold at'; rw [nth_ints]; simp
theorem getD_snoc_lt {tr : List Nat} {k i : Nat} (h : i < tr.length) : (tr ++ [k]).getD i 0 = tr.getD i 0 := by
  simp [List.getD_eq_getElem?_getD, List.getElem?_append_left h]
theorem getD_snoc_eq {tr : List Nat} {k : Nat} : (tr ++ [k]).getD tr.length 0 = k := by simp [List.getD_eq_getElem?_getD]

theorem adj_edge {P : List (List Int)} {set : List Int} {a b : Nat} (ha : a < P.length) (hb : b < P.length) : (wb P set).adj a b = edge P a b := by
  unfold Web.adj edge wb webOf
  simp [ha, hb]
theorem pass_is {P T : List (List Int)} (hn : IsNet P T) {set : List Int} (hok : okSet set P.length = true) {b v a : Nat} (hv : v < P.length) : (wb P set).pass b v a = passR P set b v a := by
  have h1 : ∀ u, (wb P set).par v u = hasI (row P v) (u : Int) := fun u => by simp [wb, webOf, hv]
  have h2 : (wb P set).opn v = opnd P v set := opn_is hn hok v
  have h3 : (wb P set).giv v = hasI set (v : Int) := rfl
  unfold Web.pass passR
  rw [h1, h1, h2, h3]

theorem trail_snoc {P : List (List Int)} {tr : List Nat} {k : Nat} (hnt : NoTwo P.length (tr ++ [k])) (hne : tr ≠ []) (ht : okTrail P (ints tr) = true) : okTrail P (ints (tr ++ [k])) = edge P (tr.getD (tr.length - 1) 0) k := by
  have hpos : 0 < tr.length := List.length_pos_iff.2 hne
  unfold okTrail at ht ⊢
  simp only [Bool.and_eq_true] at ht
  rw [okSet_ints hnt, Bool.true_and, Bool.eq_iff_iff, decide_eq_true_eq]
  have h2 := of_decide_eq_true ht.2
  simp only [at_ints, ints_length, List.length_append, List.length_cons, List.length_nil] at h2 ⊢
  constructor
  · intro h
    have := h (tr.length - 1) (by omega)
    rw [getD_snoc_lt (by omega), show tr.length - 1 + 1 = tr.length by omega, getD_snoc_eq] at this
    exact this
  · intro h i hi
    by_cases e : i = tr.length - 1
    · subst e
      rw [getD_snoc_lt (by omega), show tr.length - 1 + 1 = tr.length by omega, getD_snoc_eq]; exact h
    · rw [getD_snoc_lt (by omega), getD_snoc_lt (by omega)]; exact h2 i (by omega)
theorem actv_snoc {P : List (List Int)} {set : List Int} {tr : List Nat} {k : Nat} (hne : tr ≠ []) (ht : actv P (ints tr) set = true) : actv P (ints (tr ++ [k])) set = (decide (tr.length ≤ 1) || passR P set (tr.getD (tr.length - 2) 0) (tr.getD (tr.length - 1) 0) k) := by
  have hpos : 0 < tr.length := List.length_pos_iff.2 hne
  unfold actv at ht ⊢
  rw [Bool.eq_iff_iff, decide_eq_true_eq, Bool.or_eq_true, decide_eq_true_eq]
  have h2 := of_decide_eq_true ht
  simp only [at_ints, ints_length, List.length_append, List.length_cons, List.length_nil] at h2 ⊢
  constructor
  · intro h
    by_cases h1 : tr.length ≤ 1
    · exact .inl h1
    · right
      have := h (tr.length - 2) (by omega)
      rw [getD_snoc_lt (by omega), getD_snoc_lt (by omega), show tr.length - 2 + 1 = tr.length - 1 by omega, show tr.length - 2 + 2 = tr.length by omega, getD_snoc_eq] at this
      exact this
  · intro h i hi
    by_cases e : i = tr.length - 2
    · subst e
      rcases h with h | h
      · omega
      · rw [getD_snoc_lt (by omega), getD_snoc_lt (by omega), show tr.length - 2 + 1 = tr.length - 1 by omega, show tr.length - 2 + 2 = tr.length by omega, getD_snoc_eq]; exact h
    · rw [getD_snoc_lt (by omega), getD_snoc_lt (by omega), getD_snoc_lt (by omega)]; exact h2 i (by omega)

theorem cond_is {P T : List (List Int)} (hn : IsNet P T) {set : List Int} (hok : okSet set P.length = true) {tr : List Nat} (hg : Good P set tr) {k : Nat} (hk : k < P.length) : cond P set tr k = okNext (wb P set) tr k := by
  obtain ⟨hne, hnt, ht, ha⟩ := hg
  have hpos : 0 < tr.length := List.length_pos_iff.2 hne
  unfold cond okNext
  by_cases hm : k ∈ tr
  · simp [hm]
  · have hl : tr.getD (tr.length - 1) 0 < P.length := hnt.2 _ (by simp [List.getD_eq_getElem?_getD, show tr.length - 1 < tr.length by omega])
    rw [trail_snoc (hnt.snoc hk hm) hne ht, actv_snoc hne ha, adj_edge hl hk, pass_is hn hok hl]
    simp [hm]
theorem Good.snoc {P T : List (List Int)} (hn : IsNet P T) {set : List Int} (hok : okSet set P.length = true) {tr : List Nat} (hg : Good P set tr) {k : Nat} (hk : k < P.length) (h : okNext (wb P set) tr k = true) : Good P set (tr ++ [k]) := by
  rw [← cond_is hn hok hg hk] at h
  unfold cond at h
  simp only [Bool.and_eq_true, Bool.not_eq_true', decide_eq_false_iff_not] at h
  exact ⟨by simp, hg.2.1.snoc hk h.1.1, h.1.2, h.2⟩
theorem Good.one {P : List (List Int)} {set : List Int} {x : Nat} (hx : x < P.length) : Good P set [x] := by
  have hnt : NoTwo P.length [x] := ⟨by simp, fun y hy => by simp at hy; omega⟩
  refine ⟨by simp, hnt, ?_, ?_⟩
  · unfold okTrail
    rw [okSet_ints hnt, Bool.true_and]
    exact decide_eq_true (fun i hi => by simp [ints] at hi)
  · exact decide_eq_true (fun i hi => by simp [ints] at hi)

theorem conn_dfs {P T : List (List Int)} (hn : IsNet P T) {set : List Int} (hok : okSet set P.length = true) (y : Nat) : ∀ (f : Nat) (tr : List Nat), Good P set tr → conn P set y f tr = (dfs (wb P set) y f tr).isSome := by
  intro f
  induction f with
  | zero => intro tr _; simp [conn, dfs]
  | succ f ih =>
    intro tr hg
    rw [conn, dfs]
    by_cases e : tr.getD (tr.length - 1) 0 = y
    · rw [if_pos e, if_pos e]; rfl
    · rw [if_neg e, if_neg e]
      have aux : ∀ k, k ≤ P.length → connTo P set y f tr k = (dfsTo (wb P set) y f tr k).isSome := by
        intro k
        induction k with
        | zero => intro _; simp [connTo, dfsTo]
        | succ k ihk =>
          intro hk
          rw [connTo, dfsTo, ihk (by omega), cond_is hn hok hg (show k < P.length by omega)]
          cases dfsTo (wb P set) y f tr k with
          | some r => simp
          | none =>
            cases eo : okNext (wb P set) tr k
            · simp
            · simp [ih _ (hg.snoc hn hok (by omega) eo)]
      exact aux P.length (Nat.le_refl _)

/-- What is said of the trail that is found. -/
structure Found (P : List (List Int)) (set : List Int) (x y : Nat) (r : List Nat) : Prop where
  good : Good P set r
  first : r.getD 0 0 = x
  last : r.getD (r.length - 1) 0 = y

theorem sep_found {P T : List (List Int)} (hn : IsNet P T) {set : List Int} (hok : okSet set P.length = true) {x y : Nat} (hx : x < P.length) {r : List Nat} (h : sepTrail P set x y = some r) : Found P set x y r := by
  have := dfs_keeps (wb P set) y (fun tr => Good P set tr ∧ tr.getD 0 0 = x) (fun tr k hp hk ho => ⟨hp.1.snoc hn hok hk ho, by
    rw [getD_snoc_lt (List.length_pos_iff.2 hp.1.1)]; exact hp.2⟩) P.length [x] r ⟨Good.one hx, rfl⟩ h
  exact ⟨this.1.1, this.1.2, this.2⟩
theorem sep_conn {P T : List (List Int)} (hn : IsNet P T) {set : List Int} (hok : okSet set P.length = true) {x y : Nat} (hx : x < P.length) : conn P set y P.length [x] = (sepTrail P set x y).isSome :=
  conn_dfs hn hok y P.length [x] (Good.one hx)

end Go.Proofs.Ytghffnjnpgiicaa

/- Separated: what it refuses. -/
namespace Go.Proofs.Ytghffnjnpgiicaa
open Go.RowKit

/-- The arguments behind the network are right. -/
def okSep (n : Nat) (x y : Int) (set : List Int) : Bool := isVar x n && isVar y n && decide (x ≠ y) && okSet set n && !hasI set x && !hasI set y

set_option maxHeartbeats 2000000 in
set_option maxRecDepth 100000 in
theorem sep_noNet (P T : List (List Int)) (v a b c : Value) (w : World) (h : NetAt w v P T) (hn : isNet P T = false) :
    Calls Try.prog 27 #[v, a, b, c] w fun e w' => e = .returned (.tuple #[.bool false, .slice none 0 0, .int .i64 2]) ∧ Below w.heap.size w w' := by
  have HNet := Lib.hid h
  have HN' := Lib.hid hn
  obtain ⟨pa, b, o, pc, A, B, O, C, ta, b', o', tc, A', B', O', C', rfl, hP, hT⟩ := h.ex
  clear hP hT h hn
  go_enter Try.func27, Try.ntmps27
  go_wp2_with fail
  refine (isNetwork_any P T _ _ (HNet.out.alloc _)).mono ?_
  rw [HN'.out]
  rintro e w1 ⟨rfl, hb1⟩
  have HB1 := Lib.hid hb1
  clear hb1
  go_wp2
  go_ret3
  exact ⟨rfl, ((Below.refl _ _).alloc (Nat.le_refl _) _).trans (HB1.out.mono (by simp))⟩

set_option maxHeartbeats 2000000 in
set_option maxRecDepth 100000 in
theorem sep_bad (P T : List (List Int)) (v : Value) (x y : Int) (set : List Int) (so : Option Addr) (sb sf sc : Nat) (w : World) (h : NetAt w v P T) (hS : IntsAt w so sb sf set) (hn : isNet P T = true) (hbad : okSep P.length x y set = false) :
    Calls Try.prog 27 #[v, .int .i64 x, .int .i64 y, .slice so set.length sc] w fun e w' => e = .returned (.tuple #[.bool false, .slice none 0 0, .int .i64 2]) ∧ Below w.heap.size w w' := by
  have HNet := Lib.hid h
  have HN' := Lib.hid hn
  have HN := Lib.hid (of_decide_eq_true hn : IsNet P T)
  have HS := Lib.hid hS
  have HBAD := Lib.hid hbad
  obtain ⟨pa, b, o, pc, A, B, O, C, ta, b', o', tc, A', B', O', C', rfl, hP, hT⟩ := h.ex
  have h10 := HN.out.le
  clear hP hT h hn hS hbad
  go_enter Try.func27, Try.ntmps27
  go_wp2_with fail
  refine (isNetwork_any P T _ _ (HNet.out.alloc _)).mono ?_
  rw [HN'.out]
  rintro e w1 ⟨rfl, hb1⟩
  have HB1 := Lib.hid hb1
  have HBW := Lib.hid (((Below.refl _ w).alloc (Nat.le_refl _) (.cells #[.slice pa P.length pc, .slice ta T.length tc] 24)).trans (hb1.mono (by simp)))
  have c0 := (hb1.block w.heap.size (by simp)).trans (heap_alloc_new _ _)
  have C0 := Lib.hid c0
  obtain ⟨d0, d1, -, -⟩ := cells_of2 c0
  clear c0 hb1
  have hv1 := isVariable_any x P.length w1
  have hv2 := isVariable_any y P.length w1
  cases e1 : isVar x P.length
  · rw [e1] at hv1
    have HV1 := Lib.hid hv1
    clear hv1 hv2 e1
    go_wp2_with fail
    refine HV1.out.mono ?_
    rintro e w' ⟨rfl, rfl⟩
    go_wp2
    go_ret3
    exact ⟨rfl, HBW.out⟩
  · rw [e1] at hv1
    have HV1 := Lib.hid hv1
    have E1 := Lib.hid e1
    have hx := of_decide_eq_true e1
    clear hv1 e1
    cases e2 : isVar y P.length
    · rw [e2] at hv2
      have HV2 := Lib.hid hv2
      clear hv2 e2
      go_wp2_with fail
      refine HV1.out.mono ?_
      rintro e w' ⟨rfl, rfl⟩
      go_wp2_with fail
      refine HV2.out.mono ?_
      rintro e w' ⟨rfl, rfl⟩
      go_wp2
      go_ret3
      exact ⟨rfl, HBW.out⟩
    · rw [e2] at hv2
      have HV2 := Lib.hid hv2
      have E2 := Lib.hid e2
      have hy := of_decide_eq_true e2
      clear hv2 e2
      by_cases e3 : x = y
      · have q3 : (x == y) = true := by rw [beq_iff_eq]; exact e3
        clear e3
        go_wp2_with fail
        refine HV1.out.mono ?_
        rintro e w' ⟨rfl, rfl⟩
        go_wp2_with fail
        refine HV2.out.mono ?_
        rintro e w' ⟨rfl, rfl⟩
        go_wp2
        go_ret3
        exact ⟨rfl, HBW.out⟩
      · have q3 : (x == y) = false := by rw [beq_eq_false_iff_ne]; exact e3
        have E3 := Lib.hid e3
        obtain ⟨x, rfl⟩ := Int.eq_ofNat_of_zero_le hx.1
        obtain ⟨y, rfl⟩ := Int.eq_ofNat_of_zero_le hy.1
        have hx10 : x < 10 := by omega
        have hy10 : y < 10 := by omega
        clear e3
        go_wp2_with fail
        refine HV1.out.mono ?_
        rintro e w' ⟨rfl, rfl⟩
        go_wp2_with fail
        refine HV2.out.mono ?_
        rintro e w' ⟨rfl, rfl⟩
        go_wp2_with fail
        refine (toMembers_any set P.length so sb sf sc _ ((HS.out.alloc _).below HB1.out (Nat.le_refl _)) h10).mono ?_
        rintro e w2 ⟨⟨m, rfl, hm⟩, hb2⟩
        have HM := Lib.hid hm
        have HB2 := Lib.hid (HBW.out.trans (hb2.mono HBW.out.size))
        clear hb2 d0 d1 C0 hm
        obtain ⟨w3, e3, hm3, hb3⟩ := mem_world w2 m
        have HW3 := Lib.hid e3
        have HM3 := Lib.hid hm3
        have HB3 := Lib.hid (HB2.out.trans (hb3.mono HB2.out.size))
        clear e3 hm3 hb3
        have hcx : w3.cell? ⟨w2.heap.size, x, none⟩ = some (.bool (m x)) := by rw [cell_of_row _ _ _ _ _ _ HM3.out, memF, arrF_get hx10]
        have hcy : w3.cell? ⟨w2.heap.size, y, none⟩ = some (.bool (m y)) := by rw [cell_of_row _ _ _ _ _ _ HM3.out, memF, arrF_get hy10]
        cases e4 : okSet set P.length
        · clear hcx hcy
          go_wp2_with (first
            | (refine wpList_store_row rfl 97 (.tmp 12) (.tmp 40) rfl w2.heap.size (memF m) rfl rfl 97 _ (heap_alloc_new _ _) (info_mem _) (old_mem _) (memF_all _) (wpList_world HW3.out ?_)))
          go_ret3
          exact ⟨rfl, HB3.out⟩
        · obtain rfl := HM.out e4
          have E4 := Lib.hid e4
          clear e4
          simp only [] at hcx hcy
          cases e5 : hasI set (x : Int)
          · cases e6 : hasI set (y : Int)
            · exact absurd HBAD.out (by unfold okSep; rw [E1.out, E2.out, E4.out, e5, e6, decide_eq_true E3.out]; decide)
            · rw [e5] at hcx
              rw [e6] at hcy
              clear e5 e6
              go_wp2_with (first
                | (refine wpList_store_row rfl 97 (.tmp 12) (.tmp 40) rfl w2.heap.size (memF fun v => hasI set (v : Int)) rfl rfl 97 _ (heap_alloc_new _ _) (info_mem _) (old_mem _) (memF_all _) (wpList_world HW3.out ?_)))
              go_ret3
              exact ⟨rfl, HB3.out⟩
          · rw [e5] at hcx
            clear e5 hcy
            go_wp2_with (first
              | (refine wpList_store_row rfl 97 (.tmp 12) (.tmp 40) rfl w2.heap.size (memF fun v => hasI set (v : Int)) rfl rfl 97 _ (heap_alloc_new _ _) (info_mem _) (old_mem _) (memF_all _) (wpList_world HW3.out ?_)))
            go_ret3
            exact ⟨rfl, HB3.out⟩

end Go.Proofs.Ytghffnjnpgiicaa

