/- The reference's Connected: the walk. -/
import Derived.Test.YtaphmjccdokiiaaZa
namespace Go.Proofs.Ytaphmjccdokiiaa
open Go.RowKit

/-- What Connected answers. -/
def ConnSays (P T : List (List Int)) (set : List Int) (y f : Nat) : Prop :=
  ∀ (tr : List Nat) (v : Value) (lo : Addr) (lb lf lc : Nat) (so : Option Addr) (sb sf sc : Nat) (w : World), NetAt w v P T → IntsAt w (some lo) lb lf (ints tr) → IntsAt w so sb sf set → tr ≠ [] → NoTwo P.length tr → P.length < f + tr.length →
    Calls Try.prog 29 #[v, .slice (some lo) tr.length lc, .int .i64 y, .slice so set.length sc] w fun e w' => e = .returned (.bool (conn P set y f tr)) ∧ Below w.heap.size w w'

theorem own_at {w : World} {B cap g : Nat} {tr : List Nat} (h : w.ownsRow B 3 1 (.slice (some ⟨g, 0, none⟩) tr.length cap) tr.length ((ints tr).map (Value.int .i64))) (ht : ∀ x ∈ tr, x < 10) (hl : tr.length ≤ 10) :
    IntsAt w (some ⟨g, 0, none⟩) g 0 (ints tr) ∧ tr.length ≤ cap := by
  refine ⟨FS.ints h ht hl, ?_⟩
  rcases h.2 with ⟨h2, _⟩ | ⟨g', cap', cur, e, hB, hh, hn, hm, hs, ht⟩
  · simp at h2
  · simp at e
    obtain ⟨rfl, rfl⟩ := e
    exact hn

theorem own_slice {B n : Nat} {w : World} {e : TypeId} {v : Value} {vs : List Value} (h : w.ownsRow B e 1 v n vs) (hp : 0 < n) : ∃ g cap, v = .slice (some ⟨g, 0, none⟩) n cap ∧ B ≤ g := by
  rcases h.2 with ⟨_, h2⟩ | ⟨g, cap, cur, h1, h2, h3⟩
  · omega
  · exact ⟨g, cap, h1, h2⟩

theorem news_all {w : World} {ad : Addr} {b o : Nat} {xs : List Int} (h : IntsAt w (some ad) b o xs) : ∀ j u, (xs.map (Value.int .i64))[j]? = some u → w.cell? (ad.add j) = some u := by
  have := news_at h ad rfl xs.length
  rw [List.take_length] at this
  exact this

set_option maxHeartbeats 4000000 in
set_option maxRecDepth 100000 in
theorem connected_any (P T : List (List Int)) (set : List Int) (y : Nat) (hn : IsNet P T) (hset : okSet set P.length = true) : ∀ f, ConnSays P T set y f := by
  intro f
  induction f with
  | zero => intro tr v lo lb lf lc so sb sf sc w _ _ _ _ hnt hf; exact absurd hnt.le (by omega)
  | succ f ih =>
    intro tr v lo lb lf lc so sb sf sc w h hX hS hne hnt hf
    obtain ⟨i0, hi, hz0, hz1, hz2⟩ := info_parts Try.info3
    have IH := Lib.hid ih
    have HNet := Lib.hid h
    have HN := Lib.hid hn
    have HSET := Lib.hid hset
    have HNT := Lib.hid hnt
    have hlen := hnt.le
    have hpos : 0 < tr.length := by cases tr with
      | nil => exact absurd rfl hne
      | cons a l => simp
    have hlS := hS.len
    obtain ⟨pa, b, o, pc, A, B, O, C, ta, b', o', tc, A', B', O', C', rfl, hP, hT⟩ := h.ex
    have h10 := hn.le
    obtain ⟨W0, hW0⟩ : ∃ W0, w.alloc (.cells #[.slice pa P.length pc, .slice ta T.length tc] 24) = W0 := ⟨_, rfl⟩
    have HW0 := Lib.hid hW0
    have hB0 : Below w.heap.size w W0 := by rw [← hW0]; exact (Below.refl _ _).alloc (Nat.le_refl _) _
    have HB0 := Lib.hid hB0
    have hs0 : W0.heap.size = w.heap.size + 1 := by rw [← hW0]; simp
    have HS0 := Lib.hid hs0
    have hb0 := heap_alloc_new w (.cells #[.slice pa P.length pc, .slice ta T.length tc] 24)
    rw [hW0] at hb0
    have HBX := Lib.hid hb0
    have hX0 := hX.below hB0 (Nat.le_refl _)
    have HX := Lib.hid hX0
    have HS := Lib.hid (hS.below hB0 (Nat.le_refl _))
    obtain ⟨e0, -⟩ := hX.ptr (by rw [ints_length]; exact hpos)
    obtain rfl : lo = ⟨lb, lf, none⟩ := Option.some.inj e0
    obtain ⟨last, hlast⟩ : ∃ last, tr.getD (tr.length - 1) 0 = last := ⟨_, rfl⟩
    have HLAST := Lib.hid hlast
    have cl := hX0.cell (tr.length - 1) (by rw [ints_length]; omega)
    rw [nth_ints, hlast, ← HW0.out] at cl
    have ht10 : ∀ x ∈ tr, x < 10 := fun x hx => by have := hnt.2 x hx; omega
    have HT10 := Lib.hid ht10
    have hl1 : ((tr.length : Int) - 1).toNat = tr.length - 1 := by omega
    have hl2 : (0 : Int) ≤ (tr.length : Int) - 1 := by omega
    have hl3 : (tr.length : Int) - 1 < (tr.length : Int) := by omega
    clear ih h hn hset hnt hW0 hB0 hb0 hX hS hX0 e0 hP hT hlast hs0 ht10
    by_cases hy : last = y
    · have hq : ((last : Int) == (y : Int)) = true := by rw [beq_iff_eq]; omega
      have HF := Lib.hid (conn_here (P := P) (set := set) (f := f) (HLAST.out.trans hy))
      clear hy
      go_enter Try.func29, Try.ntmps29
      go_wp2
      rw [HW0.out]
      go_ret
      exact ⟨ret_bool HF.out.symm, HB0.out⟩
    · have hq : ((last : Int) == (y : Int)) = false := by rw [beq_eq_false_iff_ne]; omega
      have HY := Lib.hid hy
      clear hy
      go_enter Try.func29, Try.ntmps29
      go_wp2
      rw [HW0.out]
      clear cl
      go_loopw [10, 11] (fun i _ wr => ∃ k : Nat, k ≤ P.length ∧ i = .int .i64 k ∧ connTo P set y f tr k = false ∧ Below W0.heap.size W0 wr) (fun i _ _ => P.length - (intOf i).toNat)
      case atStart => exact ⟨0, by omega, rfl, by simp only [connTo], Below.refl _ _⟩
      case round =>
        obtain ⟨k, hk, rfl, hc, hb⟩ := hrel
        have HC := Lib.hid hc
        have HB := Lib.hid hb
        clear hc hb
        obtain ⟨x0, x1, -, -⟩ := cells_of2 ((HB.out.block _ (lt_of_block HBX.out)).trans HBX.out)
        by_cases hlt : k < P.length
        · have hnews := news_all (HX.out.below HB.out (Nat.le_refl _))
          have HNEWS := Lib.hid hnews
          clear hnews
          go_wp2_with (at_builtin; (refine wpList_append_own _ rfl (.tmp 28) (.tmp 29) 25 rfl wr.heap.size 3 i0 (.int .i64 0) 1 8 Try.underlying25 hi hz0 hz1 hz2 rfl (by decide) _ 0 [] rfl (own_nil _ _) ⟨lb, lf, none⟩ tr.length lc ((ints tr).map (Value.int .i64)) rfl ?c1 HNEWS.out (oneCell_ints _) ?c3 ?c4 (Nat.le_refl _) ?_))
          case c1 => rw [List.length_map, ints_length]; omega
          case c3 => unfold maxLen; omega
          case c4 => omega
          intro v' w1 hown hg hnil
          obtain ⟨g1, cap1, rfl, hg1⟩ := own_slice hown hpos
          have HB1 := Lib.hid (HB.out.grown hg HB.out.size (fun j hj => by simp [Value.ownBlock] at hj))
          have HOWN := Lib.hid hown
          have hown1 := hown.alloc (.cells #[.int .i64 (k : Int)] 3)
          have HOWN1 := Lib.hid hown1
          have hsz1 := hg.size
          clear hown hg hnil hown1
          go_wp2_with (at_builtin; (refine wpList_append_own _ rfl (.tmp 31) (.tmp 33) 25 rfl wr.heap.size 3 i0 (.int .i64 0) 1 8 Try.underlying25 hi hz0 hz1 hz2 rfl (by decide) _ tr.length ((ints tr).map (Value.int .i64)) rfl HOWN1.out ⟨w1.heap.size, 0, none⟩ 1 1 [.int .i64 (k : Int)] rfl rfl (cell_one_new _ _ _) (by simp [Value.oneCell']) ?c6 ?c7 ?c8 ?_))
          case c6 => unfold maxLen; omega
          case c7 => omega
          case c8 => simp; omega
          intro v' w2 hown hg hnil
          obtain ⟨tr2, htr2⟩ : ∃ tr2, tr ++ [k] = tr2 := ⟨_, rfl⟩
          have HTR2 := Lib.hid htr2
          have hlen2 : tr.length + 1 = tr2.length := by rw [← htr2]; simp
          have hmap : (ints tr).map (Value.int .i64) ++ [.int .i64 (k : Int)] = (ints tr2).map (Value.int .i64) := by rw [← htr2, ints_append]; simp
          rw [hmap, hlen2] at hown
          have HLEN2 := Lib.hid hlen2
          obtain ⟨g2, cap2, rfl, hg2⟩ := own_slice hown (by omega)
          have hle2 : tr2.length ≤ 11 := by omega
          clear htr2 hlen2
          have s0 := HB.out.size
          have HB2 : Hid (Below W0.heap.size W0 w2) := (HB1.out.alloc (by omega) _).grown hg (by simp; omega) (fun j hj => by simp [Value.ownBlock] at hj; omega)
          have HOWN2 := Lib.hid hown
          have hs0 := HS0.out
          clear hown hg hnil hmap HOWN1 HNEWS x0 x1
          obtain ⟨y0, y1, -, -⟩ := cells_of2 ((HB2.out.block _ (lt_of_block HBX.out)).trans HBX.out)
          have HN2 := Lib.hid (HNet.out.below (HB0.out.trans (HB2.out.mono (by omega))) (Nat.le_refl _))
          have hc1 := has_any (ints tr) (k : Int) (some ⟨lb, lf, none⟩) lb lf lc w2 (HX.out.below HB2.out (Nat.le_refl _))
          rw [ints_length, hasI_ints] at hc1
          have HC1 := Lib.hid hc1
          clear hc1
          cases e1 : decide (k ∈ tr)
          · rw [e1] at HC1
            have hkt : ¬ k ∈ tr := of_decide_eq_false e1
            have HNT2 : Hid (NoTwo P.length tr2) := by rw [← HTR2.out]; exact HNT.out.snoc hlt hkt
            have hl10 := HNT2.out.le
            have hI2 := own_at HOWN2.out (fun x hx => by have := HNT2.out.2 x hx; omega) (by omega)
            have HI2 := Lib.hid hI2.1
            have hcap2 := hI2.2
            have hc2 := trail_any P T (.agg #[.slice pa P.length pc, .slice ta T.length tc]) (ints tr2) (some ⟨g2, 0, none⟩) g2 0 cap2 w2 HN2.out HI2.out (by rw [ints_length]; exact hcap2)
            rw [ints_length] at hc2
            have HE1 := Lib.hid e1
            clear e1 hI2 hkt
            cases e2 : okTrail P (ints tr2)
            · rw [e2] at hc2
              have HC2 := Lib.hid hc2
              have HS := Lib.hid (connTo_skip HC.out (show cond P set tr k = false by unfold cond; rw [HTR2.out, e2, Bool.and_false, Bool.false_and]))
              clear hc2 e2
              go_wp2_with fail
              refine HC1.out.mono ?_
              rintro e w' ⟨rfl, rfl⟩
              go_wp2_with fail
              refine HC2.out.mono ?_
              rintro e w3 ⟨rfl, hb3⟩
              have HB3 := Lib.hid (HB2.out.trans (hb3.mono HB2.out.size))
              clear hb3
              go_wp2
              go_roundw
              case rel => exact ⟨k + 1, by omega, by go_num, HS.out, HB3.out⟩
              case measure => simp [intOf]; omega
            · rw [e2] at hc2
              have HC2 := Lib.hid hc2
              have HE2 := Lib.hid e2
              clear hc2 e2
              go_wp2_with fail
              refine HC1.out.mono ?_
              rintro e w' ⟨rfl, rfl⟩
              go_wp2_with fail
              refine HC2.out.mono ?_
              rintro e w3 ⟨rfl, hb3⟩
              have HB3 := Lib.hid (HB2.out.trans (hb3.mono HB2.out.size))
              have HI3 := Lib.hid (HI2.out.below hb3 (Nat.le_refl _))
              clear hb3 y0 y1
              obtain ⟨y0, y1, -, -⟩ := cells_of2 ((HB3.out.block _ (lt_of_block HBX.out)).trans HBX.out)
              have HN3 := Lib.hid (HNet.out.below (HB0.out.trans (HB3.out.mono (by omega))) (Nat.le_refl _))
              have hok2 := okSet_ints HNT2.out
              have hc3 := refActive_any P T (.agg #[.slice pa P.length pc, .slice ta T.length tc]) (ints tr2) set (some ⟨g2, 0, none⟩) g2 0 cap2 so sb sf sc w3 HN3.out HN.out HI3.out (HS.out.below HB3.out (Nat.le_refl _)) hok2 HSET.out
              rw [ints_length] at hc3
              clear hok2
              cases e3 : actv P (ints tr2) set
              · rw [e3] at hc3
                have HC3 := Lib.hid hc3
                have HSK := Lib.hid (connTo_skip HC.out (show cond P set tr k = false by unfold cond; rw [HTR2.out, e3, Bool.and_false]))
                clear hc3 e3
                go_wp2_with fail
                refine HC3.out.mono ?_
                rintro e w4 ⟨rfl, hb4⟩
                have HB4 := Lib.hid (HB3.out.trans (hb4.mono HB3.out.size))
                clear hb4
                go_wp2
                go_roundw
                case rel => exact ⟨k + 1, by omega, by go_num, HSK.out, HB4.out⟩
                case measure => simp [intOf]; omega
              · rw [e3] at hc3
                have HC3 := Lib.hid hc3
                have HCD := Lib.hid (show cond P set tr k = true by unfold cond; rw [HTR2.out, e3, HE2.out, HE1.out]; rfl)
                clear hc3 e3
                go_wp2_with fail
                refine HC3.out.mono ?_
                rintro e w4 ⟨rfl, hb4⟩
                have HB4 := Lib.hid (HB3.out.trans (hb4.mono HB3.out.size))
                have HI4 := Lib.hid (HI3.out.below hb4 (Nat.le_refl _))
                clear hb4 y0 y1
                obtain ⟨y0, y1, -, -⟩ := cells_of2 ((HB4.out.block _ (lt_of_block HBX.out)).trans HBX.out)
                have hc4 := IH.out tr2 (.agg #[.slice pa P.length pc, .slice ta T.length tc]) ⟨g2, 0, none⟩ g2 0 cap2 so sb sf sc w4 (HNet.out.below (HB0.out.trans (HB4.out.mono (by omega))) (Nat.le_refl _)) HI4.out (HS.out.below HB4.out (Nat.le_refl _)) (fun q => by rw [q] at hcap2; have := HLEN2.out; rw [q] at this; simp at this) HNT2.out (by have := HLEN2.out; omega)
                cases e4 : conn P set y f tr2
                · rw [e4] at hc4
                  have HC4 := Lib.hid hc4
                  have HSK := Lib.hid (connTo_no HC.out (HTR2.out ▸ e4))
                  clear hc4 e4
                  go_wp2_with fail
                  refine HC4.out.mono ?_
                  rintro e w5 ⟨rfl, hb5⟩
                  have HB5 := Lib.hid (HB4.out.trans (hb5.mono HB4.out.size))
                  clear hb5
                  go_wp2
                  go_roundw
                  case rel => exact ⟨k + 1, by omega, by go_num, HSK.out, HB5.out⟩
                  case measure => simp [intOf]; omega
                · rw [e4] at hc4
                  have HC4 := Lib.hid hc4
                  have HF := Lib.hid (connTo_yes HCD.out (HTR2.out ▸ e4) hlt (by rw [HLAST.out]; exact HY.out))
                  clear hc4 e4
                  go_wp2_with fail
                  refine HC4.out.mono ?_
                  rintro e w5 ⟨rfl, hb5⟩
                  have HB5 := Lib.hid (HB4.out.trans (hb5.mono HB4.out.size))
                  clear hb5
                  go_wp2
                  go_ret
                  exact ⟨ret_bool HF.out.symm, HB0.out.trans (HB5.out.mono (by omega))⟩
          · rw [e1] at HC1
            have HSK := Lib.hid (connTo_skip HC.out (show cond P set tr k = false by unfold cond; rw [HTR2.out, e1]; rfl))
            clear e1
            go_wp2_with fail
            refine HC1.out.mono ?_
            rintro e w' ⟨rfl, rfl⟩
            go_wp2
            go_roundw
            case rel => exact ⟨k + 1, by omega, by go_num, HSK.out, HB2.out⟩
            case measure => simp [intOf]; omega
        · have hke : k = P.length := by omega
          have HF := Lib.hid (conn_end (hke ▸ HC.out) (by rw [HLAST.out]; exact HY.out))
          clear hke
          go_wp2
          go_ret
          exact ⟨ret_bool HF.out.symm, HB0.out.trans (HB.out.mono (by have := HS0.out; omega))⟩

end Go.Proofs.Ytaphmjccdokiiaa
