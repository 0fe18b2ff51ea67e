/- The reference's chambers. -/
import Derived.Test.YtjibdolhipddbaaT3
import Derived.Laws.AppendOwnNone
namespace Go.Proofs.Ytjibdolhipddbaa
open Go.RowKit Go.Maps

theorem lvs_pos {d : Nat} (hd : 1 ≤ d) : ∀ n pre used, 1 ≤ (lvs d n pre used).length
  | 0, _, _ => by simp [lvs]
  | n + 1, pre, used => by
    rw [lvs, List.length_flatMap]
    have h := lvs_pos hd n (pre ++ [((0 + 1 : Nat) : Int)]) (max used (0 + 1))
    obtain ⟨m, hm⟩ : ∃ m, min (used + 1) d = m + 1 := ⟨min (used + 1) d - 1, by omega⟩
    rw [hm, List.range_succ_eq_map, List.map_cons, List.sum_cons]
    omega
/-- The sets of the chambers from a node on, as ints; those of the first t sons of a node. -/
def chI (a : List (List Int)) (d n : Nat) (pre : List Int) (used : Nat) : List Int := (lvs d n pre used).map fun y => ((blN a y : Nat) : Int)
def chT (a : List (List Int)) (d n : Nat) (pre : List Int) (used t : Nat) : List Int := ((List.range t).flatMap fun x => lvs d n (pre ++ [((x + 1 : Nat) : Int)]) (max used (x + 1))).map fun y => ((blN a y : Nat) : Int)
theorem chT_succ (a : List (List Int)) (d n : Nat) (pre : List Int) (used t : Nat) : chT a d n pre used (t + 1) = chT a d n pre used t ++ chI a d n (pre ++ [((t + 1 : Nat) : Int)]) (max used (t + 1)) := by
  unfold chT chI
  rw [List.range_succ, List.flatMap_append, List.map_append]
  simp
theorem chT_end (a : List (List Int)) (d n : Nat) (pre : List Int) (used : Nat) : chT a d n pre used (min (used + 1) d) = chI a d (n + 1) pre used := by
  unfold chT chI; rw [lvs]
theorem chI_len (a : List (List Int)) {d : Nat} (hd : 1 ≤ d ∧ d ≤ 4) {n : Nat} (hn : n ≤ 6) (pre : List Int) (used : Nat) : 1 ≤ (chI a d n pre used).length ∧ (chI a d n pre used).length ≤ 4096 := by
  unfold chI
  rw [List.length_map]
  refine ⟨lvs_pos hd.1 n pre used, Nat.le_trans (lvs_len d hd.2 n pre used) ?_⟩
  exact (Nat.pow_le_pow_right (by omega) hn : 4 ^ n ≤ 4 ^ 6)
theorem chT_len (a : List (List Int)) {d : Nat} (hd : 1 ≤ d ∧ d ≤ 4) {n : Nat} (hn : n ≤ 6) (pre : List Int) (used : Nat) : ∀ t, (chT a d n pre used t).length ≤ 4096 * t
  | 0 => by simp [chT]
  | t + 1 => by
    rw [chT_succ, List.length_append]
    have h1 := chT_len a hd hn pre used t
    have h2 := (chI_len a hd hn (pre ++ [((t + 1 : Nat) : Int)]) (max used (t + 1))).2
    omega
theorem nums_wf {xs : List Int} (h : ∀ x ∈ xs, 0 ≤ x ∧ x < 68719476736) (i : Nat) : -9223372036854775808 ≤ nth xs i ∧ nth xs i ≤ 9223372036854775807 := by
  by_cases hi : i < xs.length
  · have := h _ (nth_mem hi); omega
  · rw [nth_out (by omega)]; omega
theorem chI_at (a : List (List Int)) (d n : Nat) (pre : List Int) (used : Nat) : ∀ x ∈ chI a d n pre used, 0 ≤ x ∧ x < 68719476736 := fun x hx => by
  obtain ⟨y, _, rfl⟩ := List.mem_map.1 hx
  have := blN_lt a y
  omega
theorem chT_at (a : List (List Int)) (d n : Nat) (pre : List Int) (used t : Nat) : ∀ x ∈ chT a d n pre used t, 0 ≤ x ∧ x < 68719476736 := fun x hx => by
  obtain ⟨y, _, rfl⟩ := List.mem_map.1 hx
  have := blN_lt a y
  omega
/-- One int in a new block. -/
theorem NewInts.one {B : Nat} (w : World) (x : Int) (hB : B ≤ w.heap.size) (hx : -9223372036854775808 ≤ x ∧ x ≤ 9223372036854775807) : NewInts B (w.alloc (.cells #[.int .i64 x] 3)) (.slice (some ⟨w.heap.size, 0, none⟩) 1 1) [x] := by
  refine ⟨⟨rfl, .inr ⟨w.heap.size, 1, #[.int .i64 x], rfl, hB, heap_alloc_new _ _, Nat.le_refl _, by unfold maxLen; omega, rfl, rfl⟩⟩, fun q => ?_, by simp⟩
  by_cases e : q = 0
  · subst e; exact hx
  · rw [nth_out (by simp; omega)]; omega
/-- Ints appended to own ints. -/
theorem NewInts.more {B : Nat} {w : World} {v : Value} {xs ys : List Int} (hown : w.ownsRow B 3 1 v (xs.length + ys.length) (xs.map (Value.int .i64) ++ ys.map (Value.int .i64))) (hw : ∀ i, -9223372036854775808 ≤ nth (xs ++ ys) i ∧ nth (xs ++ ys) i ≤ 9223372036854775807) (hl : xs.length + ys.length ≤ 140737488351232) : NewInts B w v (xs ++ ys) :=
  ⟨by rw [List.length_append, List.map_append]; exact hown, hw, by rw [List.length_append]; exact hl⟩
theorem wf_app {xs ys : List Int} (h1 : ∀ i, -9223372036854775808 ≤ nth xs i ∧ nth xs i ≤ 9223372036854775807) (h2 : ∀ i, -9223372036854775808 ≤ nth ys i ∧ nth ys i ≤ 9223372036854775807) (i : Nat) : -9223372036854775808 ≤ nth (xs ++ ys) i ∧ nth (xs ++ ys) i ≤ 9223372036854775807 := by
  by_cases e : i < xs.length
  · have : nth (xs ++ ys) i = nth xs i := by unfold nth; rw [List.getD_eq_getElem?_getD, List.getD_eq_getElem?_getD, List.getElem?_append_left e]
    rw [this]; exact h1 i
  · have : nth (xs ++ ys) i = nth ys (i - xs.length) := by unfold nth; rw [List.getD_eq_getElem?_getD, List.getD_eq_getElem?_getD, List.getElem?_append_right (by omega)]
    rw [this]; exact h2 _

theorem NewInts.in {B : Nat} {w : World} {v : Value} {xs : List Int} (h : NewInts B w v xs) (h1 : 1 ≤ xs.length) : ∃ g cap, v = .slice (some ⟨g, 0, none⟩) xs.length cap ∧ xs.length ≤ cap ∧ IntsAt w (some ⟨g, 0, none⟩) g 0 xs := by
  rcases h.own.2 with ⟨_, h0⟩ | ⟨g, cap, cur, hs, hg, hh, hcap, hm, hcs, htk⟩
  · omega
  · refine ⟨g, cap, hs, hcap, ?_⟩
    obtain ⟨ao, b, cp, e1, e2, _⟩ := h.at
    rw [hs] at e1
    have hp := (e2.ptr (by omega)).1
    injection e1 with q1 q2 q3
    rw [hp] at q1
    injection q1 with q1'
    injection q1' with q1'
    rw [hp] at e2
    subst q1'
    exact e2

set_option maxHeartbeats 8000000 in
set_option maxRecDepth 100000 in
theorem chambers_any (a : List (List Int)) (D : Nat) (ao : Option Addr) (b o cap : Nat) (A : Nat → Option Addr) (B O C : Nat → Nat) (ha : IsPlan a) (hD : 1 ≤ D ∧ D ≤ 4) : ∀ (n : Nat) (pre : List Int) (used : Nat) (ko : Option Addr) (kb kq kc : Nat) (w : World),
    RowsAt w ao b o a A B O C → IntsAt w ko kb kq pre → pre.length + n = a.length → used ≤ 6 → pre.length ≤ kc → (pre = [] ∧ ko = none ∧ kc = 0 ∨ 1 ≤ pre.length) →
    Calls Try.prog 40 #[.slice ao a.length cap, .int .i64 D, .slice ko pre.length kc, .int .i64 used] w fun e w' => ∃ v, e = .returned v ∧ NewInts w.heap.size w' v (chI a D n pre used) ∧ Below w.heap.size w w' := by
  have hk6 := ha.le
  have hk1 := ha.pos
  intro n
  induction n with
  | zero =>
    intro pre used ko kb kq kc w H HK hlen hus hkc hnil
    have hpl : pre.length = a.length := by omega
    have HBL := Lib.hid (blocks_any a pre ao b o cap A B O C ko kb kq kc w H HK ha hpl)
    have HCI := Lib.hid (show chI a D 0 pre used = [((blN a pre : Nat) : Int)] from rfl)
    have hb := blN_lt a pre
    obtain ⟨s, hs⟩ : ∃ s, blN a pre = s := ⟨_, rfl⟩
    rw [hs] at HBL HCI hb
    rw [hpl]
    clear H HK hlen hkc hnil hs hpl
    go_enter Try.func40, Try.ntmps40
    go_wp2_with fail
    refine HBL.out.mono ?_
    rintro e w1 ⟨rfl, hb1⟩
    have HB1 := Lib.hid (hb1.alloc hb1.size (.cells #[.int .i64 s] 3))
    have HN1 := Lib.hid (NewInts.one w1 (s : Int) hb1.size (by omega))
    clear hb1 HBL
    go_wp2
    go_ret
    exact ⟨_, rfl, by rw [HCI.out]; exact HN1.out, HB1.out⟩
  | succ n ih =>
    intro pre used ko kb kq kc w H HK hlen hus hkc hnil
    have hlt : pre.length < a.length := by omega
    have hne : ((pre.length : Int) == (a.length : Int)) = false := beq_eq_false_iff_ne.2 (by omega)
    obtain ⟨i0, hi0, hz0, hz1, hz2⟩ := info_parts Try.info3
    have HA := Lib.hid H
    have HKA := Lib.hid HK
    have HCE := Lib.hid (chT_end a D n pre used)
    have HCS := Lib.hid (chT_succ a D n pre used)
    have HCT := Lib.hid (chT_len a hD (n := n) (by omega) pre used)
    have HCI := Lib.hid (fun x u => chI_len a hD (n := n) (by omega) (pre ++ [x]) u)
    have HTW := Lib.hid (fun t => nums_wf (chT_at a D n pre used t))
    have HIW := Lib.hid (fun x u => nums_wf (chI_at a D n (pre ++ [x]) u))
    have HIH := Lib.hid (fun x (u : Nat) kb kc W (hW : Below w.heap.size w W) (hk : IntsAt W (some ⟨kb, 0, none⟩) kb 0 (pre ++ [x])) (hu : u ≤ 6) (hc : (pre ++ [x]).length ≤ kc) => ih (pre ++ [x]) u (some ⟨kb, 0, none⟩) kb 0 kc W (HA.out.below hW (Nat.le_refl _)) hk (by simp; omega) hu hc (.inr (by simp)))
    have HPL := Lib.hid (show ∀ x : Int, (pre ++ [x]).length = pre.length + 1 from fun x => by simp)
    obtain ⟨u1, hu1⟩ : ∃ u1 : Nat, (used : Int) + 1 = (u1 : Int) := ⟨used + 1, by omega⟩
    obtain ⟨pl, hpl⟩ : ∃ pl, pre.length = pl := ⟨_, rfl⟩
    have HPP := Lib.hid hpl
    rw [hpl] at hlen hkc hnil hlt hne HPL
    rw [hpl]
    clear H HK ih hpl
    go_enter Try.func40, Try.ntmps40
    by_cases hm : (D : Int) < (u1 : Int)
    · have hmm : decide ((D : Int) < (u1 : Int)) = true := decide_eq_true hm
      have HM := Lib.hid (show min (used + 1) D = D by omega)
      go_wp2_with fail
      go_loopw [9, 10, 11] (fun v x _ wr => ∃ t : Nat, t ≤ D ∧ x = .int .i64 ((t : Int) + 1) ∧ NewInts w.heap.size wr v (chT a D n pre used t) ∧ Below w.heap.size w wr) (fun _ x _ _ => D + 1 - (intOf x).toNat)
      case atStart => exact ⟨0, by omega, rfl, NewInts.nil _ _, Below.refl _ _⟩
      case round =>
        obtain ⟨t, ht, rfl, hn, hb⟩ := hrel
        obtain ⟨wq, rfl⟩ : ∃ wq, wq = wr := ⟨_, rfl⟩
        have HN := Lib.hid hn
        have HB := Lib.hid hb
        clear hn hb
        obtain ⟨x, hx⟩ : ∃ x : Nat, (t : Int) + 1 = (x : Int) := ⟨t + 1, by omega⟩
        have HXT := Lib.hid (show x = t + 1 by omega)
        rw [hx]
        clear hx
        by_cases htm : t < D
        · have htx : x ≤ D := by have := HXT.out; omega
          have htx2 : (x : Int) ≤ (D : Int) := by omega
          go_upto_region 8 with fail
          go_cut [11] from 29 to 31 (fun v wx => NewInts wq.heap.size wx v pre ∧ Below wq.heap.size wq wx)
          case first =>
            rcases hnil with ⟨hp0, rfl, hk0⟩ | hp1
            · subst hk0
              have hpl0 : pl = 0 := by rw [← HPP.out, hp0]; rfl
              subst hpl0
              have HP0 := Lib.hid hp0
              clear hp0
              go_wp2_with (first
                | (at_builtin; refine wpList_append_own_none rfl (.tmp 29) (.tmp 30) 34 rfl wq.heap.size 3 i0 1 Try.underlying34 hi0 (.slice none 0 0) 0 [] rfl (own_nil _ _) rfl ?_)
                | (fail))
              go_wp2
              go_meet
              exact ⟨by rw [HP0.out]; exact NewInts.nil _ _, Below.refl _ _⟩
            · have hkw := HKA.out.below HB.out (Nat.le_refl _)
              have hko := (hkw.ptr (by rw [HPP.out]; exact hp1)).1
              have HNW := Lib.hid (news_at hkw ⟨kb, kq, none⟩ hko pre.length)
              rw [List.take_length] at HNW
              subst hko
              go_wp2_with (first
                | (at_builtin; refine wpList_append_own _ rfl (.tmp 29) (.tmp 30) 34 rfl wq.heap.size 3 i0 (.int .i64 0) 1 8 Try.underlying34 hi0 hz0 hz1 hz2 rfl (by decide) (.slice none 0 0) 0 [] rfl (own_nil _ _) ⟨kb, kq, none⟩ pl kc (pre.map (Value.int .i64)) rfl ?c11 HNW.out (oneCell_ints _) ?c12 ?c13 ?c14 ?_)
                | (fail))
              case c11 => have := HPP.out; simp; omega
              case c12 => unfold maxLen; omega
              case c13 => omega
              case c14 => exact Nat.le_refl _
              intro v5 w5 hown hg _
              have HN5 := Lib.hid (show NewInts wq.heap.size w5 v5 pre from ⟨by rw [HPP.out]; simpa using hown, HKA.out.wf, HKA.out.len⟩)
              have HB5 := Lib.hid ((Below.refl _ wq).grown hg (Nat.le_refl _) (fun r hr => by simp [Value.ownBlock] at hr))
              clear hown hg
              go_wp2
              go_meet
              exact ⟨HN5.out, HB5.out⟩
          obtain ⟨hnc, hbc⟩ := hcut
          have HBC := Lib.hid hbc
          have HOX := Lib.hid (hnc.below ((Below.refl _ wc).alloc (Nat.le_refl _) (.cells #[.int .i64 x] 3)) (Nat.le_refl _)).own
          clear hnc hbc
          by_cases hux : (used : Int) < (x : Int)
          · exfalso; omega
          · have hmx : decide ((used : Int) < (x : Int)) = false := decide_eq_false hux
            have HU := Lib.hid (show max used (t + 1) = used by have := HXT.out; omega)
            go_wp2_with (first
              | (at_builtin; refine wpList_append_own _ rfl (.tmp 35) (.tmp 37) 34 rfl wq.heap.size 3 i0 (.int .i64 0) 1 8 Try.underlying34 hi0 hz0 hz1 hz2 rfl (by decide) _ pre.length (pre.map (Value.int .i64)) rfl HOX.out ⟨wc.heap.size, 0, none⟩ 1 1 [.int .i64 x] rfl rfl (cell_one_new _ _ _) (by simp [Value.oneCell']) ?a22 ?a23 ?a24 ?_)
              | (fail))
            case a22 => have := HPP.out; unfold maxLen; omega
            case a23 => have := HPP.out; omega
            case a24 => have := HBC.out.size; simp; omega
            intro v6 w6 hown hg _
            have hn6 : NewInts wq.heap.size w6 v6 (pre ++ [(x : Int)]) := NewInts.more hown (wf_app HKA.out.wf (nums_wf (fun z hz => by rw [List.mem_singleton.1 hz]; have := HXT.out; omega))) (by have := HPP.out; simp; omega)
            have hb6 : Below wq.heap.size wq w6 := (HBC.out.alloc HBC.out.size (.cells #[.int .i64 x] 3)).grown hg (by have := HBC.out.size; simp; omega) (fun r hr => (HOX.out.lt r hr).1)
            have HB6 := Lib.hid (HB.out.trans (hb6.mono HB.out.size))
            obtain ⟨g6, c6, rfl, hc6, hat6⟩ := hn6.in (by simp)
            have HCL := Lib.hid (HIH.out x used g6 c6 w6 HB6.out hat6 (by have := HXT.out; omega) hc6)
            have HN6 := Lib.hid (HN.out.below hb6 (Nat.le_refl _))
            rw [HPL.out] at HCL ⊢
            clear hown hg hn6 hb6 hat6 hc6
            go_wp2_with fail
            refine HCL.out.mono ?_
            rintro e w7 ⟨v7, rfl, hn7, hb7⟩
            have hl7 := HCI.out x used
            obtain ⟨g7, c7, rfl, hc7, hat7⟩ := hn7.in hl7.1
            have HB7 := Lib.hid (HB6.out.trans (hb7.mono HB6.out.size))
            have HO7 := Lib.hid (HN6.out.below hb7 (Nat.le_refl _)).own
            have HNW := Lib.hid (news_at hat7 ⟨g7, 0, none⟩ rfl (chI a D n (pre ++ [(x : Int)]) used).length)
            rw [List.take_length] at HNW
            have HS := Lib.hid (show chT a D n pre used (t + 1) = chT a D n pre used t ++ chI a D n (pre ++ [(x : Int)]) used by rw [HCS.out t, HU.out, HXT.out])
            have htl := HCT.out t
            obtain ⟨R, hR⟩ : ∃ R, chI a D n (pre ++ [(x : Int)]) used = R := ⟨_, rfl⟩
            have hRW := HIW.out x used
            rw [hR] at HNW HS hl7 hRW
            rw [hR]
            have HRW := Lib.hid hRW
            clear hn7 hb7 hat7 hR hRW HN6 HCL
            go_wp2_with (first
              | (at_builtin; refine wpList_append_own _ rfl (.tmp 32) (.tmp 42) 34 rfl w.heap.size 3 i0 (.int .i64 0) 1 8 Try.underlying34 hi0 hz0 hz1 hz2 rfl (by decide) _ (chT a D n pre used t).length ((chT a D n pre used t).map (Value.int .i64)) rfl HO7.out ⟨g7, 0, none⟩ R.length c7 (R.map (Value.int .i64)) rfl ?b21 HNW.out (oneCell_ints _) ?b22 ?b23 ?b24 ?_)
              | (fail))
            case b21 => simp
            case b22 => unfold maxLen; omega
            case b23 => omega
            case b24 => exact HB7.out.size
            intro v8 w8 hown hg _
            have HN8 := Lib.hid (show NewInts w.heap.size w8 v8 (chT a D n pre used (t + 1)) by rw [HS.out]; exact NewInts.more hown (wf_app (HTW.out t) HRW.out) (by omega))
            have HB8 := Lib.hid (HB7.out.grown hg HB7.out.size (fun r hr => (HO7.out.lt r hr).1))
            clear hown hg
            go_wp2
            go_roundw
            case rel => exact ⟨t + 1, by omega, by rw [HXT.out], HN8.out, HB8.out⟩
            case measure => have := HXT.out; simp [intOf]; omega
        · have htx : ¬ x ≤ D := by have := HXT.out; omega
          have htx2 : ¬ (x : Int) ≤ (D : Int) := by omega
          have HE := Lib.hid (show chT a D n pre used t = chI a D (n + 1) pre used by rw [← HCE.out, HM.out, show t = D by omega])
          obtain ⟨vo, vb, vc, rfl, -, -⟩ := HN.out.at
          go_wp2
          go_ret
          exact ⟨_, rfl, by rw [← HE.out]; exact HN.out, HB.out⟩
    · have hmm : decide ((D : Int) < (u1 : Int)) = false := decide_eq_false hm
      have HM := Lib.hid (show min (used + 1) D = u1 by omega)
      go_wp2_with fail
      go_loopw [9, 10, 11] (fun v x _ wr => ∃ t : Nat, t ≤ u1 ∧ x = .int .i64 ((t : Int) + 1) ∧ NewInts w.heap.size wr v (chT a D n pre used t) ∧ Below w.heap.size w wr) (fun _ x _ _ => u1 + 1 - (intOf x).toNat)
      case atStart => exact ⟨0, by omega, rfl, NewInts.nil _ _, Below.refl _ _⟩
      case round =>
        obtain ⟨t, ht, rfl, hn, hb⟩ := hrel
        obtain ⟨wq, rfl⟩ : ∃ wq, wq = wr := ⟨_, rfl⟩
        have HN := Lib.hid hn
        have HB := Lib.hid hb
        clear hn hb
        obtain ⟨x, hx⟩ : ∃ x : Nat, (t : Int) + 1 = (x : Int) := ⟨t + 1, by omega⟩
        have HXT := Lib.hid (show x = t + 1 by omega)
        rw [hx]
        clear hx
        by_cases htm : t < u1
        · have htx : x ≤ u1 := by have := HXT.out; omega
          have htx2 : (x : Int) ≤ (u1 : Int) := by omega
          go_upto_region 8 with fail
          go_cut [11] from 29 to 31 (fun v wx => NewInts wq.heap.size wx v pre ∧ Below wq.heap.size wq wx)
          case first =>
            rcases hnil with ⟨hp0, rfl, hk0⟩ | hp1
            · subst hk0
              have hpl0 : pl = 0 := by rw [← HPP.out, hp0]; rfl
              subst hpl0
              have HP0 := Lib.hid hp0
              clear hp0
              go_wp2_with (first
                | (at_builtin; refine wpList_append_own_none rfl (.tmp 29) (.tmp 30) 34 rfl wq.heap.size 3 i0 1 Try.underlying34 hi0 (.slice none 0 0) 0 [] rfl (own_nil _ _) rfl ?_)
                | (fail))
              go_wp2
              go_meet
              exact ⟨by rw [HP0.out]; exact NewInts.nil _ _, Below.refl _ _⟩
            · have hkw := HKA.out.below HB.out (Nat.le_refl _)
              have hko := (hkw.ptr (by rw [HPP.out]; exact hp1)).1
              have HNW := Lib.hid (news_at hkw ⟨kb, kq, none⟩ hko pre.length)
              rw [List.take_length] at HNW
              subst hko
              go_wp2_with (first
                | (at_builtin; refine wpList_append_own _ rfl (.tmp 29) (.tmp 30) 34 rfl wq.heap.size 3 i0 (.int .i64 0) 1 8 Try.underlying34 hi0 hz0 hz1 hz2 rfl (by decide) (.slice none 0 0) 0 [] rfl (own_nil _ _) ⟨kb, kq, none⟩ pl kc (pre.map (Value.int .i64)) rfl ?c21 HNW.out (oneCell_ints _) ?c22 ?c23 ?c24 ?_)
                | (fail))
              case c21 => have := HPP.out; simp; omega
              case c22 => unfold maxLen; omega
              case c23 => omega
              case c24 => exact Nat.le_refl _
              intro v5 w5 hown hg _
              have HN5 := Lib.hid (show NewInts wq.heap.size w5 v5 pre from ⟨by rw [HPP.out]; simpa using hown, HKA.out.wf, HKA.out.len⟩)
              have HB5 := Lib.hid ((Below.refl _ wq).grown hg (Nat.le_refl _) (fun r hr => by simp [Value.ownBlock] at hr))
              clear hown hg
              go_wp2
              go_meet
              exact ⟨HN5.out, HB5.out⟩
          obtain ⟨hnc, hbc⟩ := hcut
          have HBC := Lib.hid hbc
          have HOX := Lib.hid (hnc.below ((Below.refl _ wc).alloc (Nat.le_refl _) (.cells #[.int .i64 x] 3)) (Nat.le_refl _)).own
          clear hnc hbc
          by_cases hux : (used : Int) < (x : Int)
          · have hmx : decide ((used : Int) < (x : Int)) = true := decide_eq_true hux
            have HU := Lib.hid (show max used (t + 1) = x by have := HXT.out; omega)
            go_wp2_with (first
              | (at_builtin; refine wpList_append_own _ rfl (.tmp 35) (.tmp 37) 34 rfl wq.heap.size 3 i0 (.int .i64 0) 1 8 Try.underlying34 hi0 hz0 hz1 hz2 rfl (by decide) _ pre.length (pre.map (Value.int .i64)) rfl HOX.out ⟨wc.heap.size, 0, none⟩ 1 1 [.int .i64 x] rfl rfl (cell_one_new _ _ _) (by simp [Value.oneCell']) ?a32 ?a33 ?a34 ?_)
              | (fail))
            case a32 => have := HPP.out; unfold maxLen; omega
            case a33 => have := HPP.out; omega
            case a34 => have := HBC.out.size; simp; omega
            intro v6 w6 hown hg _
            have hn6 : NewInts wq.heap.size w6 v6 (pre ++ [(x : Int)]) := NewInts.more hown (wf_app HKA.out.wf (nums_wf (fun z hz => by rw [List.mem_singleton.1 hz]; have := HXT.out; omega))) (by have := HPP.out; simp; omega)
            have hb6 : Below wq.heap.size wq w6 := (HBC.out.alloc HBC.out.size (.cells #[.int .i64 x] 3)).grown hg (by have := HBC.out.size; simp; omega) (fun r hr => (HOX.out.lt r hr).1)
            have HB6 := Lib.hid (HB.out.trans (hb6.mono HB.out.size))
            obtain ⟨g6, c6, rfl, hc6, hat6⟩ := hn6.in (by simp)
            have HCL := Lib.hid (HIH.out x x g6 c6 w6 HB6.out hat6 (by have := HXT.out; omega) hc6)
            have HN6 := Lib.hid (HN.out.below hb6 (Nat.le_refl _))
            rw [HPL.out] at HCL ⊢
            clear hown hg hn6 hb6 hat6 hc6
            go_wp2_with fail
            refine HCL.out.mono ?_
            rintro e w7 ⟨v7, rfl, hn7, hb7⟩
            have hl7 := HCI.out x x
            obtain ⟨g7, c7, rfl, hc7, hat7⟩ := hn7.in hl7.1
            have HB7 := Lib.hid (HB6.out.trans (hb7.mono HB6.out.size))
            have HO7 := Lib.hid (HN6.out.below hb7 (Nat.le_refl _)).own
            have HNW := Lib.hid (news_at hat7 ⟨g7, 0, none⟩ rfl (chI a D n (pre ++ [(x : Int)]) x).length)
            rw [List.take_length] at HNW
            have HS := Lib.hid (show chT a D n pre used (t + 1) = chT a D n pre used t ++ chI a D n (pre ++ [(x : Int)]) x by rw [HCS.out t, HU.out, HXT.out])
            have htl := HCT.out t
            obtain ⟨R, hR⟩ : ∃ R, chI a D n (pre ++ [(x : Int)]) x = R := ⟨_, rfl⟩
            have hRW := HIW.out x x
            rw [hR] at HNW HS hl7 hRW
            rw [hR]
            have HRW := Lib.hid hRW
            clear hn7 hb7 hat7 hR hRW HN6 HCL
            go_wp2_with (first
              | (at_builtin; refine wpList_append_own _ rfl (.tmp 32) (.tmp 42) 34 rfl w.heap.size 3 i0 (.int .i64 0) 1 8 Try.underlying34 hi0 hz0 hz1 hz2 rfl (by decide) _ (chT a D n pre used t).length ((chT a D n pre used t).map (Value.int .i64)) rfl HO7.out ⟨g7, 0, none⟩ R.length c7 (R.map (Value.int .i64)) rfl ?b31 HNW.out (oneCell_ints _) ?b32 ?b33 ?b34 ?_)
              | (fail))
            case b31 => simp
            case b32 => unfold maxLen; omega
            case b33 => omega
            case b34 => exact HB7.out.size
            intro v8 w8 hown hg _
            have HN8 := Lib.hid (show NewInts w.heap.size w8 v8 (chT a D n pre used (t + 1)) by rw [HS.out]; exact NewInts.more hown (wf_app (HTW.out t) HRW.out) (by omega))
            have HB8 := Lib.hid (HB7.out.grown hg HB7.out.size (fun r hr => (HO7.out.lt r hr).1))
            clear hown hg
            go_wp2
            go_roundw
            case rel => exact ⟨t + 1, by omega, by rw [HXT.out], HN8.out, HB8.out⟩
            case measure => have := HXT.out; simp [intOf]; omega
          · have hmx : decide ((used : Int) < (x : Int)) = false := decide_eq_false hux
            have HU := Lib.hid (show max used (t + 1) = used by have := HXT.out; omega)
            go_wp2_with (first
              | (at_builtin; refine wpList_append_own _ rfl (.tmp 35) (.tmp 37) 34 rfl wq.heap.size 3 i0 (.int .i64 0) 1 8 Try.underlying34 hi0 hz0 hz1 hz2 rfl (by decide) _ pre.length (pre.map (Value.int .i64)) rfl HOX.out ⟨wc.heap.size, 0, none⟩ 1 1 [.int .i64 x] rfl rfl (cell_one_new _ _ _) (by simp [Value.oneCell']) ?a42 ?a43 ?a44 ?_)
              | (fail))
            case a42 => have := HPP.out; unfold maxLen; omega
            case a43 => have := HPP.out; omega
            case a44 => have := HBC.out.size; simp; omega
            intro v6 w6 hown hg _
            have hn6 : NewInts wq.heap.size w6 v6 (pre ++ [(x : Int)]) := NewInts.more hown (wf_app HKA.out.wf (nums_wf (fun z hz => by rw [List.mem_singleton.1 hz]; have := HXT.out; omega))) (by have := HPP.out; simp; omega)
            have hb6 : Below wq.heap.size wq w6 := (HBC.out.alloc HBC.out.size (.cells #[.int .i64 x] 3)).grown hg (by have := HBC.out.size; simp; omega) (fun r hr => (HOX.out.lt r hr).1)
            have HB6 := Lib.hid (HB.out.trans (hb6.mono HB.out.size))
            obtain ⟨g6, c6, rfl, hc6, hat6⟩ := hn6.in (by simp)
            have HCL := Lib.hid (HIH.out x used g6 c6 w6 HB6.out hat6 (by have := HXT.out; omega) hc6)
            have HN6 := Lib.hid (HN.out.below hb6 (Nat.le_refl _))
            rw [HPL.out] at HCL ⊢
            clear hown hg hn6 hb6 hat6 hc6
            go_wp2_with fail
            refine HCL.out.mono ?_
            rintro e w7 ⟨v7, rfl, hn7, hb7⟩
            have hl7 := HCI.out x used
            obtain ⟨g7, c7, rfl, hc7, hat7⟩ := hn7.in hl7.1
            have HB7 := Lib.hid (HB6.out.trans (hb7.mono HB6.out.size))
            have HO7 := Lib.hid (HN6.out.below hb7 (Nat.le_refl _)).own
            have HNW := Lib.hid (news_at hat7 ⟨g7, 0, none⟩ rfl (chI a D n (pre ++ [(x : Int)]) used).length)
            rw [List.take_length] at HNW
            have HS := Lib.hid (show chT a D n pre used (t + 1) = chT a D n pre used t ++ chI a D n (pre ++ [(x : Int)]) used by rw [HCS.out t, HU.out, HXT.out])
            have htl := HCT.out t
            obtain ⟨R, hR⟩ : ∃ R, chI a D n (pre ++ [(x : Int)]) used = R := ⟨_, rfl⟩
            have hRW := HIW.out x used
            rw [hR] at HNW HS hl7 hRW
            rw [hR]
            have HRW := Lib.hid hRW
            clear hn7 hb7 hat7 hR hRW HN6 HCL
            go_wp2_with (first
              | (at_builtin; refine wpList_append_own _ rfl (.tmp 32) (.tmp 42) 34 rfl w.heap.size 3 i0 (.int .i64 0) 1 8 Try.underlying34 hi0 hz0 hz1 hz2 rfl (by decide) _ (chT a D n pre used t).length ((chT a D n pre used t).map (Value.int .i64)) rfl HO7.out ⟨g7, 0, none⟩ R.length c7 (R.map (Value.int .i64)) rfl ?b41 HNW.out (oneCell_ints _) ?b42 ?b43 ?b44 ?_)
              | (fail))
            case b41 => simp
            case b42 => unfold maxLen; omega
            case b43 => omega
            case b44 => exact HB7.out.size
            intro v8 w8 hown hg _
            have HN8 := Lib.hid (show NewInts w.heap.size w8 v8 (chT a D n pre used (t + 1)) by rw [HS.out]; exact NewInts.more hown (wf_app (HTW.out t) HRW.out) (by omega))
            have HB8 := Lib.hid (HB7.out.grown hg HB7.out.size (fun r hr => (HO7.out.lt r hr).1))
            clear hown hg
            go_wp2
            go_roundw
            case rel => exact ⟨t + 1, by omega, by rw [HXT.out], HN8.out, HB8.out⟩
            case measure => have := HXT.out; simp [intOf]; omega
        · have htx : ¬ x ≤ u1 := by have := HXT.out; omega
          have htx2 : ¬ (x : Int) ≤ (u1 : Int) := by omega
          have HE := Lib.hid (show chT a D n pre used t = chI a D (n + 1) pre used by rw [← HCE.out, HM.out, show t = u1 by omega])
          obtain ⟨vo, vb, vc, rfl, -, -⟩ := HN.out.at
          go_wp2
          go_ret
          exact ⟨_, rfl, by rw [← HE.out]; exact HN.out, HB.out⟩

end Go.Proofs.Ytjibdolhipddbaa
