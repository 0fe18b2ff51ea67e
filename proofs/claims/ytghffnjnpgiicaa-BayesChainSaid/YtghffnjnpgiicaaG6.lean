/- G6: Y Z Aa Ba -/
import Derived.Test.YtghffnjnpgiicaaG5
import Derived.Great.BuildSlice
import Derived.Test.YtghffnjnpgiicaaG4
import Derived.Test.YtghffnjnpgiicaaG3
/- The search for a trail: the closure. -/
namespace Go.Proofs.Ytghffnjnpgiicaa
open Go.RowKit

/-- Where the search's variables lie. -/
structure FSAt (w : World) (B Bt By Bw Be : Nat) : Prop where
  b : B ≤ Bw
  o1 : Bw < By
  o2 : By < Bt
  o3 : Bt < Be

theorem nodup_snoc {tr : List Nat} {k : Nat} (h : tr.Nodup) (hk : ¬ k ∈ tr) : (tr ++ [k]).Nodup := by
  rw [List.nodup_append]
  exact ⟨h, by simp, fun a ha b hb e => by simp at hb; subst e; subst hb; exact hk ha⟩

theorem own_block {w : World} {B g n cap : Nat} {xs : List Value} (h : w.ownsRow B 3 1 (.slice (some ⟨g, 0, none⟩) n cap) n xs) : B ≤ g ∧ ∃ c, w.heap[g]? = some (.cells c 3 (0, 0)) := by
  rcases h.2 with ⟨h', _⟩ | ⟨g', cap', cur, h', hb, hg, _⟩
  · simp at h'
  · simp only [Value.slice.injEq, Option.some.injEq, Addr.mk.injEq, and_true, true_and] at h'
    obtain ⟨rfl, rfl⟩ := h'
    exact ⟨hb, _, hg⟩
theorem own_cap {w : World} {B g n cap : Nat} {xs : List Value} (h : w.ownsRow B 3 1 (.slice (some ⟨g, 0, none⟩) n cap) n xs) : n ≤ cap := by
  rcases h.2 with ⟨h', _⟩ | ⟨g', cap', cur, h', hb, hg, hn, _⟩
  · simp at h'
  · simp only [Value.slice.injEq, Option.some.injEq, Addr.mk.injEq, and_true, true_and] at h'
    obtain ⟨rfl, rfl⟩ := h'
    exact hn

theorem dfsTo_skip {W : Web} {y f : Nat} {tr : List Nat} {k : Nat} (h : dfsTo W y f tr k = none) (h2 : okNext W tr k = false) : dfsTo W y f tr (k + 1) = none := by
  simp [dfsTo, h, h2]
theorem dfsTo_try {W : Web} {y f : Nat} {tr : List Nat} {k : Nat} (h : dfsTo W y f tr k = none) (h2 : okNext W tr k = true) : dfsTo W y f tr (k + 1) = dfs W y f (tr ++ [k]) := by
  simp [dfsTo, h, h2]
theorem dfsTo_stays {W : Web} {y f : Nat} {tr r : List Nat} {k : Nat} (h : dfsTo W y f tr k = some r) : ∀ n, k ≤ n → dfsTo W y f tr n = some r := by
  intro n
  induction n with
  | zero => intro hk; have : k = 0 := by omega
            subst this; exact h
  | succ n ih => intro hk
                 by_cases e : k = n + 1
                 · subst e; exact h
                 · simp [dfsTo, ih (by omega)]

/-- What a call of the closure comes to. -/
def FindPost (w : World) (B Bt By Bw Be : Nat) (W : Web) (y f : Nat) (tr : List Nat) (e : Ending) (w' : World) : Prop :=
  e = .returned (.bool (dfs W y f tr).isSome) ∧ FS w' Bt By Bw Be W y ((dfs W y f tr).getD tr) ∧ Below B w w'

set_option maxHeartbeats 4000000 in
set_option maxRecDepth 100000 in
theorem extend_any (W : Web) (y B Bt By Bw Be : Nat) (hc : W.count ≤ 10) (hB : B ≤ Bw) (o1 : Bw < By) (o2 : By < Bt) (o3 : Bt < Be) (_hy : y < W.count) (f : Nat) : ∀ (tr : List Nat) (w : World), tr ≠ [] → tr.Nodup → (∀ x ∈ tr, x < W.count) → W.count + 1 ≤ tr.length + f →
    FS w Bt By Bw Be W y tr → Calls Try.prog 76 #[.pointer (some ⟨Bt, 0, none⟩), .pointer (some ⟨By, 0, none⟩), .pointer (some ⟨Bw, 0, none⟩), .pointer (some ⟨Be, 0, none⟩)] w (FindPost w B Bt By Bw Be W y f tr) := by
  induction f with
  | zero =>
    intro tr w hne hnd hlt hf _
    have := nodup_le _ _ hnd hlt
    omega
  | succ f ih =>
    intro tr w hne hnd hlt hf hfs
    have hle := nodup_le _ _ hnd hlt
    have hpos : 1 ≤ tr.length := by cases tr with
      | nil => exact absurd rfl hne
      | cons x l => simp
    obtain ⟨i0, hi, hz0, hz1, hz2⟩ := info_parts Try.info3
    have IH := Lib.hid ih
    have HND := Lib.hid hnd
    have HLT := Lib.hid hlt
    have HFS := Lib.hid hfs
    obtain ⟨g, cap, hv, hown⟩ := hfs.tv
    have hX := FS.ints hown (fun x hx => by have := hlt x hx; omega) (by omega)
    obtain ⟨last, hlast⟩ : ∃ last, tr.getD (tr.length - 1) 0 = last := ⟨_, rfl⟩
    have hct : w.cell? ⟨g, tr.length - 1, none⟩ = some (.int .i64 (last : Int)) := by
      have := hX.cell (tr.length - 1) (by rw [ints_length]; omega)
      rw [nth_ints, hlast, Nat.zero_add] at this; exact this
    have hlast10 : last < W.count := by
      rw [← hlast]; exact hlt _ (by simp [List.getD_eq_getElem?_getD]; exact (by
        have h : tr.length - 1 < tr.length := by omega
        rw [List.getElem?_eq_getElem h]; simp))
    have c0 := cell_of_one hv
    have c1 := cell_of_one hfs.hy
    have c2 := web_cell (i := 0) hfs.hw (by omega)
    rw [show W.cell 0 = .int .i64 (W.count : Int) from rfl] at c2
    have HLAST := Lib.hid hlast
    have hIy : ((last : Int) == (y : Int)) = decide (last = y) := by
      rw [Bool.eq_iff_iff]; simp; omega
    clear hlast ih hnd hlt hfs hne hX
    by_cases e : last = y
    · have hq : ((last : Int) == (y : Int)) = true := by rw [hIy]; exact decide_eq_true e
      have HD := Lib.hid (show dfs W y (f + 1) tr = some tr by unfold dfs; rw [HLAST.out, if_pos e])
      clear hIy e
      go_enter Try.func76, Try.ntmps76
      go_wp2
      go_ret
      exact ⟨by rw [HD.out]; rfl, by rw [HD.out]; exact HFS.out, Below.refl _ _⟩
    · have hq : ((last : Int) == (y : Int)) = false := by rw [hIy]; exact decide_eq_false e
      have HD := Lib.hid (show dfs W y (f + 1) tr = dfsTo W y f tr W.count by rw [dfs, HLAST.out, if_neg e])
      clear hIy e
      go_enter Try.func76, Try.ntmps76
      go_wp2
      go_loopw [7, 20] (fun _ i wr => ∃ k : Nat, k ≤ W.count ∧ i = .int .i64 k ∧ dfsTo W y f tr k = none ∧ FS wr Bt By Bw Be W y tr ∧ Below B w wr) (fun _ i _ => W.count - (intOf i).toNat)
      case atStart => exact ⟨0, by omega, rfl, by simp [dfsTo], HFS.out, Below.refl _ _⟩
      case round =>
        obtain ⟨k, hk, rfl, hn, hfs, hb⟩ := hrel
        clear HFS hv hown
        have HN := Lib.hid hn
        have HFS := Lib.hid hfs
        have HB := Lib.hid hb
        clear hn hfs hb hct c0 c1 c2 hq
        by_cases hlt : k < W.count
        · have hA := adjacent_any W last k wr (by omega) (by omega)
          cases ea : W.adj last k
          · rw [ea] at hA
            have HA := Lib.hid hA
            have HR := Lib.hid (dfsTo_skip (f := f) (y := y) HN.out (by unfold okNext; rw [HLAST.out, ea]; simp))
            clear hA ea
            go_wp2_with (first
              | (refine wpList_load_row rfl 102 (.tmp 2) rfl Bw rfl 102 W.cells (0, 0) _ HFS.out.hw Try.underlying102 rfl (info_web _) ?_)
              | (go_at_call 77; refine HA.out.mono ?_; rintro e w1 ⟨rfl, hb1⟩; have HB1 := Lib.hid hb1; clear hb1))
            go_roundw
            case rel => exact ⟨k + 1, by omega, by go_num, HR.out, HFS.out.below HB1.out (Nat.le_refl _), HB.out.trans (HB1.out.mono (by have := HB.out.size; have := lt_of_block HFS.out.hw; omega))⟩
            case measure => simp [intOf]; omega
          · rw [ea] at hA
            have HA := Lib.hid hA
            have HEA := Lib.hid ea
            clear hA ea
            go_wp2_with (first
              | (refine wpList_load_row rfl 102 (.tmp 2) rfl Bw rfl 102 W.cells (0, 0) _ HFS.out.hw Try.underlying102 rfl (info_web _) ?_)
              | fail)
            refine HA.out.mono ?_
            rintro e w1 ⟨rfl, hb1⟩
            have HF1 := Lib.hid (HFS.out.below hb1 (Nat.le_refl _))
            have HB1 := Lib.hid (HB.out.trans (hb1.mono (by have := HB.out.size; have := lt_of_block HFS.out.hw; omega)))
            obtain ⟨g1, cap1, hv1, hown1⟩ := HF1.out.tv
            have z1 := cell_of_one hv1
            have hX1 := FS.ints hown1 (fun x hx => by have := HLT.out x hx; omega) (by omega)
            have hCon := contains_any (ints tr) (k : Int) (some ⟨g1, 0, none⟩) g1 0 cap1 w1 hX1
            rw [ints_length, hasI_ints] at hCon
            clear hb1 hv1 hown1 hX1
            cases ec : decide (k ∈ tr)
            · rw [ec] at hCon
              have HCon := Lib.hid hCon
              have HC := Lib.hid ec
              clear hCon ec
              go_wp2_with fail
              refine HCon.out.mono ?_
              rintro e w2 ⟨rfl, hb2⟩
              have HF2 := Lib.hid (HF1.out.below hb2 (Nat.le_refl _))
              have HB2 := Lib.hid (HB1.out.trans (hb2.mono (by have := HB1.out.size; have := lt_of_block HF1.out.hw; omega)))
              clear hb2 z1
              by_cases hone : tr.length ≤ 1
              · have d1 : decide (1 < tr.length) = false := by simp; omega
                have d2 : decide ((1 : Int) < (tr.length : Int)) = false := by simp; omega
                have HOKN := Lib.hid (show okNext W tr k = true by unfold okNext; rw [HLAST.out, HEA.out, HC.out, decide_eq_true hone]; rfl)
                clear hone
                go_wp2
                go_quiet (fail)
                have HZ : Hid (FS (w2.drewN nq) Bt By Bw Be W y tr) := HF2.out.below (below_drewN (Below.refl w2.heap.size _) _) (Nat.le_refl _)
                have HBZ := Lib.hid (below_drewN HB2.out nq)
                obtain ⟨wz, hwz⟩ : ∃ wz, wz = w2.drewN nq := ⟨_, rfl⟩
                rw [← hwz] at HZ HBZ ⊢
                clear hwz d1 d2
                have hzs := lt_of_block HZ.out.he
                obtain ⟨g3, cap3, hv3, hown3⟩ := HZ.out.tv
                have z0 := cell_of_one hv3
                have zf := free_of_one hv3
                have HV3 := Lib.hid hv3
                clear hv3
                go_wp2_with (at_builtin; refine wpList_append_own _ rfl (.tmp 47) (.tmp 49) 25 rfl (By + 1) 3 i0 (.int .i64 0) 1 8 Try.underlying25 hi hz0 hz1 hz2 rfl (by decide) _ tr.length _ rfl (hown3.alloc _) ⟨wz.heap.size, 0, none⟩ 1 1 [.int .i64 (k : Int)] rfl rfl (cell_one_new _ _ _) (by simp [Value.oneCell']) ?c3 ?c4 ?c5 ?_)
                case c3 => unfold maxLen; omega
                case c4 => omega
                case c5 => simp; omega
                intro v' w4 hown4 hg4 _
                have hgr : ∀ q, q < wz.heap.size → q ≠ g3 → w4.heap[q]? = wz.heap[q]? := fun q hq hne => by
                  rw [hg4.block q (by simp; omega) (fun e => hne (by simpa [Value.ownBlock] using e)), Below.heap_alloc _ _ _ hq]
                have hg3 := (own_block hown3)
                have n1 : Bt ≠ g3 := fun e => by have := HV3.out; rw [e] at this; obtain ⟨c, hc⟩ := hg3.2; rw [hc] at this; simp at this
                have n2 : Be ≠ g3 := fun e => by have := HZ.out.he; rw [e] at this; obtain ⟨c, hc⟩ := hg3.2; rw [hc] at this; simp at this
                have l1 := lt_of_block HV3.out
                have k1 := (hgr Bt l1 n1).trans HV3.out
                have k2 := (hgr Be hzs n2).trans HZ.out.he
                have k3 := (hgr By (by omega) (by omega)).trans HZ.out.hy
                have k4 := (hgr Bw (by omega) (by omega)).trans HZ.out.hw
                obtain ⟨g4, cap4, rfl, hg4b⟩ := slice_of_own hown4
                have hg4' := (own_block hown4)
                have n4 : g4 ≠ Bt := fun e => by rw [← e] at k1; obtain ⟨c, hc⟩ := hg4'.2; rw [hc] at k1; simp at k1
                have HB4 := Lib.hid ((HBZ.out.alloc (by omega) (.cells #[.int .i64 (k : Int)] 3)).grown hg4 (by simp; omega) (fun r hr => by have h1 := hg3.1; have h3 : g3 = r := (by simpa [Value.ownBlock] using hr); omega))
                have m1 := one_setCell (u := .slice (some ⟨g4, 0, none⟩) (tr.length + 1) cap4) k1
                have HFS4 : Hid (FS (w4.setCell ⟨Bt, 0, none⟩ (.slice (some ⟨g4, 0, none⟩) (tr.length + 1) cap4)) Bt By Bw Be W y (tr ++ [k])) :=
                  ⟨⟨g4, cap4, by simpa using m1, by simpa [ints_append] using ownsRow_setCell_other hown4 (a := ⟨Bt, 0, none⟩) (by simpa [Value.ownBlock] using n4) _⟩, (heap_setCell_other _ _ _ _ (by show By ≠ Bt; omega)).trans k3, (heap_setCell_other _ _ _ _ (by show Bw ≠ Bt; omega)).trans k4, (heap_setCell_other _ _ _ _ (by show Be ≠ Bt; omega)).trans k2⟩
                have HB5 := Lib.hid (HB4.out.setCell (p := ⟨Bt, 0, none⟩) (by show B ≤ Bt; omega) (.slice (some ⟨g4, 0, none⟩) (tr.length + 1) cap4))
                have q1 := cell_of_one k1
                have q1f := free_of_one k1
                have q2 := cell_of_one (HFS4.out.he)
                clear hgr hown4 hg4 hown3 k1 k2 k3 k4 m1 z0 zf
                go_wp2_with fail
                have hnk : ¬ k ∈ tr := of_decide_eq_false HC.out
                refine (IH.out (tr ++ [k]) _ (by simp) (nodup_snoc HND.out hnk) (by simp; intro x hx; rcases hx with hx | hx; exact HLT.out x hx; omega) (by simp; omega) HFS4.out).mono ?_
                rintro e w6 ⟨rfl, hfs6, hb6⟩
                have HB6 := Lib.hid (HB5.out.trans hb6)
                have HTR := Lib.hid (dfsTo_try HN.out HOKN.out)
                clear hb6 q1 q1f q2 hnk
                cases ed : dfs W y f (tr ++ [k]) with
                | some r =>
                  rw [ed] at hfs6
                  have HR := Lib.hid (dfsTo_stays (HTR.out.trans ed) W.count (by omega))
                  have HF6 := Lib.hid hfs6
                  clear ed hfs6
                  go_wp2
                  go_ret
                  exact ⟨by rw [HD.out, HR.out]; rfl, by rw [HD.out, HR.out]; exact HF6.out, HB6.out⟩
                | none =>
                  rw [ed] at hfs6
                  have HR := Lib.hid (HTR.out.trans ed)
                  obtain ⟨g7, cap7, hv7, hown7⟩ := hfs6.tv
                  have y0 := cell_of_one hv7
                  have yf := free_of_one hv7
                  simp only [Option.getD_none, List.length_append, List.length_singleton] at y0 hv7 hown7
                  have hcap7 := own_cap hown7
                  have HV7 := Lib.hid hv7
                  have HF6 := Lib.hid hfs6
                  have hown8 := ownsRow_take (k := tr.length) hown7 (by omega)
                  have hg7 := own_block hown7
                  have n7 : g7 ≠ Bt := fun e => by have := hv7; rw [← e] at this; obtain ⟨c, hc⟩ := hg7.2; rw [hc] at this; simp at this
                  have HO8 := Lib.hid hown8
                  clear ed hfs6 hv7 hown7 hown8 hg7
                  go_wp2
                  go_roundw
                  case rel =>
                    refine ⟨k + 1, by omega, by go_num, HR.out, ⟨⟨g7, cap7, one_setCell HV7.out, ?_⟩, (heap_setCell_other _ _ _ _ (by show By ≠ Bt; omega)).trans HF6.out.hy, (heap_setCell_other _ _ _ _ (by show Bw ≠ Bt; omega)).trans HF6.out.hw, (heap_setCell_other _ _ _ _ (by show Be ≠ Bt; omega)).trans HF6.out.he⟩, HB6.out.setCell (by show B ≤ Bt; omega) _⟩
                    have := ownsRow_setCell_other HO8.out (a := ⟨Bt, 0, none⟩) (by simpa [Value.ownBlock] using n7) (.slice (some ⟨g7, 0, none⟩) tr.length cap7)
                    rw [ints_append, List.map_append, List.take_left' (by simp [ints_length])] at this
                    exact this
                  case measure => simp [intOf]; omega
              · have HONE := Lib.hid hone
                have d1 : decide (1 < tr.length) = true := by simp; omega
                have d2 : decide ((1 : Int) < (tr.length : Int)) = true := by simp; omega
                obtain ⟨pre, hpre⟩ : ∃ pre, tr.getD (tr.length - 2) 0 = pre := ⟨_, rfl⟩
                have hpl : pre < W.count := by
                  rw [← hpre]; exact HLT.out _ (by
                    have h : tr.length - 2 < tr.length := by omega
                    rw [List.getD_eq_getElem?_getD, List.getElem?_eq_getElem h]; simp)
                obtain ⟨g2, cap2, hv2, hown2⟩ := HF2.out.tv
                have hX2 := FS.ints hown2 (fun x hx => by have := HLT.out x hx; omega) (by omega)
                have hp2 : w2.cell? ⟨g2, tr.length - 2, none⟩ = some (.int .i64 (pre : Int)) := by
                  have := hX2.cell (tr.length - 2) (by rw [ints_length]; omega)
                  rw [nth_ints, hpre, Nat.zero_add] at this; exact this
                have hg2 := World.block_lt_of_cell? _ _ hp2
                have hsz2 := lt_of_block HF2.out.hw
                have hszt := lt_of_block hv2
                have hsub : IntKind.i64.wrap ((tr.length : Int) - 2) = (tr.length : Int) - 2 := by rw [IntKind.wrap_i64]; omega
                have HPA := Lib.hid (fun w' => passes_any W pre last k w' (by omega) (by omega) (by omega))
                have HPRE := Lib.hid hpre
                have HC2 : Hid (∀ w', Below w2.heap.size w2 w' → w'.heap[Bw]? = some (.cells W.cells 102 (0, 0)) ∧ w'.cell? ⟨Bt, 0, none⟩ = some (.slice (some ⟨g2, 0, none⟩) tr.length cap2) ∧ w'.cell? ⟨g2, tr.length - 2, none⟩ = some (.int .i64 (pre : Int))) :=
                  fun w' h => ⟨(h.block _ hsz2).trans HF2.out.hw, (h.cell (p := ⟨Bt, 0, none⟩) hszt).trans (cell_of_one hv2), (h.cell (p := ⟨g2, tr.length - 2, none⟩) hg2).trans hp2⟩
                clear hv2 hown2 hX2 hp2 hpre
                go_wp2
                refine wp_region_quiet (C := fun w' => Below w2.heap.size w2 w') (by kernel_rfl) (by kernel_rfl) (Below.refl _ _).drew ?_
                refine quiet_next rfl (fun K hK => quiet_val (.int .i64 (tr.length : Int)) (fun w' h => by go_simp) (hK _ ?_))
                try go_frame
                refine quiet_next rfl (fun K hK => quiet_val (.bool true) (fun w' h => by go_simp) (hK _ ?_))
                try go_frame
                refine quiet_next rfl (fun K hK => quiet_val (.bool true) (fun w' h => by go_simp) (hK _ ?_))
                try go_frame
                refine BigFrame.wpQuiet_want (by kernel_rfl) (fun K hK => quiet_load 102 (.tmp 2) rfl Bw rfl 102 W.cells (0, 0) _ (fun w' h => (HC2.out w' h).1) Try.underlying102 rfl (info_web _) (hK _ ?_))
                try go_frame
                refine BigFrame.wpQuiet_want (by kernel_rfl) (fun K hK => quiet_val (.slice (some ⟨g2, 0, none⟩) tr.length cap2) (fun w' h => by obtain ⟨_, c1, c2⟩ := HC2.out w' h; go_simp) (hK _ ?_))
                try go_frame
                refine BigFrame.wpQuiet_want (by kernel_rfl) (fun K hK => quiet_val (.int .i64 (tr.length : Int)) (fun w' h => by go_simp) (hK _ ?_))
                try go_frame
                refine BigFrame.wpQuiet_want (by kernel_rfl) (fun K hK => quiet_val (.int .i64 ((tr.length : Int) - 2)) (fun w' h => by go_simp) (hK _ ?_))
                try go_frame
                refine BigFrame.wpQuiet_want (by kernel_rfl) (fun K hK => quiet_val (.pointer (some ⟨g2, tr.length - 2, none⟩)) (fun w' h => by go_simp; rw [if_pos ⟨by omega, by omega⟩, show ((tr.length : Int) - 2).toNat = tr.length - 2 by omega]) (hK _ ?_))
                try go_frame
                refine BigFrame.wpQuiet_want (by kernel_rfl) (fun K hK => quiet_val (.int .i64 (pre : Int)) (fun w' h => by obtain ⟨_, c1, c2⟩ := HC2.out w' h; go_simp) (hK _ ?_))
                try go_frame
                refine BigFrame.wpQuiet_want (by kernel_rfl) (fun K hK => quiet_val (.int .i64 (last : Int)) (fun w' h => by go_simp) (hK _ ?_))
                try go_frame
                refine BigFrame.wpQuiet_want (by kernel_rfl) (fun K hK => quiet_val (.int .i64 (k : Int)) (fun w' h => by go_simp) (hK _ ?_))
                try go_frame
                refine BigFrame.wpQuiet_want (by kernel_rfl) (fun K hK => quiet_call 79 #[.agg W.cells, .int .i64 (pre : Int), .int .i64 (last : Int), .int .i64 (k : Int)] (.bool (W.pass pre last k)) (fun w' h => by go_simp) (fun w' h => ?_) (hK _ ?_))
                · refine (HPA.out w').mono ?_
                  rintro e w'' ⟨rfl, hb⟩
                  exact ⟨rfl, h.trans (hb.mono h.size)⟩
                try go_frame
                refine BigFrame.wpQuiet_want (by kernel_rfl) (fun K hK => quiet_val (.bool (!W.pass pre last k)) (fun w' h => by go_simp) (hK _ ?_))
                try go_frame
                refine BigFrame.wpQuiet_want (by kernel_rfl) (fun K hK => quiet_val (.bool (!W.pass pre last k)) (fun w' h => by go_simp) (hK _ ?_))
                try go_frame
                refine wpQuiet_nil (fun wz hz => ?_)
                try go_frame
                have HZ := Lib.hid (HF2.out.below hz (Nat.le_refl _))
                have HBZ := Lib.hid (HB2.out.trans (hz.mono (by have := HB2.out.size; omega)))
                clear hz d1 d2 hsub
                cases ep : W.pass pre last k
                · have HR := Lib.hid (dfsTo_skip (f := f) (y := y) HN.out (show okNext W tr k = false by unfold okNext; rw [HLAST.out, HPRE.out, ep, decide_eq_false HONE.out]; simp))
                  clear ep
                  go_wp2
                  go_roundw
                  case rel => exact ⟨k + 1, by omega, by go_num, HR.out, HZ.out, HBZ.out⟩
                  case measure => simp [intOf]; omega
                · have HOKN := Lib.hid (show okNext W tr k = true by unfold okNext; rw [HLAST.out, HPRE.out, HEA.out, HC.out, ep, decide_eq_false HONE.out]; rfl)
                  clear ep
                  have hzs := lt_of_block HZ.out.he
                  obtain ⟨g3, cap3, hv3, hown3⟩ := HZ.out.tv
                  have z0 := cell_of_one hv3
                  have zf := free_of_one hv3
                  have HV3 := Lib.hid hv3
                  clear hv3
                  go_wp2_with (at_builtin; refine wpList_append_own _ rfl (.tmp 47) (.tmp 49) 25 rfl (By + 1) 3 i0 (.int .i64 0) 1 8 Try.underlying25 hi hz0 hz1 hz2 rfl (by decide) _ tr.length _ rfl (hown3.alloc _) ⟨wz.heap.size, 0, none⟩ 1 1 [.int .i64 (k : Int)] rfl rfl (cell_one_new _ _ _) (by simp [Value.oneCell']) ?c3 ?c4 ?c5 ?_)
                  case c3 => unfold maxLen; omega
                  case c4 => omega
                  case c5 => simp; omega
                  intro v' w4 hown4 hg4 _
                  have hgr : ∀ q, q < wz.heap.size → q ≠ g3 → w4.heap[q]? = wz.heap[q]? := fun q hq hne => by
                    rw [hg4.block q (by simp; omega) (fun e => hne (by simpa [Value.ownBlock] using e)), Below.heap_alloc _ _ _ hq]
                  have hg3 := (own_block hown3)
                  have n1 : Bt ≠ g3 := fun e => by have := HV3.out; rw [e] at this; obtain ⟨c, hc⟩ := hg3.2; rw [hc] at this; simp at this
                  have n2 : Be ≠ g3 := fun e => by have := HZ.out.he; rw [e] at this; obtain ⟨c, hc⟩ := hg3.2; rw [hc] at this; simp at this
                  have l1 := lt_of_block HV3.out
                  have k1 := (hgr Bt l1 n1).trans HV3.out
                  have k2 := (hgr Be hzs n2).trans HZ.out.he
                  have k3 := (hgr By (by omega) (by omega)).trans HZ.out.hy
                  have k4 := (hgr Bw (by omega) (by omega)).trans HZ.out.hw
                  obtain ⟨g4, cap4, rfl, hg4b⟩ := slice_of_own hown4
                  have hg4' := (own_block hown4)
                  have n4 : g4 ≠ Bt := fun e => by rw [← e] at k1; obtain ⟨c, hc⟩ := hg4'.2; rw [hc] at k1; simp at k1
                  have HB4 := Lib.hid ((HBZ.out.alloc (by omega) (.cells #[.int .i64 (k : Int)] 3)).grown hg4 (by simp; omega) (fun r hr => by have h1 := hg3.1; have h3 : g3 = r := (by simpa [Value.ownBlock] using hr); omega))
                  have m1 := one_setCell (u := .slice (some ⟨g4, 0, none⟩) (tr.length + 1) cap4) k1
                  have HFS4 : Hid (FS (w4.setCell ⟨Bt, 0, none⟩ (.slice (some ⟨g4, 0, none⟩) (tr.length + 1) cap4)) Bt By Bw Be W y (tr ++ [k])) :=
                    ⟨⟨g4, cap4, by simpa using m1, by simpa [ints_append] using ownsRow_setCell_other hown4 (a := ⟨Bt, 0, none⟩) (by simpa [Value.ownBlock] using n4) _⟩, (heap_setCell_other _ _ _ _ (by show By ≠ Bt; omega)).trans k3, (heap_setCell_other _ _ _ _ (by show Bw ≠ Bt; omega)).trans k4, (heap_setCell_other _ _ _ _ (by show Be ≠ Bt; omega)).trans k2⟩
                  have HB5 := Lib.hid (HB4.out.setCell (p := ⟨Bt, 0, none⟩) (by show B ≤ Bt; omega) (.slice (some ⟨g4, 0, none⟩) (tr.length + 1) cap4))
                  have q1 := cell_of_one k1
                  have q1f := free_of_one k1
                  have q2 := cell_of_one (HFS4.out.he)
                  clear hgr hown4 hg4 hown3 k1 k2 k3 k4 m1 z0 zf
                  go_wp2_with fail
                  have hnk : ¬ k ∈ tr := of_decide_eq_false HC.out
                  refine (IH.out (tr ++ [k]) _ (by simp) (nodup_snoc HND.out hnk) (by simp; intro x hx; rcases hx with hx | hx; exact HLT.out x hx; omega) (by simp; omega) HFS4.out).mono ?_
                  rintro e w6 ⟨rfl, hfs6, hb6⟩
                  have HB6 := Lib.hid (HB5.out.trans hb6)
                  have HTR := Lib.hid (dfsTo_try HN.out HOKN.out)
                  clear hb6 q1 q1f q2 hnk
                  cases ed : dfs W y f (tr ++ [k]) with
                  | some r =>
                    rw [ed] at hfs6
                    have HR := Lib.hid (dfsTo_stays (HTR.out.trans ed) W.count (by omega))
                    have HF6 := Lib.hid hfs6
                    clear ed hfs6
                    go_wp2
                    go_ret
                    exact ⟨by rw [HD.out, HR.out]; rfl, by rw [HD.out, HR.out]; exact HF6.out, HB6.out⟩
                  | none =>
                    rw [ed] at hfs6
                    have HR := Lib.hid (HTR.out.trans ed)
                    obtain ⟨g7, cap7, hv7, hown7⟩ := hfs6.tv
                    have y0 := cell_of_one hv7
                    have yf := free_of_one hv7
                    simp only [Option.getD_none, List.length_append, List.length_singleton] at y0 hv7 hown7
                    have hcap7 := own_cap hown7
                    have HV7 := Lib.hid hv7
                    have HF6 := Lib.hid hfs6
                    have hown8 := ownsRow_take (k := tr.length) hown7 (by omega)
                    have hg7 := own_block hown7
                    have n7 : g7 ≠ Bt := fun e => by have := hv7; rw [← e] at this; obtain ⟨c, hc⟩ := hg7.2; rw [hc] at this; simp at this
                    have HO8 := Lib.hid hown8
                    clear ed hfs6 hv7 hown7 hown8 hg7
                    go_wp2
                    go_roundw
                    case rel =>
                      refine ⟨k + 1, by omega, by go_num, HR.out, ⟨⟨g7, cap7, one_setCell HV7.out, ?_⟩, (heap_setCell_other _ _ _ _ (by show By ≠ Bt; omega)).trans HF6.out.hy, (heap_setCell_other _ _ _ _ (by show Bw ≠ Bt; omega)).trans HF6.out.hw, (heap_setCell_other _ _ _ _ (by show Be ≠ Bt; omega)).trans HF6.out.he⟩, HB6.out.setCell (by show B ≤ Bt; omega) _⟩
                      have := ownsRow_setCell_other HO8.out (a := ⟨Bt, 0, none⟩) (by simpa [Value.ownBlock] using n7) (.slice (some ⟨g7, 0, none⟩) tr.length cap7)
                      rw [ints_append, List.map_append, List.take_left' (by simp [ints_length])] at this
                      exact this
                    case measure => simp [intOf]; omega
            · rw [ec] at hCon
              have HCon := Lib.hid hCon
              have HR := Lib.hid (dfsTo_skip (f := f) (y := y) HN.out (by unfold okNext; rw [ec]; simp))
              clear hCon ec
              go_wp2_with fail
              refine HCon.out.mono ?_
              rintro e w2 ⟨rfl, hb2⟩
              have HB2 := Lib.hid hb2
              clear hb2
              go_wp2
              go_roundw
              case rel => exact ⟨k + 1, by omega, by go_num, HR.out, HF1.out.below HB2.out (Nat.le_refl _), HB1.out.trans (HB2.out.mono (by have := HB1.out.size; have := lt_of_block HF1.out.hw; omega))⟩
              case measure => simp [intOf]; omega
        · have e : k = W.count := by omega
          have HR := Lib.hid (show dfsTo W y f tr W.count = none by rw [← e]; exact HN.out)
          clear e
          go_wp2
          go_ret
          exact ⟨by rw [HD.out, HR.out]; rfl, by rw [HD.out, HR.out]; exact HFS.out, HB.out⟩

end Go.Proofs.Ytghffnjnpgiicaa

/- The search for a trail; Separated. -/
namespace Go.Proofs.Ytghffnjnpgiicaa
open Go.RowKit

/-- What find hands back. -/
def FindRes (w : World) (r : Option (List Nat)) (e : Ending) (w' : World) : Prop :=
  ∃ v, e = .returned v ∧ NewInts w.heap.size w' v (ints (r.getD [])) ∧ (r = none → v = .slice none 0 0) ∧ Below w.heap.size w w'

/-- What each step keeps, the found trail has; it ends at y. -/
theorem dfs_keeps (W : Web) (y : Nat) (P : List Nat → Prop) (hP : ∀ tr k, P tr → k < W.count → okNext W tr k = true → P (tr ++ [k])) (f : Nat) :
    ∀ tr r, P tr → dfs W y f tr = some r → P r ∧ r.getD (r.length - 1) 0 = y := by
  induction f with
  | zero => intro tr r _ h; simp [dfs] at h
  | succ f ih =>
    intro tr r hp h
    rw [dfs] at h
    by_cases e : tr.getD (tr.length - 1) 0 = y
    · rw [if_pos e] at h
      obtain rfl := Option.some.inj h
      exact ⟨hp, e⟩
    · rw [if_neg e] at h
      have aux : ∀ k, k ≤ W.count → dfsTo W y f tr k = some r → P r ∧ r.getD (r.length - 1) 0 = y := by
        intro k
        induction k with
        | zero => intro _ h; simp [dfsTo] at h
        | succ k ihk =>
          intro hk h
          rw [dfsTo] at h
          cases ed : dfsTo W y f tr k with
          | some r' => rw [ed] at h; obtain rfl := Option.some.inj h; exact ihk (by omega) ed
          | none =>
            rw [ed] at h
            cases eo : okNext W tr k
            · rw [eo] at h; simp at h
            · rw [eo] at h
              exact ih _ _ (hP tr k hp (by omega) eo) (by simpa using h)
      exact aux W.count (Nat.le_refl _) h
theorem okNext_new {W : Web} {tr : List Nat} {k : Nat} (h : okNext W tr k = true) : ¬ k ∈ tr := by
  unfold okNext at h
  simp only [Bool.and_eq_true, Bool.not_eq_true', decide_eq_false_iff_not] at h
  exact h.1.2
theorem dfs_plain {W : Web} {y f : Nat} {tr r : List Nat} (h : dfs W y f tr = some r) (hne : tr ≠ []) (hnd : tr.Nodup) (hlt : ∀ x ∈ tr, x < W.count) : r ≠ [] ∧ r.Nodup ∧ ∀ x ∈ r, x < W.count :=
  (dfs_keeps W y (fun tr => tr ≠ [] ∧ tr.Nodup ∧ ∀ x ∈ tr, x < W.count) (fun tr k ⟨_, h2, h3⟩ hk ho => ⟨by simp, nodup_snoc h2 (okNext_new ho), fun x hx => by
    simp at hx; rcases hx with hx | hx
    · exact h3 x hx
    · omega⟩) f tr r ⟨hne, hnd, hlt⟩ h).1
theorem own_base {w : World} {B B' n : Nat} {v : Value} {xs : List Value} (h : w.ownsRow B 3 1 v n xs) (hB : B' ≤ B) : w.ownsRow B' 3 1 v n xs := by
  refine ⟨h.1, ?_⟩
  rcases h.2 with h2 | ⟨g, cap, cur, hv, hg, rest⟩
  · exact .inl h2
  · exact .inr ⟨g, cap, cur, hv, by omega, rest⟩

/-- Memory before the search. -/
theorem find_start (w : World) (a b c d e : Obj) : ∃ w5, w5 = ((((w.alloc a).alloc b).alloc c).alloc d).alloc e ∧ w5.heap[w.heap.size]? = some a ∧ w5.heap[w.heap.size + 1]? = some b ∧ w5.heap[w.heap.size + 1 + 1]? = some c ∧ w5.heap[w.heap.size + 1 + 1 + 1]? = some d ∧ w5.heap[w.heap.size + 1 + 1 + 1 + 1]? = some e ∧ Below w.heap.size w w5 := by
  have o : ∀ (w : World) (o : Obj) (i : Nat), i < w.heap.size → (w.alloc o).heap[i]? = w.heap[i]? := fun w o i h => Below.heap_alloc w o i h
  refine ⟨_, rfl, ?_, ?_, ?_, ?_, ?_, (((((Below.refl _ w).alloc (by simp) a).alloc (by simp) b).alloc (by simp; omega) c).alloc (by simp; omega) d).alloc (by simp; omega) e⟩
  · rw [o _ _ _ (by simp; omega), o _ _ _ (by simp; omega), o _ _ _ (by simp; omega), o _ _ _ (by simp), heap_alloc_new]
  · rw [o _ _ _ (by simp), o _ _ _ (by simp), o _ _ _ (by simp)]
    have := heap_alloc_new (w.alloc a) b
    simpa using this
  · rw [o _ _ _ (by simp), o _ _ _ (by simp)]
    have := heap_alloc_new ((w.alloc a).alloc b) c
    simpa using this
  · rw [o _ _ _ (by simp)]
    have := heap_alloc_new (((w.alloc a).alloc b).alloc c) d
    simpa using this
  · have := heap_alloc_new ((((w.alloc a).alloc b).alloc c).alloc d) e
    simpa using this
theorem find_e (w : World) (a b c d e : Obj) : (((((w.alloc a).alloc b).alloc c).alloc d).alloc e).heap[w.heap.size + 1 + 1 + 1 + 1]? = some e := by
  obtain ⟨_, rfl, h⟩ := find_start w a b c d e
  exact h.2.2.2.2.1

/-- .. with the closure in its place. -/
theorem find_fs (W : Web) (x y : Nat) (w : World) (_hx : x < W.count) (_hc : W.count ≤ 10) : ∃ w6, (((((w.alloc (Obj.cells W.cells 102)).alloc (Obj.cells #[Value.int IntKind.i64 ↑y] 3)).alloc (Obj.cells #[Value.int IntKind.i64 ↑x] 3)).alloc (Obj.cells #[Value.slice (some { block := w.heap.size + 1 + 1, off := 0 }) 1 1] 25)).alloc (Obj.cells #[Value.nilFunc] 34)).setRow (w.heap.size + 1 + 1 + 1 + 1) #[.func (.func 76) #[] #[.pointer (some ⟨w.heap.size + 1 + 1 + 1, 0, none⟩), .pointer (some ⟨w.heap.size + 1, 0, none⟩), .pointer (some ⟨w.heap.size, 0, none⟩), .pointer (some ⟨w.heap.size + 1 + 1 + 1 + 1, 0, none⟩)]] = w6 ∧
    FS w6 (w.heap.size + 1 + 1 + 1) (w.heap.size + 1) w.heap.size (w.heap.size + 1 + 1 + 1 + 1) W y [x] ∧ Below w.heap.size w w6 := by
  obtain ⟨w5, e5, f0, f1, f2, f3, f4, hb5⟩ := find_start w (Obj.cells W.cells 102) (Obj.cells #[Value.int IntKind.i64 ↑y] 3) (Obj.cells #[Value.int IntKind.i64 ↑x] 3) (Obj.cells #[Value.slice (some { block := w.heap.size + 1 + 1, off := 0 }) 1 1] 25) (Obj.cells #[Value.nilFunc] 34)
  refine ⟨_, rfl, ?_, ?_⟩
  · rw [← e5]
    refine ⟨⟨w.heap.size + 1 + 1, 1, (setRow_other _ _ _ _ (by omega)).trans f3, by simp [ints], .inr ⟨w.heap.size + 1 + 1, 1, #[.int .i64 x], rfl, by omega, (setRow_other _ _ _ _ (by omega)).trans f2, by simp, by unfold maxLen; omega, by simp, by simp [ints]⟩⟩, (setRow_other _ _ _ _ (by omega)).trans f1, (setRow_other _ _ _ _ (by omega)).trans f0, setRow_heap _ _ _ _ _ _ f4⟩
  · rw [← e5]
    exact below_setRow hb5 (by omega) _

set_option maxHeartbeats 4000000 in
set_option maxRecDepth 100000 in
theorem find_any (W : Web) (x y : Nat) (w : World) (hc : W.count ≤ 10) (hx : x < W.count) (hy : y < W.count) :
    Calls Try.prog 61 #[.agg W.cells, .int .i64 x, .int .i64 y] w (FindRes w (dfs W y W.count [x])) := by
  obtain ⟨w6, e6, hfs, hb6⟩ := find_fs W x y w hx hc
  have HW := Lib.hid e6
  have HFS := Lib.hid hfs
  have HB := Lib.hid hb6
  have c0 := cell_of_one hfs.he
  clear e6 hfs hb6
  obtain ⟨r0, hr0⟩ : ∃ r0, r0 = dfs W y W.count [x] := ⟨_, rfl⟩
  rw [← hr0]
  have HR0 := Lib.hid hr0
  clear hr0
  go_enter Try.func61, Try.ntmps61
  go_wp2_with (first
    | (refine wpList_store_oneTo rfl 34 (.tmp 8) (.tmp 11) rfl rfl (w.heap.size + 1 + 1 + 1 + 1) _ rfl rfl rfl 34 .nilFunc ?hg rfl ?_; exact find_e _ _ _ _ _ _; refine wpList_world HW.out ?_)
    | fail)
  refine (extend_any W y w.heap.size (w.heap.size + 1 + 1 + 1) (w.heap.size + 1) w.heap.size (w.heap.size + 1 + 1 + 1 + 1) hc (by omega) (by omega) (by omega) (by omega) hy W.count [x] w6 (by simp) (by simp) (by simp [hx]) (by simp; omega) HFS.out).mono ?_
  rintro e w7 ⟨rfl, hfs7, hb7⟩
  rw [← HR0.out] at hfs7 ⊢
  have HB7 := Lib.hid (HB.out.trans hb7)
  clear hb7 c0 HW HFS
  cases r0 with
  | none =>
    clear hfs7
    go_wp2
    go_ret
    exact ⟨_, rfl, ⟨own_nil _ _, by simp [nth, ints], by simp [ints]⟩, fun _ => rfl, HB7.out⟩
  | some r =>
    obtain ⟨g, cap, hv, hown⟩ := hfs7.tv
    have c1 := cell_of_one hv
    have HO := Lib.hid hown
    clear hv hown hfs7
    go_wp2
    go_ret
    have h1 := HO.out
    obtain ⟨_, hnd, hlt⟩ := dfs_plain HR0.out.symm (by simp) (by simp) (by simp [hx])
    have hl := nodup_le _ _ hnd hlt
    refine ⟨_, rfl, ⟨?_, fun i => ?_, ?_⟩, (fun h => by simp at h), HB7.out⟩
    · rw [ints_length]
      exact own_base h1 (by omega)
    · rw [nth_ints]
      simp only [Option.getD_some]
      by_cases hi : i < r.length
      · have := hlt (r.getD i 0) (by simp [List.getD_eq_getElem?_getD, hi])
        omega
      · rw [show r.getD i 0 = 0 by simp [List.getD_eq_getElem?_getD, List.getElem?_eq_none (by omega : r.length ≤ i)]]
        omega
    · rw [ints_length]
      simp only [Option.getD_some]
      omega

end Go.Proofs.Ytghffnjnpgiicaa

/- Separated: variables and a set that are valid. -/
namespace Go.Proofs.Ytghffnjnpgiicaa
open Go.RowKit

/-- The trail that Separated looks for. -/
def sepTrail (P : List (List Int)) (xs : List Int) (x y : Nat) : Option (List Nat) :=
  dfs (webOf P (fun v => hasI xs (v : Int))) y P.length [x]

def SepRes (w : World) (r : Option (List Nat)) (e : Ending) (w' : World) : Prop :=
  ∃ v, e = .returned (.tuple #[.bool r.isNone, v, .int .i64 0]) ∧ NewInts w.heap.size w' v (ints (r.getD [])) ∧ (r = none → v = .slice none 0 0) ∧ Below w.heap.size w w'

theorem info_mem (m : Nat → Bool) : (Try.prog.info? 97).map (·.size) = some (memF m).size := by
  rw [show (memF m).size = 10 by simp [memF, arrF_size]]; kernel_rfl
theorem old_mem (m : Nat → Bool) : (#[.bool false, .bool false, .bool false, .bool false, .bool false, .bool false, .bool false, .bool false, .bool false, .bool false] : Array Value).size = (memF m).size := by simp [memF, arrF_size]

/-- A new variable with a set in it. -/
theorem mem_world (w2 : World) (m : Nat → Bool) : ∃ w3, (w2.alloc (.cells #[.bool false, .bool false, .bool false, .bool false, .bool false, .bool false, .bool false, .bool false, .bool false, .bool false] 97)).setRow w2.heap.size (memF m) = w3 ∧
    w3.heap[w2.heap.size]? = some (.cells (memF m) 97 (0, 0)) ∧ Below w2.heap.size w2 w3 :=
  ⟨_, rfl, setRow_heap _ _ _ _ _ _ (heap_alloc_new _ _), below_setRow ((Below.refl _ _).alloc (Nat.le_refl _) _) (Nat.le_refl _) _⟩

set_option maxHeartbeats 4000000 in
set_option maxRecDepth 100000 in
theorem sep_ok (P T : List (List Int)) (v : Value) (xs : List Int) (x y : Nat) (ao : Option Addr) (xb xo xc : Nat) (w : World) (h : NetAt w v P T) (hX : IntsAt w ao xb xo xs) (hn : isNet P T = true)
    (hx : x < P.length) (hy : y < P.length) (hxy : x ≠ y) (ho : okSet xs P.length = true) (h1 : hasI xs (x : Int) = false) (h2 : hasI xs (y : Int) = false) :
    Calls Try.prog 27 #[v, .int .i64 x, .int .i64 y, .slice ao xs.length xc] w (SepRes w (sepTrail P xs x y)) := by
  have HNet := Lib.hid h
  have HN' := Lib.hid hn
  have HN := Lib.hid (of_decide_eq_true hn : IsNet P T)
  have HX := Lib.hid hX
  have HO := Lib.hid ho
  obtain ⟨pa, b, o, pc, A, B, O, C, ta, b', o', tc, A', B', O', C', rfl, hP, hT⟩ := h.ex
  have h10 := HN.out.le
  have hv1 := fun w => isVariable_any (x : Int) P.length w
  have hv2 := fun w => isVariable_any (y : Int) P.length w
  rw [show isVar (x : Int) P.length = true from decide_eq_true (by omega)] at hv1
  rw [show isVar (y : Int) P.length = true from decide_eq_true (by omega)] at hv2
  have HV1 := Lib.hid hv1
  have HV2 := Lib.hid hv2
  have hq : ((x : Int) == (y : Int)) = false := by rw [beq_eq_false_iff_ne]; omega
  clear hP hT h hn hX ho hv1 hv2 hxy
  obtain ⟨r, hr⟩ : ∃ r, sepTrail P xs x y = r := ⟨_, rfl⟩
  rw [hr]
  have HR := Lib.hid hr
  clear hr
  go_enter Try.func27, Try.ntmps27
  go_wp2_with fail
  refine (isNetwork_any P T _ _ (HNet.out.alloc _)).mono ?_
  rw [HN'.out]
  rintro e w1 ⟨rfl, hb1⟩
  have HB1 := Lib.hid hb1
  have c0 := (HB1.out.block w.heap.size (by simp)).trans (heap_alloc_new _ _)
  have C0 := Lib.hid c0
  obtain ⟨d0, d1, -, -⟩ := cells_of2 c0
  clear c0 hb1
  go_wp2_with fail
  refine (HV1.out _).mono ?_
  rintro e w' ⟨rfl, rfl⟩
  go_wp2_with fail
  refine (HV2.out _).mono ?_
  rintro e w' ⟨rfl, rfl⟩
  go_wp2_with fail
  refine (toMembers_any xs P.length ao xb xo xc _ ((HX.out.alloc _).below HB1.out (Nat.le_refl _)) h10).mono ?_
  rw [HO.out]
  rintro e w2 ⟨⟨m, rfl, hm⟩, hb2⟩
  obtain rfl := hm rfl
  have HB2 := Lib.hid (HB1.out.trans (hb2.mono HB1.out.size))
  have c0 := (hb2.block _ (lt_of_block C0.out)).trans C0.out
  have C2 := Lib.hid c0
  obtain ⟨e0, e1, -, -⟩ := cells_of2 c0
  clear c0 hb2 d0 d1 C0 hm
  obtain ⟨w3, e3, hm3, hb3⟩ := mem_world w2 (fun v => hasI xs (v : Int))
  have HW3 := Lib.hid e3
  have HM3 := Lib.hid hm3
  have HB3 := Lib.hid (HB2.out.trans (hb3.mono HB2.out.size))
  have c0 := (hb3.block _ (lt_of_block C2.out)).trans C2.out
  obtain ⟨d0, d1, -, -⟩ := cells_of2 c0
  have hcx : w3.cell? ⟨w2.heap.size, x, none⟩ = some (.bool false) := by rw [cell_of_row _ _ _ _ _ _ HM3.out, memF, arrF_get (by omega), h1]
  have hcy : w3.cell? ⟨w2.heap.size, y, none⟩ = some (.bool false) := by rw [cell_of_row _ _ _ _ _ _ HM3.out, memF, arrF_get (by omega), h2]
  have hx10 : x < 10 := by omega
  have hy10 : y < 10 := by omega
  clear c0 e3 hm3 hb3 h1 h2 C2 e0 e1
  go_wp2_with (first
    | (refine wpList_store_row rfl 97 (.tmp 12) (.tmp 40) rfl w2.heap.size (memF fun v => hasI xs (v : Int)) rfl rfl 97 _ (heap_alloc_new _ _) (info_mem _) (old_mem _) (memF_all _) (wpList_world HW3.out ?_))
    | (refine wpList_load_row rfl 97 (.tmp 12) rfl w2.heap.size rfl 97 (memF fun v => hasI xs (v : Int)) (0, 0) _ HM3.out Try.underlying97 rfl (info_mem _) ?_))
  refine (newWeb_any P T _ _ _ ((HNet.out.alloc _).below HB3.out (Nat.le_refl _)) HN.out).mono ?_
  rintro e w4 ⟨rfl, hb4⟩
  have HB4 := Lib.hid (HB3.out.trans (hb4.mono HB3.out.size))
  clear hb4 hcx hcy d0 d1
  go_wp2_with fail
  refine (find_any (webOf P fun v => hasI xs (v : Int)) x y w4 h10 hx hy).mono ?_
  rintro e w5 ⟨v, rfl, hv, hnone, hb5⟩
  have HB5 := Lib.hid (HB4.out.trans (hb5.mono HB4.out.size))
  have HNI := Lib.hid (show NewInts w.heap.size w5 v (ints ((sepTrail P xs x y).getD [])) from ⟨own_base hv.own (by have := HB4.out.size; simp at this; omega), hv.wf, hv.len⟩)
  have HNONE := Lib.hid (show sepTrail P xs x y = none → v = .slice none 0 0 from hnone)
  have hne : ∀ q, r = some q → q ≠ [] := fun q hq => (dfs_plain (show dfs _ y P.length [x] = some q by rw [← hq, ← HR.out]; rfl) (by simp) (by simp) (by simp; exact hx)).1
  rw [HR.out] at HNI HNONE
  have HBW := Lib.hid (((Below.refl _ w).alloc (Nat.le_refl _) (.cells #[.slice pa P.length pc, .slice ta T.length tc] 24)).trans (HB5.out.mono (by simp)))
  have hob := HNI.out.at
  obtain ⟨ao1, b1, cap1, rfl, -, -⟩ := hob
  clear hb5 hv hnone HR HB1 HB2 HB3 HB4 HB5 HW3 HM3
  cases r with
  | none =>
    clear hne
    simp only [Option.getD_none, ints, List.map_nil, List.length_nil] at HNI HNONE ⊢
    go_wp2
    go_ret3
    exact ⟨_, rfl, HNI.out, (fun _ => HNONE.out trivial), HBW.out⟩
  | some q =>
    have hq := hne q rfl
    obtain ⟨n1, hn1, hpos⟩ : ∃ n1, (ints q).length = n1 ∧ 0 < n1 := ⟨_, rfl, by rw [ints_length]; exact List.length_pos_iff.2 hq⟩
    have hz : ((n1 : Int) == 0) = false := by rw [beq_eq_false_iff_ne]; omega
    simp only [Option.getD_some, hn1] at HNI HNONE ⊢
    clear hne hq hpos hn1
    go_wp2
    go_ret3
    exact ⟨_, rfl, HNI.out, (fun h => nomatch h), HBW.out⟩

end Go.Proofs.Ytghffnjnpgiicaa

/- The law's own list comparison and the fixed network of awake. -/
namespace Go.Proofs.Ytghffnjnpgiicaa
open Go.RowKit

theorem nth_eq {xs ys : List Int} (hl : xs.length = ys.length) (h : ∀ i, i < xs.length → nth xs i = nth ys i) : xs = ys := by
  refine List.ext_getElem hl fun i h1 h2 => ?_
  have := h i h1
  simpa [nth, List.getD_eq_getElem?_getD, h1, h2] using this

set_option maxHeartbeats 1000000 in
set_option maxRecDepth 100000 in
theorem ints_any (xs ys : List Int) (ao bo : Option Addr) (ab ax ac bb bx bc : Nat) (w : World) (hX : IntsAt w ao ab ax xs) (hY : IntsAt w bo bb bx ys) :
    Calls Try.prog 26 #[.slice ao xs.length ac, .slice bo ys.length bc] w fun e w' => e = .returned (.bool (decide (xs = ys))) ∧ Below w.heap.size w w' := by
  have lx := hX.len
  have ly := hY.len
  have HX := Lib.hid hX
  have HY := Lib.hid hY
  clear hX hY
  by_cases hl : xs.length = ys.length
  · have HL := Lib.hid hl
    have hq : ((xs.length : Int) != (ys.length : Int)) = false := by rw [hl]; simp
    rw [← hl]
    clear hl ly
    go_enter Try.func26, Try.ntmps26
    go_wp2
    go_loopw [5] (fun i wr => ∃ k : Nat, k ≤ xs.length ∧ i = .int .i64 k ∧ (∀ j, j < k → nth xs j = nth ys j) ∧ Below w.heap.size w wr) (fun i _ => xs.length - (intOf i).toNat)
    case atStart => exact ⟨0, by omega, rfl, fun j hj => absurd hj (by omega), Below.refl _ _⟩
    case round =>
      obtain ⟨k, hk, rfl, he, hb⟩ := hrel
      have HE := Lib.hid he
      have HB := Lib.hid hb
      clear he hb
      by_cases hlt : k < xs.length
      · have hX := HX.out.below HB.out (Nat.le_refl _)
        have hY := HY.out.below HB.out (Nat.le_refl _)
        obtain ⟨rfl, -⟩ := hX.ptr (by omega)
        obtain ⟨rfl, -⟩ := hY.ptr (by rw [← HL.out]; omega)
        have c0 := hX.cell k hlt
        have c1 := hY.cell k (by rw [← HL.out]; exact hlt)
        clear hX hY
        by_cases e : nth xs k = nth ys k
        · have HQ := Lib.hid e
          have hq2 : (nth xs k != nth ys k) = false := by rw [e]; simp
          clear e
          go_wp2
          go_quiet (fail)
          go_wp2
          go_roundw
          case rel => exact ⟨k + 1, by omega, by go_num, fun j hj => by
            by_cases e : j = k
            · subst e; exact HQ.out
            · exact HE.out j (by omega), below_drewN HB.out _⟩
          case measure => simp [intOf]; omega
        · have hq2 : (nth xs k != nth ys k) = true := by simpa using e
          have HF := Lib.hid (show decide (xs = ys) = false from decide_eq_false fun q => e (by rw [q]))
          clear e
          go_wp2
          go_quiet (fail)
          go_wp2
          go_ret
          exact ⟨congrArg (fun b => Ending.returned (.bool b)) HF.out.symm, below_drewN HB.out _⟩
      · have HT := Lib.hid (show decide (xs = ys) = true from decide_eq_true (nth_eq HL.out fun i hi => HE.out i (by omega)))
        go_wp2
        go_ret
        exact ⟨congrArg (fun b => Ending.returned (.bool b)) HT.out.symm, HB.out⟩
  · have hq : ((xs.length : Int) != (ys.length : Int)) = true := by simp; omega
    have HF := Lib.hid (show decide (xs = ys) = false from decide_eq_false fun q => hl (by rw [q]))
    clear hl
    go_enter Try.func26, Try.ntmps26
    go_wp2
    go_ret
    exact ⟨congrArg (fun b => Ending.returned (.bool b)) HF.out.symm, Below.refl _ _⟩

end Go.Proofs.Ytghffnjnpgiicaa

