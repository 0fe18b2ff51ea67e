/- The search for a trail: the closure. -/
import Derived.Test.YtaphmjccdokiiaaX
namespace Go.Proofs.Ytaphmjccdokiiaa
open Go.RowKit

/-- Where the search's variables lie. -/
structure FSAt (w : World) (B Bt By Bw Be : Nat) : Prop where
  b : B ≤ Bw
  o1 : Bw < By
  o2 : By < Bt
  o3 : Bt < Be

theorem nodup_snoc {tr : List Nat} {k : Nat} (h : tr.Nodup) (hk : ¬ k ∈ tr) : (tr ++ [k]).Nodup := by
  rw [List.nodup_append]
  exact ⟨h, by simp, fun a ha b hb e => by simp at hb; subst e; subst hb; exact hk ha⟩

theorem own_block {w : World} {B g n cap : Nat} {xs : List Value} (h : w.ownsRow B 3 1 (.slice (some ⟨g, 0, none⟩) n cap) n xs) : B ≤ g ∧ ∃ c, w.heap[g]? = some (.cells c 3 (0, 0)) := by
  rcases h.2 with ⟨h', _⟩ | ⟨g', cap', cur, h', hb, hg, _⟩
  · simp at h'
  · simp only [Value.slice.injEq, Option.some.injEq, Addr.mk.injEq, and_true, true_and] at h'
    obtain ⟨rfl, rfl⟩ := h'
    exact ⟨hb, _, hg⟩
theorem own_cap {w : World} {B g n cap : Nat} {xs : List Value} (h : w.ownsRow B 3 1 (.slice (some ⟨g, 0, none⟩) n cap) n xs) : n ≤ cap := by
  rcases h.2 with ⟨h', _⟩ | ⟨g', cap', cur, h', hb, hg, hn, _⟩
  · simp at h'
  · simp only [Value.slice.injEq, Option.some.injEq, Addr.mk.injEq, and_true, true_and] at h'
    obtain ⟨rfl, rfl⟩ := h'
    exact hn

theorem dfsTo_skip {W : Web} {y f : Nat} {tr : List Nat} {k : Nat} (h : dfsTo W y f tr k = none) (h2 : okNext W tr k = false) : dfsTo W y f tr (k + 1) = none := by
  simp [dfsTo, h, h2]
theorem dfsTo_try {W : Web} {y f : Nat} {tr : List Nat} {k : Nat} (h : dfsTo W y f tr k = none) (h2 : okNext W tr k = true) : dfsTo W y f tr (k + 1) = dfs W y f (tr ++ [k]) := by
  simp [dfsTo, h, h2]
theorem dfsTo_stays {W : Web} {y f : Nat} {tr r : List Nat} {k : Nat} (h : dfsTo W y f tr k = some r) : ∀ n, k ≤ n → dfsTo W y f tr n = some r := by
  intro n
  induction n with
  | zero => intro hk; have : k = 0 := by omega
            subst this; exact h
  | succ n ih => intro hk
                 by_cases e : k = n + 1
                 · subst e; exact h
                 · simp [dfsTo, ih (by omega)]

/-- What a call of the closure comes to. -/
def FindPost (w : World) (B Bt By Bw Be : Nat) (W : Web) (y f : Nat) (tr : List Nat) (e : Ending) (w' : World) : Prop :=
  e = .returned (.bool (dfs W y f tr).isSome) ∧ FS w' Bt By Bw Be W y ((dfs W y f tr).getD tr) ∧ Below B w w'

set_option maxHeartbeats 4000000 in
set_option maxRecDepth 100000 in
theorem extend_any (W : Web) (y B Bt By Bw Be : Nat) (hc : W.count ≤ 10) (hB : B ≤ Bw) (o1 : Bw < By) (o2 : By < Bt) (o3 : Bt < Be) (hy : y < W.count) (f : Nat) : ∀ (tr : List Nat) (w : World), tr ≠ [] → tr.Nodup → (∀ x ∈ tr, x < W.count) → W.count + 1 ≤ tr.length + f →
    FS w Bt By Bw Be W y tr → Calls Try.prog 76 #[.pointer (some ⟨Bt, 0, none⟩), .pointer (some ⟨By, 0, none⟩), .pointer (some ⟨Bw, 0, none⟩), .pointer (some ⟨Be, 0, none⟩)] w (FindPost w B Bt By Bw Be W y f tr) := by
  induction f with
  | zero =>
    intro tr w hne hnd hlt hf _
    have := nodup_le _ _ hnd hlt
    omega
  | succ f ih =>
    intro tr w hne hnd hlt hf hfs
    have hle := nodup_le _ _ hnd hlt
    have hpos : 1 ≤ tr.length := by cases tr with
      | nil => exact absurd rfl hne
      | cons x l => simp
    obtain ⟨i0, hi, hz0, hz1, hz2⟩ := info_parts Try.info3
    have IH := Lib.hid ih
    have HND := Lib.hid hnd
    have HLT := Lib.hid hlt
    have HFS := Lib.hid hfs
    obtain ⟨g, cap, hv, hown⟩ := hfs.tv
    have hX := FS.ints hown (fun x hx => by have := hlt x hx; omega) (by omega)
    obtain ⟨last, hlast⟩ : ∃ last, tr.getD (tr.length - 1) 0 = last := ⟨_, rfl⟩
    have hct : w.cell? ⟨g, tr.length - 1, none⟩ = some (.int .i64 (last : Int)) := by
      have := hX.cell (tr.length - 1) (by rw [ints_length]; omega)
      rw [nth_ints, hlast, Nat.zero_add] at this; exact this
    have hlast10 : last < W.count := by
      rw [← hlast]; exact hlt _ (by simp [List.getD_eq_getElem?_getD, hpos]; exact (by
        have h : tr.length - 1 < tr.length := by omega
        rw [List.getElem?_eq_getElem h]; simp))
    have c0 := cell_of_one hv
    have c1 := cell_of_one hfs.hy
    have c2 := web_cell (i := 0) hfs.hw (by omega)
    rw [show W.cell 0 = .int .i64 (W.count : Int) from rfl] at c2
    have HLAST := Lib.hid hlast
    have hIy : ((last : Int) == (y : Int)) = decide (last = y) := by
      rw [Bool.eq_iff_iff]; simp; omega
    clear hlast ih hnd hlt hfs hne hX
    by_cases e : last = y
    · have hq : ((last : Int) == (y : Int)) = true := by rw [hIy]; exact decide_eq_true e
      have HD := Lib.hid (show dfs W y (f + 1) tr = some tr by unfold dfs; rw [HLAST.out, if_pos e])
      clear hIy e
      go_enter Try.func76, Try.ntmps76
      go_wp2
      go_ret
      exact ⟨by rw [HD.out]; rfl, by rw [HD.out]; exact HFS.out, Below.refl _ _⟩
    · have hq : ((last : Int) == (y : Int)) = false := by rw [hIy]; exact decide_eq_false e
      have HD := Lib.hid (show dfs W y (f + 1) tr = dfsTo W y f tr W.count by rw [dfs, HLAST.out, if_neg e])
      clear hIy e
      go_enter Try.func76, Try.ntmps76
      go_wp2
      go_loopw [7, 20] (fun _ i wr => ∃ k : Nat, k ≤ W.count ∧ i = .int .i64 k ∧ dfsTo W y f tr k = none ∧ FS wr Bt By Bw Be W y tr ∧ Below B w wr) (fun _ i _ => W.count - (intOf i).toNat)
      case atStart => exact ⟨0, by omega, rfl, by simp [dfsTo], HFS.out, Below.refl _ _⟩
      case round =>
        obtain ⟨k, hk, rfl, hn, hfs, hb⟩ := hrel
        clear HFS hv hown
        have HN := Lib.hid hn
        have HFS := Lib.hid hfs
        have HB := Lib.hid hb
        clear hn hfs hb hct c0 c1 c2 hq
        by_cases hlt : k < W.count
        · have hA := adjacent_any W last k wr (by omega) (by omega)
          cases ea : W.adj last k
          · rw [ea] at hA
            have HA := Lib.hid hA
            have HR := Lib.hid (dfsTo_skip (f := f) (y := y) HN.out (by unfold okNext; rw [HLAST.out, ea]; simp))
            clear hA ea
            go_wp2_with (first
              | (refine wpList_load_row rfl 102 (.tmp 2) rfl Bw rfl 102 W.cells (0, 0) _ HFS.out.hw Try.underlying102 rfl (info_web _) ?_)
              | (go_at_call 77; refine HA.out.mono ?_; rintro e w1 ⟨rfl, hb1⟩; have HB1 := Lib.hid hb1; clear hb1))
            go_roundw
            case rel => exact ⟨k + 1, by omega, by go_num, HR.out, HFS.out.below HB1.out (Nat.le_refl _), HB.out.trans (HB1.out.mono (by have := HB.out.size; have := lt_of_block HFS.out.hw; omega))⟩
            case measure => simp [intOf]; omega
          · rw [ea] at hA
            have HA := Lib.hid hA
            have HEA := Lib.hid ea
            clear hA ea
            go_wp2_with (first
              | (refine wpList_load_row rfl 102 (.tmp 2) rfl Bw rfl 102 W.cells (0, 0) _ HFS.out.hw Try.underlying102 rfl (info_web _) ?_)
              | fail)
            refine HA.out.mono ?_
            rintro e w1 ⟨rfl, hb1⟩
            have HF1 := Lib.hid (HFS.out.below hb1 (Nat.le_refl _))
            have HB1 := Lib.hid (HB.out.trans (hb1.mono (by have := HB.out.size; have := lt_of_block HFS.out.hw; omega)))
            obtain ⟨g1, cap1, hv1, hown1⟩ := HF1.out.tv
            have z1 := cell_of_one hv1
            have hX1 := FS.ints hown1 (fun x hx => by have := HLT.out x hx; omega) (by omega)
            have hCon := contains_any (ints tr) (k : Int) (some ⟨g1, 0, none⟩) g1 0 cap1 w1 hX1
            rw [ints_length, hasI_ints] at hCon
            clear hb1 hv1 hown1 hX1
            cases ec : decide (k ∈ tr)
            · rw [ec] at hCon
              have HCon := Lib.hid hCon
              have HC := Lib.hid ec
              clear hCon ec
              go_wp2_with fail
              refine HCon.out.mono ?_
              rintro e w2 ⟨rfl, hb2⟩
              have HF2 := Lib.hid (HF1.out.below hb2 (Nat.le_refl _))
              have HB2 := Lib.hid (HB1.out.trans (hb2.mono (by have := HB1.out.size; have := lt_of_block HF1.out.hw; omega)))
              clear hb2 z1
              by_cases hone : tr.length ≤ 1
              · have d1 : decide (1 < tr.length) = false := by simp; omega
                have d2 : decide ((1 : Int) < (tr.length : Int)) = false := by simp; omega
                have HOKN := Lib.hid (show okNext W tr k = true by unfold okNext; rw [HLAST.out, HEA.out, HC.out, decide_eq_true hone]; rfl)
                clear hone
                go_wp2
                go_quiet (fail)
                have HZ : Hid (FS (w2.drewN nq) Bt By Bw Be W y tr) := HF2.out.below (below_drewN (Below.refl w2.heap.size _) _) (Nat.le_refl _)
                have HBZ := Lib.hid (below_drewN HB2.out nq)
                obtain ⟨wz, hwz⟩ : ∃ wz, wz = w2.drewN nq := ⟨_, rfl⟩
                rw [← hwz] at HZ HBZ ⊢
                clear hwz d1 d2
                have hzs := lt_of_block HZ.out.he
                obtain ⟨g3, cap3, hv3, hown3⟩ := HZ.out.tv
                have z0 := cell_of_one hv3
                have zf := free_of_one hv3
                have HV3 := Lib.hid hv3
                clear hv3
                go_wp2_with (at_builtin; refine wpList_append_own _ rfl (.tmp 47) (.tmp 49) 25 rfl (By + 1) 3 i0 (.int .i64 0) 1 8 Try.underlying25 hi hz0 hz1 hz2 rfl (by decide) _ tr.length _ rfl (hown3.alloc _) ⟨wz.heap.size, 0, none⟩ 1 1 [.int .i64 (k : Int)] rfl rfl (cell_one_new _ _ _) (by simp [Value.oneCell']) ?c3 ?c4 ?c5 ?_)
                case c3 => unfold maxLen; omega
                case c4 => omega
                case c5 => simp; omega
                intro v' w4 hown4 hg4 _
                have hgr : ∀ q, q < wz.heap.size → q ≠ g3 → w4.heap[q]? = wz.heap[q]? := fun q hq hne => by
                  rw [hg4.block q (by simp; omega) (fun e => hne (by simpa [Value.ownBlock] using e)), Below.heap_alloc _ _ _ hq]
                have hg3 := (own_block hown3)
                have n1 : Bt ≠ g3 := fun e => by have := HV3.out; rw [e] at this; obtain ⟨c, hc⟩ := hg3.2; rw [hc] at this; simp at this
                have n2 : Be ≠ g3 := fun e => by have := HZ.out.he; rw [e] at this; obtain ⟨c, hc⟩ := hg3.2; rw [hc] at this; simp at this
                have l1 := lt_of_block HV3.out
                have k1 := (hgr Bt l1 n1).trans HV3.out
                have k2 := (hgr Be hzs n2).trans HZ.out.he
                have k3 := (hgr By (by omega) (by omega)).trans HZ.out.hy
                have k4 := (hgr Bw (by omega) (by omega)).trans HZ.out.hw
                obtain ⟨g4, cap4, rfl, hg4b⟩ := slice_of_own hown4
                have hg4' := (own_block hown4)
                have n4 : g4 ≠ Bt := fun e => by rw [← e] at k1; obtain ⟨c, hc⟩ := hg4'.2; rw [hc] at k1; simp at k1
                have HB4 := Lib.hid ((HBZ.out.alloc (by omega) (.cells #[.int .i64 (k : Int)] 3)).grown hg4 (by simp; omega) (fun r hr => by have h1 := hg3.1; have h3 : g3 = r := (by simpa [Value.ownBlock] using hr); omega))
                have m1 := one_setCell (u := .slice (some ⟨g4, 0, none⟩) (tr.length + 1) cap4) k1
                have HFS4 : Hid (FS (w4.setCell ⟨Bt, 0, none⟩ (.slice (some ⟨g4, 0, none⟩) (tr.length + 1) cap4)) Bt By Bw Be W y (tr ++ [k])) :=
                  ⟨⟨g4, cap4, by simpa using m1, by simpa [ints_append] using ownsRow_setCell_other hown4 (a := ⟨Bt, 0, none⟩) (by simpa [Value.ownBlock] using n4) _⟩, (heap_setCell_other _ _ _ _ (by show By ≠ Bt; omega)).trans k3, (heap_setCell_other _ _ _ _ (by show Bw ≠ Bt; omega)).trans k4, (heap_setCell_other _ _ _ _ (by show Be ≠ Bt; omega)).trans k2⟩
                have HB5 := Lib.hid (HB4.out.setCell (p := ⟨Bt, 0, none⟩) (by show B ≤ Bt; omega) (.slice (some ⟨g4, 0, none⟩) (tr.length + 1) cap4))
                have q1 := cell_of_one k1
                have q1f := free_of_one k1
                have q2 := cell_of_one (HFS4.out.he)
                clear hgr hown4 hg4 hown3 k1 k2 k3 k4 m1 z0 zf
                go_wp2_with fail
                have hnk : ¬ k ∈ tr := of_decide_eq_false HC.out
                refine (IH.out (tr ++ [k]) _ (by simp) (nodup_snoc HND.out hnk) (by simp; intro x hx; rcases hx with hx | hx; exact HLT.out x hx; omega) (by simp; omega) HFS4.out).mono ?_
                rintro e w6 ⟨rfl, hfs6, hb6⟩
                have HB6 := Lib.hid (HB5.out.trans hb6)
                have HTR := Lib.hid (dfsTo_try HN.out HOKN.out)
                clear hb6 q1 q1f q2 hnk
                cases ed : dfs W y f (tr ++ [k]) with
                | some r =>
                  rw [ed] at hfs6
                  have HR := Lib.hid (dfsTo_stays (HTR.out.trans ed) W.count (by omega))
                  have HF6 := Lib.hid hfs6
                  clear ed hfs6
                  go_wp2
                  go_ret
                  exact ⟨by rw [HD.out, HR.out]; rfl, by rw [HD.out, HR.out]; exact HF6.out, HB6.out⟩
                | none =>
                  rw [ed] at hfs6
                  have HR := Lib.hid (HTR.out.trans ed)
                  obtain ⟨g7, cap7, hv7, hown7⟩ := hfs6.tv
                  have y0 := cell_of_one hv7
                  have yf := free_of_one hv7
                  simp only [Option.getD_none, List.length_append, List.length_singleton] at y0 hv7 hown7
                  have hcap7 := own_cap hown7
                  have HV7 := Lib.hid hv7
                  have HF6 := Lib.hid hfs6
                  have hown8 := ownsRow_take (k := tr.length) hown7 (by omega)
                  have hg7 := own_block hown7
                  have n7 : g7 ≠ Bt := fun e => by have := hv7; rw [← e] at this; obtain ⟨c, hc⟩ := hg7.2; rw [hc] at this; simp at this
                  have HO8 := Lib.hid hown8
                  clear ed hfs6 hv7 hown7 hown8 hg7
                  go_wp2
                  go_roundw
                  case rel =>
                    refine ⟨k + 1, by omega, by go_num, HR.out, ⟨⟨g7, cap7, one_setCell HV7.out, ?_⟩, (heap_setCell_other _ _ _ _ (by show By ≠ Bt; omega)).trans HF6.out.hy, (heap_setCell_other _ _ _ _ (by show Bw ≠ Bt; omega)).trans HF6.out.hw, (heap_setCell_other _ _ _ _ (by show Be ≠ Bt; omega)).trans HF6.out.he⟩, HB6.out.setCell (by show B ≤ Bt; omega) _⟩
                    have := ownsRow_setCell_other HO8.out (a := ⟨Bt, 0, none⟩) (by simpa [Value.ownBlock] using n7) (.slice (some ⟨g7, 0, none⟩) tr.length cap7)
                    rw [ints_append, List.map_append, List.take_left' (by simp [ints_length])] at this
                    exact this
                  case measure => simp [intOf]; omega
              · have HONE := Lib.hid hone
                have d1 : decide (1 < tr.length) = true := by simp; omega
                have d2 : decide ((1 : Int) < (tr.length : Int)) = true := by simp; omega
                obtain ⟨pre, hpre⟩ : ∃ pre, tr.getD (tr.length - 2) 0 = pre := ⟨_, rfl⟩
                have hpl : pre < W.count := by
                  rw [← hpre]; exact HLT.out _ (by
                    have h : tr.length - 2 < tr.length := by omega
                    rw [List.getD_eq_getElem?_getD, List.getElem?_eq_getElem h]; simp)
                obtain ⟨g2, cap2, hv2, hown2⟩ := HF2.out.tv
                have hX2 := FS.ints hown2 (fun x hx => by have := HLT.out x hx; omega) (by omega)
                have hp2 : w2.cell? ⟨g2, tr.length - 2, none⟩ = some (.int .i64 (pre : Int)) := by
                  have := hX2.cell (tr.length - 2) (by rw [ints_length]; omega)
                  rw [nth_ints, hpre, Nat.zero_add] at this; exact this
                have hg2 := World.block_lt_of_cell? _ _ hp2
                have hsz2 := lt_of_block HF2.out.hw
                have hszt := lt_of_block hv2
                have hsub : IntKind.i64.wrap ((tr.length : Int) - 2) = (tr.length : Int) - 2 := by rw [IntKind.wrap_i64]; omega
                have HPA := Lib.hid (fun w' => passes_any W pre last k w' (by omega) (by omega) (by omega))
                have HPRE := Lib.hid hpre
                have HC2 : Hid (∀ w', Below w2.heap.size w2 w' → w'.heap[Bw]? = some (.cells W.cells 102 (0, 0)) ∧ w'.cell? ⟨Bt, 0, none⟩ = some (.slice (some ⟨g2, 0, none⟩) tr.length cap2) ∧ w'.cell? ⟨g2, tr.length - 2, none⟩ = some (.int .i64 (pre : Int))) :=
                  fun w' h => ⟨(h.block _ hsz2).trans HF2.out.hw, (h.cell (p := ⟨Bt, 0, none⟩) hszt).trans (cell_of_one hv2), (h.cell (p := ⟨g2, tr.length - 2, none⟩) hg2).trans hp2⟩
                clear hv2 hown2 hX2 hp2 hpre
                go_wp2
                refine wp_region_quiet (C := fun w' => Below w2.heap.size w2 w') (by kernel_rfl) (by kernel_rfl) (Below.refl _ _).drew ?_
                refine quiet_next rfl (fun K hK => quiet_val (.int .i64 (tr.length : Int)) (fun w' h => by go_simp) (hK _ ?_))
                try go_frame
                refine quiet_next rfl (fun K hK => quiet_val (.bool true) (fun w' h => by go_simp) (hK _ ?_))
                try go_frame
                refine quiet_next rfl (fun K hK => quiet_val (.bool true) (fun w' h => by go_simp) (hK _ ?_))
                try go_frame
                refine BigFrame.wpQuiet_want (by kernel_rfl) (fun K hK => quiet_load 102 (.tmp 2) rfl Bw rfl 102 W.cells (0, 0) _ (fun w' h => (HC2.out w' h).1) Try.underlying102 rfl (info_web _) (hK _ ?_))
                try go_frame
                refine BigFrame.wpQuiet_want (by kernel_rfl) (fun K hK => quiet_val (.slice (some ⟨g2, 0, none⟩) tr.length cap2) (fun w' h => by obtain ⟨_, c1, c2⟩ := HC2.out w' h; go_simp) (hK _ ?_))
                try go_frame
                refine BigFrame.wpQuiet_want (by kernel_rfl) (fun K hK => quiet_val (.int .i64 (tr.length : Int)) (fun w' h => by go_simp) (hK _ ?_))
                try go_frame
                refine BigFrame.wpQuiet_want (by kernel_rfl) (fun K hK => quiet_val (.int .i64 ((tr.length : Int) - 2)) (fun w' h => by go_simp) (hK _ ?_))
                try go_frame
                refine BigFrame.wpQuiet_want (by kernel_rfl) (fun K hK => quiet_val (.pointer (some ⟨g2, tr.length - 2, none⟩)) (fun w' h => by go_simp; rw [if_pos ⟨by omega, by omega⟩, show ((tr.length : Int) - 2).toNat = tr.length - 2 by omega]) (hK _ ?_))
                try go_frame
                refine BigFrame.wpQuiet_want (by kernel_rfl) (fun K hK => quiet_val (.int .i64 (pre : Int)) (fun w' h => by obtain ⟨_, c1, c2⟩ := HC2.out w' h; go_simp) (hK _ ?_))
                try go_frame
                refine BigFrame.wpQuiet_want (by kernel_rfl) (fun K hK => quiet_val (.int .i64 (last : Int)) (fun w' h => by go_simp) (hK _ ?_))
                try go_frame
                refine BigFrame.wpQuiet_want (by kernel_rfl) (fun K hK => quiet_val (.int .i64 (k : Int)) (fun w' h => by go_simp) (hK _ ?_))
                try go_frame
                refine BigFrame.wpQuiet_want (by kernel_rfl) (fun K hK => quiet_call 79 #[.agg W.cells, .int .i64 (pre : Int), .int .i64 (last : Int), .int .i64 (k : Int)] (.bool (W.pass pre last k)) (fun w' h => by go_simp) (fun w' h => ?_) (hK _ ?_))
                · refine (HPA.out w').mono ?_
                  rintro e w'' ⟨rfl, hb⟩
                  exact ⟨rfl, h.trans (hb.mono h.size)⟩
                try go_frame
                refine BigFrame.wpQuiet_want (by kernel_rfl) (fun K hK => quiet_val (.bool (!W.pass pre last k)) (fun w' h => by go_simp) (hK _ ?_))
                try go_frame
                refine BigFrame.wpQuiet_want (by kernel_rfl) (fun K hK => quiet_val (.bool (!W.pass pre last k)) (fun w' h => by go_simp) (hK _ ?_))
                try go_frame
                refine wpQuiet_nil (fun wz hz => ?_)
                try go_frame
                have HZ := Lib.hid (HF2.out.below hz (Nat.le_refl _))
                have HBZ := Lib.hid (HB2.out.trans (hz.mono (by have := HB2.out.size; omega)))
                clear hz d1 d2 hsub
                cases ep : W.pass pre last k
                · have HR := Lib.hid (dfsTo_skip (f := f) (y := y) HN.out (show okNext W tr k = false by unfold okNext; rw [HLAST.out, HPRE.out, ep, decide_eq_false HONE.out]; simp))
                  clear ep
                  go_wp2
                  go_roundw
                  case rel => exact ⟨k + 1, by omega, by go_num, HR.out, HZ.out, HBZ.out⟩
                  case measure => simp [intOf]; omega
                · have HOKN := Lib.hid (show okNext W tr k = true by unfold okNext; rw [HLAST.out, HPRE.out, HEA.out, HC.out, ep, decide_eq_false HONE.out]; rfl)
                  clear ep
                  have hzs := lt_of_block HZ.out.he
                  obtain ⟨g3, cap3, hv3, hown3⟩ := HZ.out.tv
                  have z0 := cell_of_one hv3
                  have zf := free_of_one hv3
                  have HV3 := Lib.hid hv3
                  clear hv3
                  go_wp2_with (at_builtin; refine wpList_append_own _ rfl (.tmp 47) (.tmp 49) 25 rfl (By + 1) 3 i0 (.int .i64 0) 1 8 Try.underlying25 hi hz0 hz1 hz2 rfl (by decide) _ tr.length _ rfl (hown3.alloc _) ⟨wz.heap.size, 0, none⟩ 1 1 [.int .i64 (k : Int)] rfl rfl (cell_one_new _ _ _) (by simp [Value.oneCell']) ?c3 ?c4 ?c5 ?_)
                  case c3 => unfold maxLen; omega
                  case c4 => omega
                  case c5 => simp; omega
                  intro v' w4 hown4 hg4 _
                  have hgr : ∀ q, q < wz.heap.size → q ≠ g3 → w4.heap[q]? = wz.heap[q]? := fun q hq hne => by
                    rw [hg4.block q (by simp; omega) (fun e => hne (by simpa [Value.ownBlock] using e)), Below.heap_alloc _ _ _ hq]
                  have hg3 := (own_block hown3)
                  have n1 : Bt ≠ g3 := fun e => by have := HV3.out; rw [e] at this; obtain ⟨c, hc⟩ := hg3.2; rw [hc] at this; simp at this
                  have n2 : Be ≠ g3 := fun e => by have := HZ.out.he; rw [e] at this; obtain ⟨c, hc⟩ := hg3.2; rw [hc] at this; simp at this
                  have l1 := lt_of_block HV3.out
                  have k1 := (hgr Bt l1 n1).trans HV3.out
                  have k2 := (hgr Be hzs n2).trans HZ.out.he
                  have k3 := (hgr By (by omega) (by omega)).trans HZ.out.hy
                  have k4 := (hgr Bw (by omega) (by omega)).trans HZ.out.hw
                  obtain ⟨g4, cap4, rfl, hg4b⟩ := slice_of_own hown4
                  have hg4' := (own_block hown4)
                  have n4 : g4 ≠ Bt := fun e => by rw [← e] at k1; obtain ⟨c, hc⟩ := hg4'.2; rw [hc] at k1; simp at k1
                  have HB4 := Lib.hid ((HBZ.out.alloc (by omega) (.cells #[.int .i64 (k : Int)] 3)).grown hg4 (by simp; omega) (fun r hr => by have h1 := hg3.1; have h3 : g3 = r := (by simpa [Value.ownBlock] using hr); omega))
                  have m1 := one_setCell (u := .slice (some ⟨g4, 0, none⟩) (tr.length + 1) cap4) k1
                  have HFS4 : Hid (FS (w4.setCell ⟨Bt, 0, none⟩ (.slice (some ⟨g4, 0, none⟩) (tr.length + 1) cap4)) Bt By Bw Be W y (tr ++ [k])) :=
                    ⟨⟨g4, cap4, by simpa using m1, by simpa [ints_append] using ownsRow_setCell_other hown4 (a := ⟨Bt, 0, none⟩) (by simpa [Value.ownBlock] using n4) _⟩, (heap_setCell_other _ _ _ _ (by show By ≠ Bt; omega)).trans k3, (heap_setCell_other _ _ _ _ (by show Bw ≠ Bt; omega)).trans k4, (heap_setCell_other _ _ _ _ (by show Be ≠ Bt; omega)).trans k2⟩
                  have HB5 := Lib.hid (HB4.out.setCell (p := ⟨Bt, 0, none⟩) (by show B ≤ Bt; omega) (.slice (some ⟨g4, 0, none⟩) (tr.length + 1) cap4))
                  have q1 := cell_of_one k1
                  have q1f := free_of_one k1
                  have q2 := cell_of_one (HFS4.out.he)
                  clear hgr hown4 hg4 hown3 k1 k2 k3 k4 m1 z0 zf
                  go_wp2_with fail
                  have hnk : ¬ k ∈ tr := of_decide_eq_false HC.out
                  refine (IH.out (tr ++ [k]) _ (by simp) (nodup_snoc HND.out hnk) (by simp; intro x hx; rcases hx with hx | hx; exact HLT.out x hx; omega) (by simp; omega) HFS4.out).mono ?_
                  rintro e w6 ⟨rfl, hfs6, hb6⟩
                  have HB6 := Lib.hid (HB5.out.trans hb6)
                  have HTR := Lib.hid (dfsTo_try HN.out HOKN.out)
                  clear hb6 q1 q1f q2 hnk
                  cases ed : dfs W y f (tr ++ [k]) with
                  | some r =>
                    rw [ed] at hfs6
                    have HR := Lib.hid (dfsTo_stays (HTR.out.trans ed) W.count (by omega))
                    have HF6 := Lib.hid hfs6
                    clear ed hfs6
                    go_wp2
                    go_ret
                    exact ⟨by rw [HD.out, HR.out]; rfl, by rw [HD.out, HR.out]; exact HF6.out, HB6.out⟩
                  | none =>
                    rw [ed] at hfs6
                    have HR := Lib.hid (HTR.out.trans ed)
                    obtain ⟨g7, cap7, hv7, hown7⟩ := hfs6.tv
                    have y0 := cell_of_one hv7
                    have yf := free_of_one hv7
                    simp only [Option.getD_none, List.length_append, List.length_singleton] at y0 hv7 hown7
                    have hcap7 := own_cap hown7
                    have HV7 := Lib.hid hv7
                    have HF6 := Lib.hid hfs6
                    have hown8 := ownsRow_take (k := tr.length) hown7 (by omega)
                    have hg7 := own_block hown7
                    have n7 : g7 ≠ Bt := fun e => by have := hv7; rw [← e] at this; obtain ⟨c, hc⟩ := hg7.2; rw [hc] at this; simp at this
                    have HO8 := Lib.hid hown8
                    clear ed hfs6 hv7 hown7 hown8 hg7
                    go_wp2
                    go_roundw
                    case rel =>
                      refine ⟨k + 1, by omega, by go_num, HR.out, ⟨⟨g7, cap7, one_setCell HV7.out, ?_⟩, (heap_setCell_other _ _ _ _ (by show By ≠ Bt; omega)).trans HF6.out.hy, (heap_setCell_other _ _ _ _ (by show Bw ≠ Bt; omega)).trans HF6.out.hw, (heap_setCell_other _ _ _ _ (by show Be ≠ Bt; omega)).trans HF6.out.he⟩, HB6.out.setCell (by show B ≤ Bt; omega) _⟩
                      have := ownsRow_setCell_other HO8.out (a := ⟨Bt, 0, none⟩) (by simpa [Value.ownBlock] using n7) (.slice (some ⟨g7, 0, none⟩) tr.length cap7)
                      rw [ints_append, List.map_append, List.take_left' (by simp [ints_length])] at this
                      exact this
                    case measure => simp [intOf]; omega
            · rw [ec] at hCon
              have HCon := Lib.hid hCon
              have HR := Lib.hid (dfsTo_skip (f := f) (y := y) HN.out (by unfold okNext; rw [ec]; simp))
              clear hCon ec
              go_wp2_with fail
              refine HCon.out.mono ?_
              rintro e w2 ⟨rfl, hb2⟩
              have HB2 := Lib.hid hb2
              clear hb2
              go_wp2
              go_roundw
              case rel => exact ⟨k + 1, by omega, by go_num, HR.out, HF1.out.below HB2.out (Nat.le_refl _), HB1.out.trans (HB2.out.mono (by have := HB1.out.size; have := lt_of_block HF1.out.hw; omega))⟩
              case measure => simp [intOf]; omega
        · have e : k = W.count := by omega
          have HR := Lib.hid (show dfsTo W y f tr W.count = none by rw [← e]; exact HN.out)
          clear e
          go_wp2
          go_ret
          exact ⟨by rw [HD.out, HR.out]; rfl, by rw [HD.out, HR.out]; exact HFS.out, HB.out⟩

end Go.Proofs.Ytaphmjccdokiiaa
