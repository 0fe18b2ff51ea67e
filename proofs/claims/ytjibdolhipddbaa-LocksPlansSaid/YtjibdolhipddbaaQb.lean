/- A4 A5 -/
import Derived.Test.YtjibdolhipddbaaQa
/- Access plans: which lists are one, and what the program makes of one. -/
namespace Go.Proofs.Ytjibdolhipddbaa
open Go.RowKit

/-- Whether the key of this pair is meant to open its lock. -/
def mt (a : List (List Int)) (n : Nat) : Bool := decide (nth (row a (n / 6)) (n % 6) = 1)
theorem mt_at (a : List (List Int)) (i j : Nat) (hj : j < 6) : mt a (6 * i + j) = decide (nth (row a i) j = 1) := by
  unfold mt
  rw [show (6 * i + j) / 6 = i by omega, show (6 * i + j) % 6 = j by omega]

/-- The lists are an access plan. -/
structure IsPlan (a : List (List Int)) : Prop where
  pos : 1 ≤ a.length
  le : a.length ≤ 6
  pos0 : 1 ≤ (row a 0).length
  le0 : (row a 0).length ≤ 6
  len : ∀ i, i < a.length → (row a i).length = (row a 0).length
  bit : ∀ i, i < a.length → ∀ j, j < (row a i).length → nth (row a i) j = 0 ∨ nth (row a i) j = 1
instance (a : List (List Int)) : Decidable (IsPlan a) :=
  decidable_of_iff (1 ≤ a.length ∧ a.length ≤ 6 ∧ 1 ≤ (row a 0).length ∧ (row a 0).length ≤ 6 ∧ (∀ i, i < a.length → (row a i).length = (row a 0).length) ∧ (∀ i, i < a.length → ∀ j, j < (row a i).length → nth (row a i) j = 0 ∨ nth (row a i) j = 1))
    ⟨fun ⟨a, b, c, d, e, f⟩ => ⟨a, b, c, d, e, f⟩, fun ⟨a, b, c, d, e, f⟩ => ⟨a, b, c, d, e, f⟩⟩
def isPlan (a : List (List Int)) : Bool := decide (IsPlan a)
theorem not_plan {a : List (List Int)} (h : ¬ IsPlan a) : isPlan a = false := decide_eq_false h

theorem results_cell_row2 {P : Program} {fn : Func} {p u : Tmp} {ty : TypeId} (h : fn.results = #[.cell p ty, .tmp u]) (tmps : Array Value) (w : World) (g : Nat) (t : TypeId) (cs : Array Value) (fr : Nat × Nat) (d : TypeDesc)
    (hp : tmps.getD p undef = .pointer (some ⟨g, 0, none⟩)) (hg : w.heap[g]? = some (.cells cs t fr))
    (hu : P.underlying ty = some d) (hd : (match d with | .struct _ | .array _ _ => true | _ => false) = true) (hi : (P.info? ty).map (·.size) = some cs.size) :
    (results fn tmps).run P w = .ok (.tuple #[.agg cs, tmps.getD u undef]) w := by
  have hp' : tmps[p]?.getD undef = .pointer (some ⟨g, 0, none⟩) := by simpa using hp
  rw [results_cell_tmp h]
  simp [hp', asAddr, run_loadVar_row w g t ty cs fr d hg hu hd hi, Result.andThen]
theorem results_slot_cell2 {P : Program} {fn : Func} {p s u : Tmp} {ty : TypeId} (h : fn.results = #[.tmp s, .cell p ty, .tmp u]) (tmps : Array Value) (w : World) (g : Nat) (t : TypeId) (cs : Array Value) (fr : Nat × Nat) (d : TypeDesc)
    (hp : tmps.getD p undef = .pointer (some ⟨g, 0, none⟩)) (hg : w.heap[g]? = some (.cells cs t fr))
    (hu : P.underlying ty = some d) (hd : (match d with | .struct _ | .array _ _ => true | _ => false) = true) (hi : (P.info? ty).map (·.size) = some cs.size) :
    (results fn tmps).run P w = .ok (.tuple #[tmps.getD s undef, .agg cs, tmps.getD u undef]) w := by
  have hp' : tmps[p]?.getD undef = .pointer (some ⟨g, 0, none⟩) := by simpa using hp
  simp only [results, h]
  simp [Result.andThen, hp', asAddr, run_loadVar_row w g t ty cs fr d hg hu hd hi]

theorem results_cell_row3 {P : Program} {fn : Func} {p s u : Tmp} {ty : TypeId} (h : fn.results = #[.cell p ty, .tmp s, .tmp u]) (tmps : Array Value) (w : World) (g : Nat) (t : TypeId) (cs : Array Value) (fr : Nat × Nat) (d : TypeDesc)
    (hp : tmps.getD p undef = .pointer (some ⟨g, 0, none⟩)) (hg : w.heap[g]? = some (.cells cs t fr))
    (hu : P.underlying ty = some d) (hd : (match d with | .struct _ | .array _ _ => true | _ => false) = true) (hi : (P.info? ty).map (·.size) = some cs.size) :
    (results fn tmps).run P w = .ok (.tuple #[.agg cs, tmps.getD s undef, tmps.getD u undef]) w := by
  have hp' : tmps[p]?.getD undef = .pointer (some ⟨g, 0, none⟩) := by simpa using hp
  simp only [results, h]
  simp [Result.andThen, hp', asAddr, run_loadVar_row w g t ty cs fr d hg hu hd hi]

/-- The value of a plan. -/
def planC (k l : Nat) (f : Nat → Bool) : Array Value := #[.int .i64 k, .int .i64 l, sv f]
def planV (k l : Nat) (f : Nat → Bool) : Value := .agg (planC k l f)
def zeroP : Value := .agg #[.int .i64 0, .int .i64 0, .int .u64 0]
/-- What the program makes of an access plan. -/
def planR (a : List (List Int)) : Value := if isPlan a = true then .tuple #[planV a.length (row a 0).length (mt a), .bool true] else .tuple #[zeroP, .bool false]
theorem planR_yes {a : List (List Int)} (h : isPlan a = true) : planR a = .tuple #[planV a.length (row a 0).length (mt a), .bool true] := if_pos h
theorem planR_no {a : List (List Int)} (h : isPlan a = false) : planR a = .tuple #[zeroP, .bool false] := if_neg (by rw [h]; decide)

set_option maxHeartbeats 4000000 in
set_option maxRecDepth 100000 in
theorem toPlan_short (a : List (List Int)) (ao : Option Addr) (cap : Nat) (w : World) (hl : a.length ≤ 140737488351232) (h : ¬ (1 ≤ a.length ∧ a.length ≤ 6)) :
    Calls Try.prog 32 #[.slice ao a.length cap] w fun e w' => e = .returned (.tuple #[zeroP, .bool false]) ∧ Below w.heap.size w w' := by
  have t1 : decide (1 ≤ (a.length : Int) ∧ (a.length : Int) ≤ 6) = false := decide_eq_false (by omega)
  have HC := Lib.hid (fun w => oneTo_any 6 (a.length : Int) w)
  rw [t1] at HC
  clear h t1
  go_enter Try.func32, Try.ntmps32
  go_wp2_with fail
  refine (HC.out _).mono ?_
  rintro e w' ⟨rfl, rfl⟩
  go_wp2_with fail
  refine bodyPost_ret (v := .tuple #[zeroP, .bool false]) ?_ rfl ⟨rfl, (Below.refl _ _).alloc (Nat.le_refl _) _⟩
  exact results_cell_row2 (ty := 63) (p := 2) (u := 3) rfl _ _ w.heap.size 63 #[.int .i64 0, .int .i64 0, .int .u64 0] (0, 0) _ rfl (heap_alloc_new _ _) Try.underlying63 rfl (by kernel_rfl)

set_option maxHeartbeats 4000000 in
set_option maxRecDepth 100000 in
theorem toPlan_narrow (a : List (List Int)) (ao : Option Addr) (b o cap : Nat) (A : Nat → Option Addr) (B O C : Nat → Nat) (w : World) (H : RowsAt w ao b o a A B O C) (h1 : 1 ≤ a.length ∧ a.length ≤ 6) (h : ¬ (1 ≤ (row a 0).length ∧ (row a 0).length ≤ 6)) :
    Calls Try.prog 32 #[.slice ao a.length cap] w fun e w' => e = .returned (.tuple #[zeroP, .bool false]) ∧ Below w.heap.size w w' := by
  have hlr := (H.rows 0 (by omega)).len
  have HC := Lib.hid (fun w => oneTo_any 6 (a.length : Int) w)
  have HD := Lib.hid (fun w => oneTo_any 6 ((row a 0).length : Int) w)
  rw [show decide (1 ≤ (a.length : Int) ∧ (a.length : Int) ≤ 6) = true from decide_eq_true (by omega)] at HC
  rw [show decide (1 ≤ ((row a 0).length : Int) ∧ ((row a 0).length : Int) ≤ 6) = false from decide_eq_false (by omega)] at HD
  have hb0 : ((0 : Nat) : Int) < (a.length : Int) := by omega
  have HW := H.alloc (.cells #[.int .i64 0, .int .i64 0, .int .u64 0] 63)
  obtain ⟨rfl, -⟩ := HW.ptr (by omega)
  have c0 : (w.alloc (.cells #[.int .i64 0, .int .i64 0, .int .u64 0] 63)).cell? ⟨b, o, none⟩ = some (.slice (A 0) (row a 0).length (C 0)) := HW.cell 0 (by omega)
  have hpos := h1.1
  have h6 := h1.2
  obtain ⟨wa, hwa⟩ : ∃ wa, w.alloc (.cells #[.int .i64 0, .int .i64 0, .int .u64 0] 63) = wa := ⟨_, rfl⟩
  rw [hwa] at c0
  have HWA := Lib.hid hwa
  clear h h1 HW hwa H
  go_enter Try.func32, Try.ntmps32
  go_wp2_with fail
  rw [HWA.out]
  refine (HC.out _).mono ?_
  rintro e w' ⟨rfl, rfl⟩
  go_wp2_with fail
  refine (HD.out _).mono ?_
  rintro e w' ⟨rfl, rfl⟩
  rw [← HWA.out]
  go_wp2_with fail
  refine bodyPost_ret (v := .tuple #[zeroP, .bool false]) ?_ rfl ⟨rfl, (Below.refl _ _).alloc (Nat.le_refl _) _⟩
  exact results_cell_row2 (ty := 63) (p := 2) (u := 3) rfl _ _ w.heap.size 63 #[.int .i64 0, .int .i64 0, .int .u64 0] (0, 0) _ rfl (heap_alloc_new _ _) Try.underlying63 rfl (by kernel_rfl)

set_option maxHeartbeats 4000000 in
set_option maxRecDepth 100000 in
theorem toPlan_any (a : List (List Int)) (ao : Option Addr) (b o cap : Nat) (A : Nat → Option Addr) (B O C : Nat → Nat) (w : World) (H : RowsAt w ao b o a A B O C) :
    Calls Try.prog 32 #[.slice ao a.length cap] w fun e w' => e = .returned (planR a) ∧ Below w.heap.size w w' := by
  have hla := H.len
  by_cases h1 : 1 ≤ a.length ∧ a.length ≤ 6
  case neg =>
    have hn : isPlan a = false := not_plan fun q => h1 ⟨q.pos, q.le⟩
    rw [planR_no hn]
    exact toPlan_short a ao cap w hla h1
  by_cases h2 : 1 ≤ (row a 0).length ∧ (row a 0).length ≤ 6
  case neg =>
    have hn : isPlan a = false := not_plan fun q => h2 ⟨q.pos0, q.le0⟩
    rw [planR_no hn]
    exact toPlan_narrow a ao b o cap A B O C w H h1 h2
  obtain ⟨l, hl⟩ : ∃ l, (row a 0).length = l := ⟨_, rfl⟩
  have HC := Lib.hid (fun w => oneTo_any 6 (a.length : Int) w)
  have HD := Lib.hid (fun w => oneTo_any 6 (l : Int) w)
  rw [hl] at h2
  rw [show decide (1 ≤ (a.length : Int) ∧ (a.length : Int) ≤ 6) = true from decide_eq_true (by omega)] at HC
  rw [show decide (1 ≤ (l : Int) ∧ (l : Int) ≤ 6) = true from decide_eq_true (by omega)] at HD
  have hb0 : ((0 : Nat) : Int) < (a.length : Int) := by omega
  have HW := H.alloc (.cells #[.int .i64 0, .int .i64 0, .int .u64 0] 63)
  obtain ⟨rfl, hbw⟩ := H.ptr (by omega)
  have c0 : (w.alloc (.cells #[.int .i64 0, .int .i64 0, .int .u64 0] 63)).cell? ⟨b, o, none⟩ = some (.slice (A 0) l (C 0)) := by rw [← hl]; exact HW.cell 0 (by omega)
  have HB0 := Lib.hid ((Below.refl _ w).alloc (Nat.le_refl _) (.cells #[.int .i64 0, .int .i64 0, .int .u64 0] 63))
  have HR0 := Lib.hid (heap_alloc_new w (.cells #[.int .i64 0, .int .i64 0, .int .u64 0] 63))
  have HS0 := Lib.hid (show (w.alloc (.cells #[.int .i64 0, .int .i64 0, .int .u64 0] 63)).heap.size = w.heap.size + 1 by simp)
  obtain ⟨wa, hwa⟩ : ∃ wa, w.alloc (.cells #[.int .i64 0, .int .i64 0, .int .u64 0] 63) = wa := ⟨_, rfl⟩
  rw [hwa] at c0 HB0 HR0 HS0
  have HWA := Lib.hid hwa
  have HH := Lib.hid H
  have HL := Lib.hid hl
  have hpos := h1.1
  have h6 := h1.2
  have hp2 := h2.1
  have h26 := h2.2
  have NO := Lib.hid (show ¬ IsPlan a → Ending.returned (.tuple #[zeroP, .bool false]) = .returned (planR a) from fun h => by rw [planR_no (not_plan h)])
  have YES := Lib.hid (show IsPlan a → Ending.returned (.tuple #[planV a.length l (mt a), .bool true]) = .returned (planR a) from fun h => by rw [planR_yes (decide_eq_true h), hl])
  clear h1 h2 HW hwa H hl
  go_enter Try.func32, Try.ntmps32
  go_wp2_with fail
  rw [HWA.out]
  refine (HC.out _).mono ?_
  rintro e w' ⟨rfl, rfl⟩
  go_wp2_with fail
  refine (HD.out _).mono ?_
  rintro e wa ⟨rfl, rfl⟩
  have hsz := HS0.out
  go_wp2
  go_loopw [5, 6, 7, 8, 31] (fun _ _ _ _ x wr => ∃ k : Nat, k ≤ a.length ∧ x = .int .i64 k ∧ (∀ i, i < k → (row a i).length = l ∧ ∀ j, j < (row a i).length → nth (row a i) j = 0 ∨ nth (row a i) j = 1) ∧ Below w.heap.size w wr ∧
    wr.heap[w.heap.size]? = some (.cells #[.int .i64 0, .int .i64 0, .int .u64 0] 63 (0, 0)) ∧ wr.heap[w.heap.size + 1]? = some (.cells (planC a.length l fun n => decide (n < 6 * k) && mt a n) 63 (0, 0))) (fun _ _ _ _ x _ => a.length - (intOf x).toNat)
  case atStart =>
    refine ⟨0, by omega, rfl, fun i hi => absurd hi (by omega), HB0.out.alloc (by omega) _, ?_, ?_⟩
    · rw [Below.heap_alloc _ _ _ (by omega)]; exact HR0.out
    · have := heap_alloc_new wa (.cells #[.int .i64 a.length, .int .i64 l, .int .u64 0] 63)
      rw [HS0.out] at this
      rw [this, planC, sv, show (S36 fun n => decide (n < 6 * 0) && mt a n) = 0 from S36_eq_zero.2 fun i hi => by simp]
      rfl
  case round =>
    obtain ⟨k, hk, rfl, hg, hb, hr0, hr1⟩ := hrel
    obtain ⟨c0, c1, c2⟩ := cells_of3 hr1
    have HG := Lib.hid hg
    have HB := Lib.hid hb
    have H0 := Lib.hid hr0
    have H1 := Lib.hid hr1
    clear hg hb hr0 hr1 HB0 HR0 HS0 HC HD
    by_cases hlt : k < a.length
    · have H' := HH.out.below HB.out (Nat.le_refl _)
      have ck := H'.cell k hlt
      have HK := Lib.hid (HH.out.rows k hlt)
      clear H'
      by_cases hlen : (row a k).length = l
      case neg =>
        have t1 : (((row a k).length : Int) != (l : Int)) = true := by rw [bne_iff_ne]; omega
        have HF := Lib.hid (NO.out fun q => hlen ((q.len k hlt).trans HL.out))
        go_wp2_with (refine wpList_store_row rfl 63 (.tmp 2) (.tmp 41) rfl w.heap.size _ rfl rfl 63 _ H0.out (by kernel_rfl) rfl (by simp [Value.oneCell']) ?_)
        refine bodyPost_ret (v := .tuple #[zeroP, .bool false]) ?_ rfl ⟨HF.out, below_setRow HB.out (by omega) _⟩
        exact results_cell_row2 (ty := 63) (p := 2) (u := 3) rfl _ _ w.heap.size 63 #[.int .i64 0, .int .i64 0, .int .u64 0] (0, 0) _ rfl (setRow_heap _ _ _ _ _ _ H0.out) Try.underlying63 rfl (by kernel_rfl)
      case pos =>
        have HE := Lib.hid hlen
        rw [hlen] at ck
        have t1 : ((l : Int) != (l : Int)) = false := by simp
        obtain ⟨r, hr⟩ : ∃ r, row a k = r := ⟨_, rfl⟩
        rw [hr] at HK HE hlen
        have HRK := Lib.hid hr
        clear hr hlen
        go_wp2
        obtain ⟨wo, rfl⟩ : ∃ wo : World, wo = wr := ⟨_, rfl⟩
        clear c0 c1 c2
        go_loopw [7, 8, 44] (fun _ _ x wr => ∃ j : Nat, j ≤ l ∧ x = .int .i64 j ∧ (∀ i, i < j → nth r i = 0 ∨ nth r i = 1) ∧ Below w.heap.size w wr ∧
          wr.heap[w.heap.size]? = some (.cells #[.int .i64 0, .int .i64 0, .int .u64 0] 63 (0, 0)) ∧ wr.heap[w.heap.size + 1]? = some (.cells (planC a.length l fun n => decide (n < 6 * k + j) && mt a n) 63 (0, 0))) (fun _ _ x _ => l - (intOf x).toNat)
        case atStart => exact ⟨0, by omega, rfl, fun i hi => absurd hi (by omega), HB.out, H0.out, H1.out⟩
        case round =>
          obtain ⟨j, hj, rfl, hg, hb, hr0, hr1⟩ := hrel
          obtain ⟨c0, c1, c2⟩ := cells_of3 hr1
          have f2 := frozen_of_row (j := 2) _ _ _ _ hr1
          have HGJ := Lib.hid hg
          have HB1 := Lib.hid hb
          have H01 := Lib.hid hr0
          have H11 := Lib.hid hr1
          clear hg hb hr0 hr1 HB H0 H1 ck
          by_cases hlj : j < l
          · have HKJ := HK.out.below HB1.out (Nat.le_refl _)
            obtain ⟨hA, -⟩ := HKJ.ptr (by rw [HE.out]; omega)
            have q0 := HKJ.cell j (by rw [HE.out]; exact hlj)
            rw [hA]
            obtain ⟨x, hx⟩ : ∃ x, nth r j = x := ⟨_, rfl⟩
            rw [hx] at q0
            have HX := Lib.hid hx
            clear HKJ hA hx
            have hcs : (x = 0) ∨ (x = 1) ∨ ((x != 0) = true ∧ (x != 1) = true) := by
              by_cases e0 : x = 0
              · exact .inl e0
              · by_cases e1 : x = 1
                · exact .inr (.inl e1)
                · exact .inr (.inr ⟨by rw [bne_iff_ne]; exact e0, by rw [bne_iff_ne]; exact e1⟩)
            rcases hcs with rfl | rfl | ⟨g0, g1⟩
            · go_wp2
              go_roundw
              case rel =>
                refine ⟨j + 1, by omega, by go_num, fun i hi => ?_, HB1.out, H01.out, ?_⟩
                · by_cases e : i = j
                  · rw [e]; exact .inl HX.out
                  · exact HGJ.out i (by omega)
                · rw [H11.out, planC, planC, sv_congr (f := fun n => decide (n < 6 * k + j) && mt a n) (g := fun n => decide (n < 6 * k + (j + 1)) && mt a n) fun n hn => by
                    by_cases e : n = 6 * k + j
                    · rw [e, mt_at a k j (by omega), HRK.out, HX.out]; simp
                    · rw [show decide (n < 6 * k + j) = decide (n < 6 * k + (j + 1)) from decide_eq_decide.2 (by omega)]]
              case measure => simp [intOf]; omega
            · have HP := Lib.hid (fun w => pair_any k j w (by omega) (by omega))
              have HO := Lib.hid (show bits .or .u64 (S36 (fun n => decide (n < 6 * k + j) && mt a n) : Nat) ((S36 fun i => i == 6 * k + j : Nat) : Int) = ((S36 fun n => decide (n < 6 * k + (j + 1)) && mt a n : Nat) : Int) by
                rw [sv_or, S36_congr fun n hn => ?_]
                by_cases e : n = 6 * k + j
                · rw [e, mt_at a k j (by omega), HRK.out, HX.out]; simp
                · rw [show decide (n < 6 * k + j) = decide (n < 6 * k + (j + 1)) from decide_eq_decide.2 (by omega)]
                  simp [e])
              simp only [sv] at c2
              go_wp2
              go_region_with (go_at_call 49; refine (HP.out _).mono ?_; rintro e w' ⟨rfl, rfl⟩; rw [sv])
              all_goals (
                go_wp2
                go_roundw
                case rel =>
                  refine ⟨j + 1, by omega, by go_num, fun i hi => ?_, below_dr (HB1.out.setCell (by show w.heap.size ≤ w.heap.size + 1; omega) _), ?_, ?_⟩
                  · by_cases e : i = j
                    · rw [e]; exact .inr HX.out
                    · exact HGJ.out i (by omega)
                  · show (wr.setCell _ _).heap[w.heap.size]? = _
                    rw [heap_setCell_other _ _ _ _ (by show w.heap.size ≠ w.heap.size + 1; omega)]; exact H01.out
                  · show (wr.setCell _ _).heap[w.heap.size + 1]? = _
                    rw [heap_setCell_same _ _ 2 _ _ _ H11.out, HO.out]
                    rfl
                case measure => simp [intOf]; omega)
            · have HF := Lib.hid (NO.out fun q => by
                have := q.bit k hlt j (by rw [HRK.out, HE.out]; exact hlj)
                rw [HRK.out, HX.out] at this
                rw [bne_iff_ne] at g0 g1
                omega)
              go_wp2_with (refine wpList_store_row rfl 63 (.tmp 2) (.tmp 55) rfl w.heap.size _ rfl rfl 63 _ H01.out (by kernel_rfl) rfl (by simp [Value.oneCell']) ?_)
              refine bodyPost_ret (v := .tuple #[zeroP, .bool false]) ?_ rfl ⟨HF.out, below_setRow HB1.out (by omega) _⟩
              exact results_cell_row2 (ty := 63) (p := 2) (u := 3) rfl _ _ w.heap.size 63 #[.int .i64 0, .int .i64 0, .int .u64 0] (0, 0) _ rfl (setRow_heap _ _ _ _ _ _ H01.out) Try.underlying63 rfl (by kernel_rfl)
          · have hjl : j = l := by omega
            subst hjl
            go_wp2
            go_roundw
            case rel =>
              refine ⟨k + 1, by omega, by go_num, fun i hi => ?_, HB1.out, H01.out, ?_⟩
              · by_cases e : i = k
                · rw [e, HRK.out]; exact ⟨HE.out, fun i hi => HGJ.out i (by rw [HE.out] at hi; exact hi)⟩
                · exact HG.out i (by omega)
              · rw [H11.out, planC, planC, sv_congr (f := fun n => decide (n < 6 * k + j) && mt a n) (g := fun n => decide (n < 6 * (k + 1)) && mt a n) fun n hn => by
                  by_cases e : n < 6 * k + j
                  · rw [show decide (n < 6 * k + j) = decide (n < 6 * (k + 1)) from decide_eq_decide.2 (by omega)]
                  · by_cases e2 : n < 6 * (k + 1)
                    · obtain ⟨i, rfl⟩ : ∃ i, n = 6 * k + i := ⟨n - 6 * k, by omega⟩
                      rw [mt_at a k i (by omega), HRK.out, nth_out (by rw [HE.out]; omega)]; simp
                    · rw [show decide (n < 6 * k + j) = decide (n < 6 * (k + 1)) from decide_eq_decide.2 (by omega)]]
            case measure => simp [intOf]; omega
    · have hka : k = a.length := by omega
      subst hka
      have HF := Lib.hid (YES.out ⟨hpos, h6, by rw [HL.out]; exact hp2, by rw [HL.out]; exact h26, fun i hi => by rw [HL.out]; exact (HG.out i hi).1, fun i hi => (HG.out i hi).2⟩)
      have HE := Lib.hid (show (planC a.length l fun n => decide (n < 6 * a.length) && mt a n) = planC a.length l (mt a) by
        rw [planC, planC, sv_congr fun n hn => ?_]
        by_cases e : n < 6 * a.length
        · simp [e]
        · rw [mt, show row a (n / 6) = [] from by unfold row; rw [List.getD_eq_getElem?_getD, List.getElem?_eq_none (by omega)]; rfl]
          simp [nth])
      rw [HE.out] at H1
      clear c0 c1 c2
      go_wp2_with (first | (refine wpList_load_row rfl 63 (.tmp 4) rfl (w.heap.size + 1) rfl 63 _ _ _ H1.out Try.underlying63 rfl (by kernel_rfl) ?_) | (refine wpList_store_row rfl 63 (.tmp 2) (.tmp 67) rfl w.heap.size _ rfl rfl 63 _ H0.out (by kernel_rfl) rfl (by simp [Value.oneCell', planC, sv]) ?_))
      refine bodyPost_ret (v := .tuple #[planV a.length l (mt a), .bool true]) ?_ rfl ⟨HF.out, below_setRow HB.out (by omega) _⟩
      exact results_cell_row2 (ty := 63) (p := 2) (u := 3) rfl _ _ w.heap.size 63 (planC a.length l (mt a)) (0, 0) _ rfl (setRow_heap _ _ _ _ _ _ H0.out) Try.underlying63 rfl (by kernel_rfl)

end Go.Proofs.Ytjibdolhipddbaa

/- Forbidden pairs, and the pairs that a chamber stops. -/
namespace Go.Proofs.Ytjibdolhipddbaa
open Go.RowKit

/-- The forbidden pairs. -/
def fbF (k l : Nat) (f : Nat → Bool) (n : Nat) : Bool := decide (n / 6 < k) && decide (n % 6 < l) && !f n

/-- The cells of a colouring. -/
def colC (c : Nat → Int) : Array Value := ofN 6 fun i => .int .i64 (c i)
def colV (c : Nat → Int) : Value := .agg (colC c)
theorem colC_all (c : Nat → Int) : (colC c).all (·.oneCell') = true := ofN_one fun _ => rfl
theorem colC_size (c : Nat → Int) : (colC c).size = 6 := ofN_size _ _
theorem colC_cell {w : World} {g : Nat} {c : Nat → Int} {T : TypeId} (h : w.heap[g]? = some (.cells (colC c) T (0, 0))) {k : Nat} (hk : k < 6) : w.cell? ⟨g, k, none⟩ = some (.int .i64 (c k)) ∧ w.frozen? ⟨g, k, none⟩ = false := cell_ofN h hk
theorem colC_congr {c d : Nat → Int} (h : ∀ i, i < 6 → c i = d i) : colC c = colC d := ofN_congr fun i hi => by rw [h i hi]

/-- Whether a lock has a pin of the depth of a key. -/
def PinF (k : Nat) (f : Nat → Bool) (c : Nat → Int) (j : Nat) (x : Int) : Prop := ∃ o, o < k ∧ (f (6 * o + j) = true ∧ c o = x)
instance (k : Nat) (f : Nat → Bool) (c : Nat → Int) (j : Nat) (x : Int) : Decidable (PinF k f c j x) := inferInstanceAs (Decidable (∃ o, o < k ∧ (f (6 * o + j) = true ∧ c o = x)))
/-- The pairs that a chamber stops. -/
def stF (k l : Nat) (f : Nat → Bool) (c : Nat → Int) (n : Nat) : Bool := decide (n / 6 < k) && decide (n % 6 < l) && !decide (PinF k f c (n % 6) (c (n / 6)))

theorem two_heap (w : World) (x y : Obj) : ((w.alloc x).alloc y).heap[w.heap.size]? = some x ∧ ((w.alloc x).alloc y).heap[w.heap.size + 1]? = some y := by
  refine ⟨by rw [Below.heap_alloc _ _ _ (by simp)]; exact heap_alloc_new _ _, ?_⟩
  have := heap_alloc_new (w.alloc x) y
  simpa using this

theorem sv_eq {f g : Nat → Bool} (h : ∀ i, i < 36 → f i = g i) : Value.int .u64 (S36 f : Nat) = .int .u64 (S36 g : Nat) := by rw [S36_congr h]
theorem ret_u64 {a b : Int} (h : a = b) : Ending.returned (.int .u64 a) = .returned (.int .u64 b) := by rw [h]

set_option maxHeartbeats 4000000 in
set_option maxRecDepth 100000 in
theorem forbidden_any (k l : Nat) (f : Nat → Bool) (w : World) (hk : k ≤ 6) (hl : l ≤ 6) :
    Calls Try.prog 36 #[planV k l f] w fun e w' => e = .returned (sv (fbF k l f)) ∧ Below w.heap.size w w' := by
  have HB := Lib.hid ((Below.refl _ w).alloc (Nat.le_refl _) (.cells (planC k l f) 63))
  obtain ⟨c0, c1, c2⟩ := cells_of3 (heap_alloc_new w (.cells (planC k l f) 63))
  obtain ⟨wa, hwa⟩ : ∃ wa, w.alloc (.cells (planC k l f) 63) = wa := ⟨_, rfl⟩
  rw [hwa] at HB c0 c1 c2
  rw [planC] at hwa
  have HWA := Lib.hid hwa
  have HK := Lib.hid (And.intro c0 (And.intro c1 c2))
  clear hwa c0 c1 c2
  go_enter Try.func36, Try.ntmps36
  rw [planV, planC]
  go_upto_region 1 with fail
  rw [HWA.out]
  obtain ⟨c0, c1, c2⟩ := HK.out
  simp only [sv] at c2
  go_wp2
  go_loop [3, 4, 5, 8] (fun s _ _ x => ∃ i : Nat, i ≤ k ∧ x = .int .i64 i ∧ s = .int .u64 (S36 (fun n => decide (n / 6 < i) && decide (n % 6 < l)) : Nat)) (fun _ _ _ x => k - (intOf x).toNat)
  case atStart => exact ⟨0, by omega, rfl, by rw [show (S36 fun n => decide (n / 6 < 0) && decide (n % 6 < l)) = 0 from S36_eq_zero.2 fun n _ => by simp]; rfl⟩
  case round =>
    obtain ⟨i, hi, rfl, rfl⟩ := hrel
    by_cases hlt : i < k
    · go_wp2
      go_loop [3, 5, 13] (fun s _ x => ∃ j : Nat, j ≤ l ∧ x = .int .i64 j ∧ s = .int .u64 (S36 (fun n => (decide (n / 6 < i) && decide (n % 6 < l)) || (decide (n / 6 = i) && decide (n % 6 < j))) : Nat)) (fun _ _ x => l - (intOf x).toNat)
      case atStart => exact ⟨0, by omega, rfl, sv_eq fun n hn => by simp⟩
      case round =>
        obtain ⟨j, hj, rfl, rfl⟩ := hrel
        by_cases hlj : j < l
        · have HP := Lib.hid (fun w => pair_any i j w (by omega) (by omega))
          have HO := Lib.hid (show bits .or .u64 (S36 (fun n => (decide (n / 6 < i) && decide (n % 6 < l)) || (decide (n / 6 = i) && decide (n % 6 < j))) : Nat) ((S36 fun n => n == 6 * i + j : Nat) : Int) = ((S36 (fun n => (decide (n / 6 < i) && decide (n % 6 < l)) || (decide (n / 6 = i) && decide (n % 6 < j + 1))) : Nat) : Int) by
            rw [sv_or, S36_congr fun n hn => ?_]
            rw [Bool.or_assoc]
            congr 1
            rw [Bool.eq_iff_iff]
            simp only [Bool.or_eq_true, Bool.and_eq_true, decide_eq_true_eq, beq_iff_eq]
            omega)
          go_wp2_with fail
          refine (HP.out _).mono ?_
          rintro e w' ⟨rfl, rfl⟩
          rw [sv]
          go_wp2
          go_round
          case rel => exact ⟨j + 1, by omega, by go_num, by rw [HO.out]⟩
          case measure => simp [intOf]; omega
        · have hjl : j = l := by omega
          subst hjl
          go_wp2
          go_round
          case rel => exact ⟨i + 1, by omega, by go_num, sv_eq fun n hn => by
            rw [Bool.eq_iff_iff]
            simp only [Bool.or_eq_true, Bool.and_eq_true, decide_eq_true_eq]
            omega⟩
          case measure => simp [intOf]; omega
    · have hik : i = k := by omega
      subst hik
      have HR := Lib.hid (show bits .andNot .u64 (S36 (fun n => decide (n / 6 < i) && decide (n % 6 < l)) : Nat) (S36 f : Nat) = ((S36 (fbF i l f) : Nat) : Int) from sv_not _ _)
      go_wp2
      go_ret
      exact ⟨ret_u64 HR.out, HB.out⟩

set_option maxHeartbeats 4000000 in
set_option maxRecDepth 100000 in
theorem stopped_any (k l : Nat) (f : Nat → Bool) (c : Nat → Int) (w : World) (hk : k ≤ 6) (hl : l ≤ 6) :
    Calls Try.prog 51 #[planV k l f, colV c] w fun e w' => e = .returned (sv (stF k l f c)) ∧ Below w.heap.size w w' := by
  have HB := Lib.hid (((Below.refl _ w).alloc (Nat.le_refl _) (.cells (planC k l f) 63)).alloc (by simp) (.cells (colC c) 84))
  obtain ⟨h0, h1⟩ := two_heap w (.cells (planC k l f) 63) (.cells (colC c) 84)
  obtain ⟨wa, hwa⟩ : ∃ wa, (w.alloc (.cells (planC k l f) 63)).alloc (.cells (colC c) 84) = wa := ⟨_, rfl⟩
  rw [hwa] at HB h0 h1
  rw [planC] at hwa
  have HWA := Lib.hid hwa
  have H0 := Lib.hid h0
  have H1 := Lib.hid h1
  clear hwa h0 h1
  go_enter Try.func51, Try.ntmps51
  rw [planV, planC, colV]
  go_upto_region 1 with fail
  rw [HWA.out]
  obtain ⟨c0, c1, c2⟩ := cells_of3 H0.out
  go_wp2
  go_loopw [5, 6, 7, 8, 11] (fun s _ _ _ x wr => ∃ j : Nat, j ≤ l ∧ x = .int .i64 j ∧ s = .int .u64 (S36 (fun n => decide (n % 6 < j) && stF k l f c n) : Nat) ∧ Below w.heap.size w wr ∧
    wr.heap[w.heap.size]? = some (.cells (planC k l f) 63 (0, 0)) ∧ wr.heap[w.heap.size + 1]? = some (.cells (colC c) 84 (0, 0))) (fun _ _ _ _ x _ => l - (intOf x).toNat)
  case atStart => exact ⟨0, by omega, rfl, by rw [show (S36 fun n => decide (n % 6 < 0) && stF k l f c n) = 0 from S36_eq_zero.2 fun n _ => by simp]; rfl, HB.out, H0.out, H1.out⟩
  case round =>
    obtain ⟨j, hj, rfl, rfl, hb, h0, h1⟩ := hrel
    clear HB H0 H1 c0 c1 c2
    obtain ⟨c0, c1, c2⟩ := cells_of3 h0
    have HB := Lib.hid hb
    have H0 := Lib.hid h0
    have H1 := Lib.hid h1
    clear hb h0 h1
    by_cases hlt : j < l
    · go_wp2
      go_step3
      go_wp2
      go_step3
      go_wp2
      clear c0 c1 c2
      go_loopg [5, 7, 8, 16] k (fun g s _ _ x wr => ∃ i : Nat, i + g = k ∧ x = .int .i64 i ∧ s = .int .u64 (S36 (fun n => (decide (n % 6 < j) || (decide (n % 6 = j) && decide (n / 6 < i))) && stF k l f c n) : Nat) ∧ Below w.heap.size w wr ∧
        wr.heap[w.heap.size]? = some (.cells (planC k l f) 63 (0, 0)) ∧ wr.heap[w.heap.size + 1]? = some (.cells (colC c) 84 (0, 0)))
      case atStart => exact ⟨0, by omega, rfl, sv_eq fun n hn => by simp, HB.out, H0.out, H1.out⟩
      case round =>
        obtain ⟨i, hi, rfl, rfl, hb, h0, h1⟩ := hrel
        clear HB H0 H1
        obtain ⟨c0, c1, c2⟩ := cells_of3 h0
        have HB := Lib.hid hb
        have H0 := Lib.hid h0
        have H1 := Lib.hid h1
        clear hb h0 h1
        obtain ⟨gm, rfl⟩ : ∃ x, x = gk := ⟨_, rfl⟩
        by_cases hli : i < k
        · go_wp2
          clear c0 c1 c2
          go_loopg [8, 21] k (fun g _ x wr => ∃ o : Nat, o + g = k ∧ x = .int .i64 o ∧ (∀ q, q < o → ¬ (f (6 * q + j) = true ∧ c q = c i)) ∧ Below w.heap.size w wr ∧
            wr.heap[w.heap.size]? = some (.cells (planC k l f) 63 (0, 0)) ∧ wr.heap[w.heap.size + 1]? = some (.cells (colC c) 84 (0, 0)))
          case atStart => exact ⟨0, by omega, rfl, fun q hq => absurd hq (by omega), HB.out, H0.out, H1.out⟩
          case round =>
            obtain ⟨o, ho, rfl, hg, hb, h0, h1⟩ := hrel
            clear HB H0 H1
            obtain ⟨c0, c1, c2⟩ := cells_of3 h0
            have HB := Lib.hid hb
            have H0 := Lib.hid h0
            have H1 := Lib.hid h1
            have HG := Lib.hid hg
            clear hb h0 h1 hg
            by_cases hlo : o < k
            · obtain ⟨d0, -⟩ := colC_cell H1.out (show o < 6 by omega)
              obtain ⟨d1, -⟩ := colC_cell H1.out (show i < 6 by omega)
              have HH := Lib.hid (fun w => has_any f o j w (by omega) (by omega))
              obtain ⟨fo, hfo⟩ : ∃ b, f (6 * o + j) = b := ⟨_, rfl⟩
              obtain ⟨xo, hxo⟩ : ∃ x, c o = x := ⟨_, rfl⟩
              obtain ⟨xi, hxi⟩ : ∃ x, c i = x := ⟨_, rfl⟩
              rw [hfo] at HH
              rw [hxo] at d0
              rw [hxi] at d1
              have HF := Lib.hid hfo
              have HX := Lib.hid hxo
              have HY := Lib.hid hxi
              clear hfo hxo hxi
              have hi6 : (i : Int) < 6 := by omega
              have ho6 : (o : Int) < 6 := by omega
              have hcs : (fo = true ∧ (xo == xi) = true) ∨ (fo = true ∧ (xo == xi) = false) ∨ fo = false := by
                cases fo
                · exact .inr (.inr rfl)
                · cases hq : xo == xi
                  · exact .inr (.inl ⟨rfl, rfl⟩)
                  · exact .inl ⟨rfl, rfl⟩
              rcases hcs with ⟨rfl, g1⟩ | ⟨rfl, g1⟩ | rfl
              · have HS := Lib.hid (show Value.int .u64 (S36 (fun n => (decide (n % 6 < j) || (decide (n % 6 = j) && decide (n / 6 < i))) && stF k l f c n) : Nat) = .int .u64 (S36 (fun n => (decide (n % 6 < j) || (decide (n % 6 = j) && decide (n / 6 < i + 1))) && stF k l f c n) : Nat) from sv_eq fun n hn => by
                  by_cases e : n = 6 * i + j
                  · have hp : PinF k f c (n % 6) (c (n / 6)) := ⟨o, hlo, by rw [e, show (6 * i + j) % 6 = j by omega]; exact HF.out, by rw [e, show (6 * i + j) / 6 = i by omega, HX.out, HY.out]; exact eq_of_beq g1⟩
                    rw [show stF k l f c n = false from by unfold stF; rw [decide_eq_true hp]; simp]
                    simp
                  · congr 1
                    rw [Bool.eq_iff_iff]
                    simp only [Bool.or_eq_true, Bool.and_eq_true, decide_eq_true_eq]
                    omega)
                go_wp2_with fail
                go_quiet (exact Calls.quiet_of_same (HH.out _))
                go_wp2
                go_roundg (gm - 1)
                case measure => omega
                case rel => exact ⟨i + 1, by omega, by go_num, HS.out, below_drewN HB.out _, H0.out, H1.out⟩
              · have HN := Lib.hid (show ∀ q, q < o + 1 → ¬ (f (6 * q + j) = true ∧ c q = c i) from fun q hq => by
                  by_cases e : q = o
                  · rintro ⟨-, z⟩
                    rw [e, HX.out, HY.out] at z
                    rw [z] at g1
                    simp at g1
                  · exact HG.out q (by omega))
                go_wp2_with fail
                go_quiet (exact Calls.quiet_of_same (HH.out _))
                go_wp2
                go_roundg (gk - 1)
                case measure => omega
                case rel => exact ⟨o + 1, by omega, by go_num, HN.out, below_drewN HB.out _, H0.out, H1.out⟩
              · have HN := Lib.hid (show ∀ q, q < o + 1 → ¬ (f (6 * q + j) = true ∧ c q = c i) from fun q hq => by
                  by_cases e : q = o
                  · rintro ⟨z, -⟩
                    rw [e, HF.out] at z
                    cases z
                  · exact HG.out q (by omega))
                go_wp2_with fail
                go_quiet (exact Calls.quiet_of_same (HH.out _))
                go_wp2
                go_roundg (gk - 1)
                case measure => omega
                case rel => exact ⟨o + 1, by omega, by go_num, HN.out, below_drewN HB.out _, H0.out, H1.out⟩
            · have hok : o = k := by omega
              have HP := Lib.hid (fun w => pair_any i j w (by omega) (by omega))
              have HO := Lib.hid (show bits .or .u64 (S36 (fun n => (decide (n % 6 < j) || (decide (n % 6 = j) && decide (n / 6 < i))) && stF k l f c n) : Nat) ((S36 fun n => n == 6 * i + j : Nat) : Int) = ((S36 (fun n => (decide (n % 6 < j) || (decide (n % 6 = j) && decide (n / 6 < i + 1))) && stF k l f c n) : Nat) : Int) by
                rw [sv_or, S36_congr fun n hn => ?_]
                by_cases e : n = 6 * i + j
                · have hp : ¬ PinF k f c (n % 6) (c (n / 6)) := by
                    rw [e, show (6 * i + j) % 6 = j by omega, show (6 * i + j) / 6 = i by omega]
                    rintro ⟨q, h1, h2⟩
                    exact HG.out q (by omega) h2
                  rw [show stF k l f c n = true from by unfold stF; rw [decide_eq_false hp, decide_eq_true (show n / 6 < k by omega), decide_eq_true (show n % 6 < l by omega)]; rfl]
                  rw [e, show (6 * i + j) % 6 = j by omega, show (6 * i + j) / 6 = i by omega]
                  simp
                · rw [show (n == 6 * i + j) = false from beq_eq_false_iff_ne.2 e, Bool.or_false]
                  congr 1
                  rw [Bool.eq_iff_iff]
                  simp only [Bool.or_eq_true, Bool.and_eq_true, decide_eq_true_eq]
                  omega)
              go_wp2_with fail
              refine (HP.out _).mono ?_
              rintro e w' ⟨rfl, rfl⟩
              rw [sv]
              go_wp2
              go_roundg (gm - 1)
              case measure => omega
              case rel => exact ⟨i + 1, by omega, by go_num, by rw [HO.out], HB.out, H0.out, H1.out⟩
        · have hik : i = k := by omega
          have HS := Lib.hid (show Value.int .u64 (S36 (fun n => (decide (n % 6 < j) || (decide (n % 6 = j) && decide (n / 6 < i))) && stF k l f c n) : Nat) = .int .u64 (S36 (fun n => decide (n % 6 < j + 1) && stF k l f c n) : Nat) from sv_eq fun n hn => by
            by_cases e : n / 6 < k
            · congr 1
              rw [Bool.eq_iff_iff]
              simp only [Bool.or_eq_true, Bool.and_eq_true, decide_eq_true_eq]
              omega
            · rw [show stF k l f c n = false from by unfold stF; rw [decide_eq_false e]; rfl]
              simp)
          go_wp2
          simp only [Exit.noGoto]
          go_wp2
          go_roundw
          case rel => exact ⟨j + 1, by omega, by go_num, HS.out, HB.out, H0.out, H1.out⟩
          case measure => simp [intOf]; omega
    · have hjl : j = l := by omega
      subst hjl
      have HS := Lib.hid (show sv (fun n => decide (n % 6 < j) && stF k j f c n) = sv (stF k j f c) from sv_congr fun n hn => by
        by_cases e : n % 6 < j
        · simp [e]
        · unfold stF
          simp [e])
      go_wp2
      go_ret
      exact ⟨(congrArg Ending.returned HS.out), HB.out⟩

end Go.Proofs.Ytjibdolhipddbaa
