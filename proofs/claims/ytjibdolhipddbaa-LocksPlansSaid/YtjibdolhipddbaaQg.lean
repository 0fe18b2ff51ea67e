/- C1 C2 -/
import Derived.Test.YtjibdolhipddbaaQf
import Derived.Deep.RegionLaw
import Derived.SizedLaws
import Derived.StillTailTactics
/- A list that repeats one number. -/
namespace Go.Proofs.Ytjibdolhipddbaa
open Go.RowKit

/-- Numbers of which one is stored. -/
theorem NewInts.stored {B g cap n : Nat} {w : World} {xs : List Int} (h : NewInts B w (.slice (some ⟨g, 0, none⟩) n cap) xs) (hn : n = xs.length) (j : Nat) (x : Int) (hx : -9223372036854775808 ≤ x ∧ x ≤ 9223372036854775807) (hj : j < xs.length) :
    NewInts B (w.setCell ⟨g, j, none⟩ (.int .i64 x)) (.slice (some ⟨g, 0, none⟩) n cap) (xs.set j x) := by
  subst hn
  refine ⟨?_, fun i => ?_, by rw [List.length_set]; exact h.len⟩
  · have := (h.own.stored j (.int .i64 x)).1
    rw [List.length_set, List.map_set]
    exact this
  · rw [nth_set _ _ _ _ hj]
    split
    · exact hx
    · exact h.wf i

theorem NewInts.frozen {B g cap n : Nat} {w : World} {xs : List Int} (h : NewInts B w (.slice (some ⟨g, 0, none⟩) n cap) xs) (hn : n = xs.length) (j : Nat) : w.frozen? ⟨g, j, none⟩ = false := by
  subst hn; exact h.own.frozenAt j

/-- New zeros. -/
theorem NewInts.zeros {B n : Nat} {w : World} {v : Value} (h : w.ownsRow B 3 1 v n (madeCells #[.int .i64 0] (n * 1)).toList) (hn : n ≤ 1000) : NewInts B w v (List.replicate n 0) := by
  rw [Nat.mul_one, toList_madeCells_one] at h
  refine ⟨?_, fun i => ?_, by simp; omega⟩
  · rw [List.length_replicate, List.map_replicate]; exact h
  · unfold nth
    rw [List.getD_eq_getElem?_getD, List.getElem?_replicate]
    split <;> simp

/-- The new zeros that make lays. -/
theorem make_zeros (wp : World) (N : Nat) (hN : N ≤ 1000) : ∃ w', (Instr.makeSlice 34 (.int .i64 (N : Int)) (.int .i64 (N : Int))).run Try.prog wp = .ok (.slice (some ⟨wp.heap.size, 0, none⟩) N N) w' ∧
    NewInts wp.heap.size w' (.slice (some ⟨wp.heap.size, 0, none⟩) N N) (List.replicate N 0) ∧ Below wp.heap.size wp w' := by
  obtain ⟨j0, hj0, jz0, jz1, jz2⟩ := info_parts Try.info3
  obtain ⟨w6, hrun, hown, hg⟩ := run_make_full (P := Try.prog) wp wp.heap.size 34 3 j0 (.int .i64 0) 1 Try.underlying34 hj0 jz0 jz1 .i64 .i64 N (by rw [jz2]; omega) (by unfold maxLen; omega) (Nat.le_refl _)
  have hc : (Value.int .i64 0).cells = #[.int .i64 0] := by simp [Value.cells]
  rw [hc] at hown
  exact ⟨w6, hrun, NewInts.zeros hown hN, (Below.refl _ _).grown hg (Nat.le_refl _) (fun r hr => by cases hr)⟩


theorem row_of_news {B g n : Nat} {w : World} {xs : List Int} (h : NewInts B w (.slice (some ⟨g, 0, none⟩) n n) xs) (hn : xs.length = n) : w.heap[g]? = some (.cells (xs.map (Value.int .i64)).toArray 3 (0, 0)) := by
  rcases h.own.2 with ⟨h1, -⟩ | ⟨g', cap, cur, h1, h2, h3, h4, h5, h6, h7⟩
  · cases h1
  · injection h1 with e1 e2 e3
    injection e1 with e1
    injection e1 with e1
    subst e1
    have : cur = (xs.map (Value.int .i64)).toArray := by
      rw [← h7, List.take_of_length_le (by simp [h6]; omega)]
    rw [h3, this]

set_option maxHeartbeats 4000000 in
set_option maxRecDepth 100000 in
theorem mul64_any (c : Nat) (hc : 1 ≤ c ∧ c ≤ 4) (w : World) :
    Calls Try.prog 63 #[.int .u64 1, .int .u64 c] w fun e w' => e = .returned (.tuple #[.int .u64 0, .int .u64 c]) ∧ w' = w := by
  obtain rfl | rfl | rfl | rfl : c = 1 ∨ c = 2 ∨ c = 3 ∨ c = 4 := by omega
  all_goals
    go_enter Try.func63, Try.ntmps63
    go_wp2
    go_ret2
    exact ⟨rfl, rfl⟩
set_option maxHeartbeats 4000000 in
set_option maxRecDepth 100000 in
theorem mul_any (c : Nat) (hc : 1 ≤ c ∧ c ≤ 4) (w : World) :
    Calls Try.prog 60 #[.int .u64 1, .int .u64 c] w fun e w' => e = .returned (.tuple #[.int .u64 0, .int .u64 c]) ∧ w' = w := by
  have HM := Lib.hid (mul64_any c hc w)
  go_enter Try.func60, Try.ntmps60
  go_wp2_with fail
  refine HM.out.mono ?_
  rintro e w' ⟨rfl, rfl⟩
  go_wp2
  go_ret2
  exact ⟨rfl, rfl⟩

/-- n ones, then zeros, c numbers in all. -/
def ones (c n : Nat) : List Value := List.replicate n (.int .i64 1) ++ List.replicate (c - n) (.int .i64 0)
theorem ones_len {c n : Nat} (h : n ≤ c) : (ones c n).length = c := by simp [ones]; omega
theorem ones_get {c n j : Nat} (h : j < n) : (ones c n)[j]? = some (.int .i64 1) := by
  rw [ones, List.getElem?_append_left (by simpa using h), List.getElem?_replicate, if_pos h]
theorem ones_splice {c n m : Nat} (h : n + m ≤ c) : splice (ones c n) n (List.replicate m (.int .i64 1)) = ones c (n + m) := by
  unfold splice ones
  rw [List.take_append_of_le_length (by simp), List.take_of_length_le (by simp), List.drop_append, List.drop_of_length_le (by simp), List.length_replicate, List.length_replicate, List.nil_append, List.drop_replicate, ← List.append_assoc, List.replicate_append_replicate]
  rw [show c - n - (n + m - n) = c - (n + m) by omega]

set_option maxHeartbeats 4000000 in
set_option maxRecDepth 100000 in
theorem repeat_any (c : Nat) (hc : 1 ≤ c ∧ c ≤ 4) (xb : Nat) (w : World) (hx : w.cell? ⟨xb, 0, none⟩ = some (.int .i64 1)) (hxb : xb < w.heap.size) :
    Calls Try.prog 53 #[.slice (some ⟨xb, 0, none⟩) 1 1, .int .i64 c] w fun e w' => ∃ nb, e = .returned (.slice (some ⟨nb, 0, none⟩) c c) ∧ w.heap.size ≤ nb ∧ w'.heap[nb]? = some (.cells (ones c c).toArray 3 (0, 0)) ∧ Below w.heap.size w w' := by
  have HM := Lib.hid (fun w => mul_any c hc w)
  obtain ⟨w1, hrun, hnew, hb1⟩ := make_zeros w c (by omega)
  have h1 := row_of_news hnew (by simp)
  have HB1 := Lib.hid hb1
  have H1 := Lib.hid (show w1.heap[w.heap.size]? = some (.cells (ones c 0).toArray 3 (0, 0)) by rw [h1]; simp [ones])
  have HX := Lib.hid ((hb1.cell (p := ⟨xb, 0, none⟩) hxb).trans hx)
  have hc1 := hc.1
  have hc4 := hc.2
  have t1 : decide ((c : Int) < 0) = false := decide_eq_false (by omega)
  have t2 : decide (9223372036854775807 < (c : Int)) = false := decide_eq_false (by omega)
  have hw1 : IntKind.u64.wrap (c : Int) = (c : Int) := by rw [IntKind.wrap_u64]; omega
  have hw2 : IntKind.i64.wrap (c : Int) = (c : Int) := IntWalk.i64_in _ (by omega)
  clear hnew hb1 h1 hx hc
  go_enter Try.func53, Try.ntmps53
  go_wp2_with fail
  refine (HM.out _).mono ?_
  rintro e w' ⟨rfl, rfl⟩
  go_wp2_with (refine wpList_copy_splice rfl (.tmp 31) (.tmp 32) 34 34 rfl 3 Try.underlying34 (by kernel_rfl) (some ⟨w'.heap.size, 0, none⟩) (some ⟨xb, 0, none⟩) c c 1 1 rfl rfl w'.heap.size 0 (ones c 0) 3 H1.out [.int .i64 1] ?c1 ?c2 ?c3 ?c4 w'.heap.size w' HB1.out (Nat.le_refl _) ?_)
  case c1 => exact (Nat.min_eq_left hc1).symm
  case c2 =>
    intro j v hv
    have hj : j < 1 := (List.getElem?_eq_some_iff.1 hv).1
    obtain rfl : j = 0 := by omega
    injection hv with hv
    rw [← hv]
    exact HX.out
  case c3 => rw [ones_len (by omega)]; simp; omega
  case c4 => intro v hv; rw [List.mem_singleton.1 hv]; rfl
  intro w2 hw2' hb2
  have HB2 := Lib.hid hb2
  have H2 := Lib.hid (show w2.heap[w'.heap.size]? = some (.cells (ones c 1).toArray 3 (0, 0)) from by
    have e : splice (ones c 0) 0 [Value.int .i64 1] = ones c 1 := by
      have := ones_splice (c := c) (n := 0) (m := 1) (by omega)
      simpa using this
    rw [← e]
    exact hw2'.out)
  clear hw2' hb2 HB1 H1 hrun
  go_wp2
  go_loopw [8] (fun x wr => ∃ n : Nat, 1 ≤ n ∧ n ≤ c ∧ x = .int .i64 n ∧ wr.heap[w'.heap.size]? = some (.cells (ones c n).toArray 3 (0, 0)) ∧ Below w'.heap.size w' wr) (fun x _ => c - (intOf x).toNat)
  case atStart => exact ⟨1, by omega, hc1, rfl, H2.out, HB2.out⟩
  case round =>
    obtain ⟨n, hn1, hn, rfl, hh, hb⟩ := hrel
    have HN := Lib.hid hh
    have HB := Lib.hid hb
    clear hh hb H2 HB2
    by_cases hlt : n < c
    · obtain ⟨m, hm⟩ : ∃ m, Nat.min n (c - n) = m := ⟨_, rfl⟩
      have hm1 : n + m ≤ c ∧ 1 ≤ m := by
        have h1 : m ≤ c - n := by rw [← hm]; exact Nat.min_le_right _ _
        have h2 : 1 ≤ m := by rw [← hm]; exact Nat.le_min.2 ⟨hn1, by omega⟩
        omega
      have HM1 := Lib.hid hm1
      have HMM := Lib.hid hm
      have b1 : (n : Int) ≤ (c : Int) := by omega
      clear hm hm1
      obtain ⟨ws, rfl⟩ : ∃ ws : World, ws = wr := ⟨_, rfl⟩
      have HC1 := Lib.hid (show (List.replicate m (Value.int .i64 1)).length = Nat.min n (c - n) by rw [List.length_replicate]; exact HMM.out.symm)
      have HNB := Lib.hid (show ∀ W, Below ws.heap.size ws W → W.heap[w'.heap.size]? = some (.cells (ones c n).toArray 3 (0, 0)) from fun W hW => (hW.block _ (lt_of_block HN.out)).trans HN.out)
      have HC2 := Lib.hid (show ∀ W, Below ws.heap.size ws W → ∀ j v, (List.replicate m (Value.int .i64 1))[j]? = some v → W.cell? ⟨w'.heap.size, j, none⟩ = some v from fun W hW j v hv => by
        have hj : j < m := by have := (List.getElem?_eq_some_iff.1 hv).1; rwa [List.length_replicate] at this
        have hmn : m ≤ n := by rw [← HMM.out]; exact Nat.min_le_left _ _
        rw [List.getElem?_replicate, if_pos hj] at hv
        rw [← hv, cell_of_row _ _ _ _ _ _ (HNB.out W hW)]
        have := ones_get (c := c) (show j < n by omega)
        simpa using this)
      have HC3 := Lib.hid (show n + (List.replicate m (Value.int .i64 1)).length ≤ (ones c n).length by rw [ones_len hn, List.length_replicate]; exact HM1.out.1)
      have HC4 := Lib.hid (show ∀ v ∈ List.replicate m (Value.int .i64 1), v.oneCell' = true from fun v hv => by rw [(List.mem_replicate.1 hv).2]; rfl)
      have HC5 := Lib.hid (fun W (hW : Below ws.heap.size ws W) => HB.out.trans (hW.mono HB.out.size))
      have HSP := Lib.hid (show splice (ones c n) n (List.replicate m (Value.int .i64 1)) = ones c (n + m) from ones_splice HM1.out.1)
      have HLR := Lib.hid (show ((List.replicate m (Value.int .i64 1)).length : Int) = (m : Int) by rw [List.length_replicate])
      have hne : ¬ c = n := by omega
      have HWN := Lib.hid (show Value.int .i64 (IntKind.i64.wrap ((n : Int) + (m : Int))) = .int .i64 ((n + m : Nat) : Int) by
        have := HM1.out.1
        rw [IntWalk.i64_in _ (by omega)]; simp)
      go_wp2_with fail
      go_region_held3 (fun _ => True) (trivial)
        (
          (refine step_copy_splice rfl (.tmp 41) (.tmp 44) 34 34 rfl 3 Try.underlying34 (by kernel_rfl) (some ⟨w'.heap.size, n, none⟩) (some ⟨w'.heap.size, 0, none⟩) (c - n) (c - n) n c rfl rfl w'.heap.size n (ones c n) 3 ?_ (List.replicate m (.int .i64 1)) HC1.out (fun _ => ⟨rfl, _, rfl, fun j v hv => by rw [Addr.add_mid, Nat.zero_add]; exact HC2.out _ (by repeat (first | exact Below.refl _ _ | apply below_dr)) j v hv⟩) HC3.out HC4.out w'.heap.size w' ?_ (Nat.le_refl _) ?_; (focus (refine HNB.out _ ?_; repeat (first | exact Below.refl _ _ | apply below_dr))); (focus (refine HC5.out _ ?_; repeat (first | exact Below.refl _ _ | apply below_dr))); intro w4 hg4 hb4; rw [HSP.out] at hg4; have HG4 := Lib.hid hg4.out; have HB4 := Lib.hid hb4; clear hg4 hb4; simp only [goInt, HLR.out])
)
      rw [HWN.out]
      have hm9 := HM1.out
      go_wp2
      go_roundw
      case rel => exact ⟨n + m, by omega, hm9.1, rfl, HG4.out, HB4.out⟩
      case measure => simp [intOf]; omega
    · have hnc : n = c := by omega
      subst hnc
      go_wp2
      go_ret
      exact ⟨_, rfl, Nat.le_refl _, HN.out, HB.out⟩

end Go.Proofs.Ytjibdolhipddbaa

/- The cuts of some chambers. -/
namespace Go.Proofs.Ytjibdolhipddbaa
open Go.RowKit

/-- The depth of a key in chamber t, where the first n chambers are known. -/
def cF (X : List (List Int)) (key n t : Nat) : Int := if t < n then nth (row X t) key else 1
def cutRow (X : List (List Int)) (c key : Nat) : List Int := (List.range c).map (cF X key X.length)
def cutsL (X : List (List Int)) (c k : Nat) : List (List Int) := (List.range k).map (cutRow X c)
theorem cutsL_len (X : List (List Int)) (c k : Nat) : (cutsL X c k).length = k := by simp [cutsL]
theorem cutRow_len (X : List (List Int)) (c key : Nat) : (cutRow X c key).length = c := by simp [cutRow]
theorem cutsL_row (X : List (List Int)) (c k : Nat) {q : Nat} (h : q < k) : row (cutsL X c k) q = cutRow X c q := by simp [row, cutsL, List.getD_eq_getElem?_getD, h]
theorem cutRow_nth (X : List (List Int)) (c key : Nat) {t : Nat} (h : t < c) : nth (cutRow X c key) t = cF X key X.length t := by simp [nth, cutRow, List.getD_eq_getElem?_getD, h]
theorem ones_ofN (c : Nat) (f : Nat → Int) (h : ∀ t, t < c → f t = 1) : (ones c c).toArray = ofN c fun t => .int .i64 (f t) := by
  rw [ofN_congr (g := fun _ => Value.int .i64 1) fun t ht => by rw [h t ht]]
  unfold ones ofN
  rw [Nat.sub_self, List.replicate_zero, List.append_nil, List.map_const', List.length_range]

set_option maxRecDepth 100000 in
theorem make_rows (wp : World) (N : Nat) (hN : N ≤ 6) : ∃ w', (Instr.makeSlice 22 (.int .i64 (N : Int)) (.int .i64 (N : Int))).run Try.prog wp = .ok (.slice (some ⟨wp.heap.size, 0, none⟩) N N) w' ∧
    w'.heap[wp.heap.size]? = some (.cells (ofN N fun _ => .slice none 0 0) 34 (0, 0)) ∧ Below wp.heap.size wp w' := by
  obtain ⟨j0, hj0, jz0, jz1, jz2⟩ := info_parts Try.info34
  obtain ⟨w6, hrun, hown, hg⟩ := run_make_full (P := Try.prog) wp wp.heap.size 22 34 j0 (.slice none 0 0) 1 Try.underlying22 hj0 jz0 jz1 .i64 .i64 N (by rw [jz2]; omega) (by unfold maxLen; omega) (Nat.le_refl _)
  have hc : (Value.slice none 0 0).cells = #[.slice none 0 0] := by simp [Value.cells]
  rw [hc, Nat.mul_one, toList_madeCells_one] at hown
  refine ⟨w6, hrun, ?_, (Below.refl _ _).grown hg (Nat.le_refl _) (fun r hr => by cases hr)⟩
  rcases hown.2 with ⟨h1, -⟩ | ⟨g', cap, cur, h1, h2, h3, h4, h5, h6, h7⟩
  · cases h1
  · injection h1 with e1 e2 e3
    injection e1 with e1
    injection e1 with e1
    subst e1
    have : cur = ofN N fun _ => .slice none 0 0 := by
      rw [List.take_of_length_le (by simp [h6]; omega)] at h7
      unfold ofN
      rw [List.map_const', List.length_range, ← h7]
    rw [h3, this]

set_option maxHeartbeats 4000000 in
set_option maxRecDepth 100000 in
theorem cuts_any (k l : Nat) (f : Nat → Bool) (X : List (List Int)) (ao : Option Addr) (b o cap c : Nat) (w : World) (hk : k ≤ 6) (hc : 1 ≤ c ∧ c ≤ 4) (hX : X.length ≤ c) (hx4 : ∀ q, q < X.length → ∀ i, i < 6 → 0 ≤ nth (row X q) i ∧ nth (row X q) i ≤ 4) (H : ColsAt w ao b o X) :
    Calls Try.prog 37 #[planV k l f, .slice ao X.length cap, .int .i64 c] w fun e w' => ∃ v, e = .returned v ∧ NewRows w.heap.size w' v (cutsL X c k) ∧ Below w.heap.size w w' := by
  have HB0 := Lib.hid ((Below.refl _ w).alloc (Nat.le_refl _) (.cells (planC k l f) 63))
  obtain ⟨c0, c1, c2⟩ := cells_of3 (heap_alloc_new w (.cells (planC k l f) 63))
  have hsz : (w.alloc (.cells (planC k l f) 63)).heap.size = w.heap.size + 1 := by simp
  obtain ⟨wa, hwa⟩ : ∃ wa, w.alloc (.cells (planC k l f) 63) = wa := ⟨_, rfl⟩
  rw [hwa] at HB0 c0 c1 c2 hsz
  obtain ⟨w1, hrun, hl, hb1⟩ := make_rows wa k hk
  have HB1 := Lib.hid (HB0.out.trans (hb1.mono HB0.out.size))
  rw [planC] at hwa
  have HWA := Lib.hid hwa
  have HL := Lib.hid (show w1.heap[w.heap.size + 1]? = some (.cells (ofN k fun _ => .slice none 0 0) 34 (0, 0)) by rw [← hsz]; exact hl)
  have HX := Lib.hid H
  have HX4 := Lib.hid hx4
  have hc1 := hc.1
  have hc4 := hc.2
  have hbl := lt_of_block HL.out
  rw [hsz] at hrun
  have HRP := Lib.hid (fun xb w => repeat_any c hc xb w)
  clear hwa H hx4 hl hb1 hc c1 c2
  show Calls _ _ #[.agg #[.int .i64 k, .int .i64 l, sv f], _, _] _ _
  go_enter Try.func37, Try.ntmps37
  go_upto_region 1 with fail
  rw [HWA.out]
  go_wp2
  go_loopw [8, 9, 10, 16] (fun _ _ _ y wr => ∃ (i : Nat) (R : Nat → Nat), i ≤ k ∧ y = .int .i64 i ∧ Below w.heap.size w wr ∧ w.heap.size + 1 < wr.heap.size ∧
    wr.heap[w.heap.size + 1]? = some (.cells (ofN k fun q => if q < i then .slice (some ⟨R q, 0, none⟩) c c else .slice none 0 0) 34 (0, 0)) ∧
    ∀ q, q < i → w.heap.size + 1 < R q ∧ wr.heap[R q]? = some (.cells (ofN c fun t => .int .i64 (cF X q X.length t)) 3 (0, 0))) (fun _ _ _ y _ => k - (intOf y).toNat)
  case atStart => exact ⟨0, fun _ => 0, by omega, rfl, HB1.out, hbl, by rw [HL.out, ofN_congr (g := fun q => if q < 0 then .slice (some ⟨0, 0, none⟩) c c else .slice none 0 0) fun t _ => (if_neg (by omega)).symm], fun q hq => absurd hq (by omega)⟩
  case round =>
    obtain ⟨i, R, hi, rfl, hb, hlt1, hlb, hR⟩ := hrel
    clear HB1 HL HB0
    have HB := Lib.hid hb
    have HLB := Lib.hid hlb
    have HR := Lib.hid hR
    clear hb hlb hR c0 hrun hbl
    by_cases hlt : i < k
    · have HBX := Lib.hid (HB.out.alloc HB.out.size (.cells #[.int .i64 1] 3))
      have HXB := Lib.hid (show (wr.alloc (.cells #[.int .i64 1] 3)).cell? ⟨wr.heap.size, 0, none⟩ = some (.int .i64 1) by rw [cell_of_row _ _ _ _ _ _ (heap_alloc_new wr _)]; rfl)
      have hik : (i : Int) < (k : Int) := by omega
      go_wp2_with fail
      refine (HRP.out wr.heap.size _ HXB.out (by simp)).mono ?_
      rintro e w2 ⟨nb, rfl, hnb, hh, hb2⟩
      have HB2 := Lib.hid (HBX.out.trans (hb2.mono HBX.out.size))
      have hkb : ∀ g, g < wr.heap.size → w2.heap[g]? = wr.heap[g]? := fun g hg => (hb2.block g (by simp; omega)).trans (Below.heap_alloc _ _ _ hg)
      have HKB := Lib.hid hkb
      have hnb' : wr.heap.size < nb := by simp at hnb; omega
      obtain ⟨d1, f1⟩ := cell_ofN ((hkb _ hlt1).trans HLB.out) hlt
      obtain ⟨wq, hwq⟩ : ∃ wq, w2.setCell ⟨w.heap.size + 1, i, none⟩ (.slice (some ⟨nb, 0, none⟩) c c) = wq := ⟨_, rfl⟩
      have HBQ := Lib.hid (show Below w.heap.size w wq by rw [← hwq]; exact HB2.out.setCell (by show w.heap.size ≤ w.heap.size + 1; omega) _)
      have HNB := Lib.hid (show wq.heap[nb]? = some (.cells (ofN c fun t => .int .i64 (cF X i 0 t)) 3 (0, 0)) by
        rw [← hwq, heap_setCell_other _ _ _ _ (by show nb ≠ w.heap.size + 1; omega), hh, ones_ofN c (cF X i 0) fun t _ => if_neg (by omega)])
      have HRQ := Lib.hid (show ∀ q, q < i → w.heap.size + 1 < R q ∧ R q < nb ∧ wq.heap[R q]? = some (.cells (ofN c fun t => .int .i64 (cF X q X.length t)) 3 (0, 0)) from fun q hq => by
        obtain ⟨h1, h2⟩ := HR.out q hq
        have := lt_of_block h2
        exact ⟨h1, by omega, by rw [← hwq, heap_setCell_other _ _ _ _ (by show R q ≠ w.heap.size + 1; omega), hkb _ this]; exact h2⟩)
      have HLQ := Lib.hid (show wq.heap[w.heap.size + 1]? = some (.cells (ofN k fun q => if q < i + 1 then .slice (some ⟨if q = i then nb else R q, 0, none⟩) c c else .slice none 0 0) 34 (0, 0)) by
        rw [← hwq, set_ofN ((hkb _ hlt1).trans HLB.out) hlt]
        rw [ofN_congr fun q _ => ?_]
        by_cases e : q = i
        · rw [if_pos e, if_pos (by omega), if_pos e]
        · rw [if_neg e, if_neg e]
          by_cases e2 : q < i
          · rw [if_pos e2, if_pos (by omega)]
          · rw [if_neg e2, if_neg (by omega)])
      have HWQ := Lib.hid hwq
      clear hwq hkb hh hb2 hnb
      go_wp2
      rw [HWQ.out]
      go_loopw [9, 10, 27] (fun _ _ y wr => ∃ n : Nat, n ≤ X.length ∧ y = .int .i64 n ∧ Below w.heap.size w wr ∧ nb < wr.heap.size ∧ wr.heap[nb]? = some (.cells (ofN c fun t => .int .i64 (cF X i n t)) 3 (0, 0)) ∧
        (∀ q, q < i → w.heap.size + 1 < R q ∧ R q < nb ∧ wr.heap[R q]? = some (.cells (ofN c fun t => .int .i64 (cF X q X.length t)) 3 (0, 0))) ∧
        wr.heap[w.heap.size + 1]? = some (.cells (ofN k fun q => if q < i + 1 then .slice (some ⟨if q = i then nb else R q, 0, none⟩) c c else .slice none 0 0) 34 (0, 0))) (fun _ _ y _ => X.length - (intOf y).toNat)
      case atStart => exact ⟨0, by omega, rfl, HBQ.out, lt_of_block HNB.out, HNB.out, HRQ.out, HLQ.out⟩
      case round =>
        obtain ⟨n, hn, rfl, hb, hsz2, hnbh, hRq, hlq⟩ := hrel
        have HB3 := Lib.hid hb
        have HN3 := Lib.hid hnbh
        have HR3 := Lib.hid hRq
        have HL3 := Lib.hid hlq
        clear hb hnbh hRq hlq HNB HRQ HLQ HBQ d1 f1
        by_cases hln : n < X.length
        · have hat := HX.out.below HB3.out (Nat.le_refl _)
          obtain ⟨rfl, hbw⟩ := hat.ptr (by omega)
          have HRG := Lib.hid (hat.rng n hln)
          have HCF := Lib.hid (show ∀ t, cF X i (n + 1) t = if t = n then nth (row X n) i else cF X i n t from fun t => by
            unfold cF
            by_cases e : t = n
            · rw [if_pos e, if_pos (by omega), e]
            · rw [if_neg e]
              by_cases e2 : t < n
              · rw [if_pos e2, if_pos (by omega)]
              · rw [if_neg e2, if_neg (by omega)])
          obtain ⟨x, hx⟩ : ∃ x, row X n = x := ⟨_, rfl⟩
          rw [hx] at HRG HCF
          clear hat hx
          obtain ⟨ws, rfl⟩ : ∃ ws : World, ws = wr := ⟨_, rfl⟩
          obtain ⟨wz, hwz⟩ : ∃ wz, (ws.alloc (.cells #[.int .i64 0, .int .i64 0, .int .i64 0, .int .i64 0, .int .i64 0, .int .i64 0] 84)).setRow ws.heap.size (colC (nth x)) = wz := ⟨_, rfl⟩
          have HQ := Lib.hid (show Below ws.heap.size ws wz by rw [← hwz]; exact below_setRow ((Below.refl _ ws).alloc (Nat.le_refl _) _) (Nat.le_refl _) _)
          have H10 := Lib.hid (show wz.heap[ws.heap.size]? = some (.cells (colC (nth x)) 84 (0, 0)) by rw [← hwz]; exact setRow_heap _ ws.heap.size _ _ _ _ (heap_alloc_new ws _))
          have HWZ := Lib.hid hwz
          have hcn : n < c := by omega
          have HNZ := Lib.hid ((HQ.out.block _ hsz2).trans HN3.out)
          have HLZ := Lib.hid ((HQ.out.block _ (lt_of_block HL3.out)).trans HL3.out)
          obtain ⟨p1, -⟩ := cell_ofN HLZ.out hlt
          rw [if_pos (by omega), if_pos rfl] at p1
          obtain ⟨p2, f2⟩ := cell_ofN HNZ.out hcn
          obtain ⟨p3, -⟩ := colC_cell H10.out (show i < 6 by omega)
          have hi6 : (i : Int) < 6 := by omega
          have hnc : (n : Int) < (c : Int) := by omega
          clear hwz
          go_wp2_with (first
            | (refine wpList_load_mid rfl 84 (.tmp 30) rfl b (o + n * 6) rfl _ _ HRG.out Try.underlying84 rfl (info_col _) ?_; rw [colL_arr])
            | (refine wpList_store_row rfl 84 (.tmp 10) (.tmp 31) rfl ws.heap.size _ rfl rfl 84 _ (heap_alloc_new _ _) (info_colC _) (by rw [colC_size]; rfl) (colC_all _) ?_; rw [HWZ.out])
            | (fail))
          go_still_tail 9, (by kernel_rfl)
          change wpList _ _ _ _ _ wz.drew
          obtain ⟨wd, hwd⟩ : ∃ wd, wz.drew = wd := ⟨_, rfl⟩
          have HWD := Lib.hid (show Below wz.heap.size wz wd by rw [← hwd]; exact below_dr (Below.refl _ _))
          rw [hwd]
          have p2' := (HWD.out.cell (p := ⟨nb, n, none⟩) (lt_of_block HNZ.out)).trans p2
          have f2' := frozen_of_row (j := n) _ _ _ _ ((HWD.out.block _ (lt_of_block HNZ.out)).trans HNZ.out)
          clear hwd
          obtain ⟨wy, hwy⟩ : ∃ wy, wd.setCell ⟨nb, n, none⟩ (.int .i64 (nth x i)) = wy := ⟨_, rfl⟩
          have hbl : ∀ g, g < ws.heap.size → g ≠ nb → wy.heap[g]? = ws.heap[g]? := fun g hg hne => by
            rw [← hwy, heap_setCell_other _ _ _ _ hne, HWD.out.block _ (Nat.lt_of_lt_of_le hg HQ.out.size), HQ.out.block _ hg]
          have HBL := Lib.hid hbl
          have HNY := Lib.hid (show wy.heap[nb]? = some (.cells (ofN c fun t => .int .i64 (cF X i (n + 1) t)) 3 (0, 0)) by
            rw [← hwy, set_ofN ((HWD.out.block _ (lt_of_block HNZ.out)).trans HNZ.out) hcn]
            rw [ofN_congr fun t _ => ?_]
            rw [HCF.out t]
            by_cases e : t = n
            · rw [if_pos e, if_pos e]
            · rw [if_neg e, if_neg e])
          have HBY := Lib.hid (show Below w.heap.size w wy by
            rw [← hwy]
            exact ((HB3.out.trans (HQ.out.mono HB3.out.size)).trans (HWD.out.mono (Nat.le_trans HB3.out.size HQ.out.size))).setCell (by show w.heap.size ≤ nb; omega) _)
          have HWY := Lib.hid hwy
          clear hwy hbl p1 p2 p3 f2
          go_wp2
          rw [HWY.out]
          go_roundw
          case rel => exact ⟨n + 1, by omega, by go_num, HBY.out, lt_of_block HNY.out, HNY.out, fun q hq => ⟨(HR3.out q hq).1, (HR3.out q hq).2.1, (HBL.out _ (Nat.lt_trans (HR3.out q hq).2.1 hsz2) (by have := (HR3.out q hq).2.1; omega)).trans (HR3.out q hq).2.2⟩, (HBL.out _ (lt_of_block HL3.out) (by omega)).trans HL3.out⟩
          case measure => simp [intOf]; omega
        · have hnl : n = X.length := by omega
          subst hnl
          go_wp2
          go_roundw
          case rel => exact ⟨i + 1, fun q => if q = i then nb else R q, by omega, by go_num, HB3.out, by have := lt_of_block HL3.out; omega, HL3.out, fun q hq => by
            by_cases e : q = i
            · subst e; simp only [if_pos]; exact ⟨by omega, HN3.out⟩
            · simp only [if_neg e]; exact ⟨(HR3.out q (by omega)).1, (HR3.out q (by omega)).2.2⟩⟩
          case measure => simp [intOf]; omega
    · have hik : i = k := by omega
      subst hik
      go_wp2
      go_ret
      refine ⟨_, rfl, ⟨(List.range i).map fun q => .slice (some ⟨R q, 0, none⟩) c c, ?_, fun j hj => ?_, fun u hu => ?_⟩, HB.out⟩
      · rw [cutsL_len]
        refine ⟨by simp, .inr ⟨w.heap.size + 1, i, _, rfl, by omega, HLB.out, Nat.le_refl _, by unfold maxLen; omega, by rw [ofN_size, Nat.mul_one], ?_⟩⟩
        rw [ofN_congr (g := fun q => .slice (some ⟨R q, 0, none⟩) c c) fun q hq => if_pos hq]
        simp only [ofN, Nat.mul_one]
        rw [List.take_of_length_le (by simp)]
      · rw [cutsL_len] at hj
        obtain ⟨h1, h2⟩ := HR.out j hj
        refine ⟨.slice (some ⟨R j, 0, none⟩) c c, by simp [hj], ?_⟩
        rw [cutsL_row _ _ _ hj]
        refine ⟨⟨by rw [List.length_map, Nat.mul_one], .inr ⟨R j, c, _, by rw [cutRow_len], by omega, h2, by rw [cutRow_len]; exact Nat.le_refl _, by unfold maxLen; omega, by rw [ofN_size, Nat.mul_one], ?_⟩⟩, fun t => ?_, by rw [cutRow_len]; omega⟩
        · rw [cutRow_len]
          simp only [ofN, Nat.mul_one, cutRow, List.map_map]
          rw [List.take_of_length_le (by simp)]
          rfl
        · by_cases e : t < c
          · rw [cutRow_nth _ _ _ e]
            unfold cF
            by_cases e2 : t < X.length
            · rw [if_pos e2]; have := HX4.out t e2 j (by omega); omega
            · rw [if_neg e2]; omega
          · rw [nth_out (by rw [cutRow_len]; omega)]; omega
      · obtain ⟨q, -, rfl⟩ := List.mem_map.1 hu
        rfl

end Go.Proofs.Ytjibdolhipddbaa
