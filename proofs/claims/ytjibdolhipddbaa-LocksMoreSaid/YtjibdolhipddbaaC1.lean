/- A list that repeats one number. -/
import Derived.Test.YtjibdolhipddbaaB8
import Derived.Deep.RegionLaw
import Derived.SizedLaws
namespace Go.Proofs.Ytjibdolhipddbaa
open Go.RowKit

/-- Numbers of which one is stored. -/
theorem NewInts.stored {B g cap n : Nat} {w : World} {xs : List Int} (h : NewInts B w (.slice (some ⟨g, 0, none⟩) n cap) xs) (hn : n = xs.length) (j : Nat) (x : Int) (hx : -9223372036854775808 ≤ x ∧ x ≤ 9223372036854775807) (hj : j < xs.length) :
    NewInts B (w.setCell ⟨g, j, none⟩ (.int .i64 x)) (.slice (some ⟨g, 0, none⟩) n cap) (xs.set j x) := by
  subst hn
  refine ⟨?_, fun i => ?_, by rw [List.length_set]; exact h.len⟩
  · have := (h.own.stored j (.int .i64 x)).1
    rw [List.length_set, List.map_set]
    exact this
  · rw [nth_set _ _ _ _ hj]
    split
    · exact hx
    · exact h.wf i

theorem NewInts.frozen {B g cap n : Nat} {w : World} {xs : List Int} (h : NewInts B w (.slice (some ⟨g, 0, none⟩) n cap) xs) (hn : n = xs.length) (j : Nat) : w.frozen? ⟨g, j, none⟩ = false := by
  subst hn; exact h.own.frozenAt j

/-- New zeros. -/
theorem NewInts.zeros {B n : Nat} {w : World} {v : Value} (h : w.ownsRow B 3 1 v n (madeCells #[.int .i64 0] (n * 1)).toList) (hn : n ≤ 1000) : NewInts B w v (List.replicate n 0) := by
  rw [Nat.mul_one, toList_madeCells_one] at h
  refine ⟨?_, fun i => ?_, by simp; omega⟩
  · rw [List.length_replicate, List.map_replicate]; exact h
  · unfold nth
    rw [List.getD_eq_getElem?_getD, List.getElem?_replicate]
    split <;> simp

/-- The new zeros that make lays. -/
theorem make_zeros (wp : World) (N : Nat) (hN : N ≤ 1000) : ∃ w', (Instr.makeSlice 34 (.int .i64 (N : Int)) (.int .i64 (N : Int))).run Try.prog wp = .ok (.slice (some ⟨wp.heap.size, 0, none⟩) N N) w' ∧
    NewInts wp.heap.size w' (.slice (some ⟨wp.heap.size, 0, none⟩) N N) (List.replicate N 0) ∧ Below wp.heap.size wp w' := by
  obtain ⟨j0, hj0, jz0, jz1, jz2⟩ := info_parts Try.info3
  obtain ⟨w6, hrun, hown, hg⟩ := run_make_full (P := Try.prog) wp wp.heap.size 34 3 j0 (.int .i64 0) 1 Try.underlying34 hj0 jz0 jz1 .i64 .i64 N (by rw [jz2]; omega) (by unfold maxLen; omega) (Nat.le_refl _)
  have hc : (Value.int .i64 0).cells = #[.int .i64 0] := by simp [Value.cells]
  rw [hc] at hown
  exact ⟨w6, hrun, NewInts.zeros hown hN, (Below.refl _ _).grown hg (Nat.le_refl _) (fun r hr => by cases hr)⟩


theorem row_of_news {B g n : Nat} {w : World} {xs : List Int} (h : NewInts B w (.slice (some ⟨g, 0, none⟩) n n) xs) (hn : xs.length = n) : w.heap[g]? = some (.cells (xs.map (Value.int .i64)).toArray 3 (0, 0)) := by
  rcases h.own.2 with ⟨h1, -⟩ | ⟨g', cap, cur, h1, h2, h3, h4, h5, h6, h7⟩
  · cases h1
  · injection h1 with e1 e2 e3
    injection e1 with e1
    injection e1 with e1
    subst e1
    have : cur = (xs.map (Value.int .i64)).toArray := by
      rw [← h7, List.take_of_length_le (by simp [h6]; omega)]
    rw [h3, this]

set_option maxHeartbeats 4000000 in
set_option maxRecDepth 100000 in
theorem mul64_any (c : Nat) (hc : 1 ≤ c ∧ c ≤ 4) (w : World) :
    Calls Try.prog 63 #[.int .u64 1, .int .u64 c] w fun e w' => e = .returned (.tuple #[.int .u64 0, .int .u64 c]) ∧ w' = w := by
  obtain rfl | rfl | rfl | rfl : c = 1 ∨ c = 2 ∨ c = 3 ∨ c = 4 := by omega
  all_goals
    go_enter Try.func63, Try.ntmps63
    go_wp2
    go_ret2
    exact ⟨rfl, rfl⟩
set_option maxHeartbeats 4000000 in
set_option maxRecDepth 100000 in
theorem mul_any (c : Nat) (hc : 1 ≤ c ∧ c ≤ 4) (w : World) :
    Calls Try.prog 60 #[.int .u64 1, .int .u64 c] w fun e w' => e = .returned (.tuple #[.int .u64 0, .int .u64 c]) ∧ w' = w := by
  have HM := Lib.hid (mul64_any c hc w)
  go_enter Try.func60, Try.ntmps60
  go_wp2_with fail
  refine HM.out.mono ?_
  rintro e w' ⟨rfl, rfl⟩
  go_wp2
  go_ret2
  exact ⟨rfl, rfl⟩

/-- n ones, then zeros, c numbers in all. -/
def ones (c n : Nat) : List Value := List.replicate n (.int .i64 1) ++ List.replicate (c - n) (.int .i64 0)
theorem ones_len {c n : Nat} (h : n ≤ c) : (ones c n).length = c := by simp [ones]; omega
theorem ones_get {c n j : Nat} (h : j < n) : (ones c n)[j]? = some (.int .i64 1) := by
  rw [ones, List.getElem?_append_left (by simpa using h), List.getElem?_replicate, if_pos h]
theorem ones_splice {c n m : Nat} (h : n + m ≤ c) : splice (ones c n) n (List.replicate m (.int .i64 1)) = ones c (n + m) := by
  unfold splice ones
  rw [List.take_append_of_le_length (by simp), List.take_of_length_le (by simp), List.drop_append, List.drop_of_length_le (by simp), List.length_replicate, List.length_replicate, List.nil_append, List.drop_replicate, ← List.append_assoc, List.replicate_append_replicate]
  rw [show c - n - (n + m - n) = c - (n + m) by omega]

set_option maxHeartbeats 4000000 in
set_option maxRecDepth 100000 in
theorem repeat_any (c : Nat) (hc : 1 ≤ c ∧ c ≤ 4) (xb : Nat) (w : World) (hx : w.cell? ⟨xb, 0, none⟩ = some (.int .i64 1)) (hxb : xb < w.heap.size) :
    Calls Try.prog 53 #[.slice (some ⟨xb, 0, none⟩) 1 1, .int .i64 c] w fun e w' => ∃ nb, e = .returned (.slice (some ⟨nb, 0, none⟩) c c) ∧ w.heap.size ≤ nb ∧ w'.heap[nb]? = some (.cells (ones c c).toArray 3 (0, 0)) ∧ Below w.heap.size w w' := by
  have HM := Lib.hid (fun w => mul_any c hc w)
  obtain ⟨w1, hrun, hnew, hb1⟩ := make_zeros w c (by omega)
  have h1 := row_of_news hnew (by simp)
  have HB1 := Lib.hid hb1
  have H1 := Lib.hid (show w1.heap[w.heap.size]? = some (.cells (ones c 0).toArray 3 (0, 0)) by rw [h1]; simp [ones])
  have HX := Lib.hid ((hb1.cell (p := ⟨xb, 0, none⟩) hxb).trans hx)
  have hc1 := hc.1
  have hc4 := hc.2
  have t1 : decide ((c : Int) < 0) = false := decide_eq_false (by omega)
  have t2 : decide (9223372036854775807 < (c : Int)) = false := decide_eq_false (by omega)
  have hw1 : IntKind.u64.wrap (c : Int) = (c : Int) := by rw [IntKind.wrap_u64]; omega
  have hw2 : IntKind.i64.wrap (c : Int) = (c : Int) := IntWalk.i64_in _ (by omega)
  clear hnew hb1 h1 hx hc
  go_enter Try.func53, Try.ntmps53
  go_wp2_with fail
  refine (HM.out _).mono ?_
  rintro e w' ⟨rfl, rfl⟩
  go_wp2_with (refine wpList_copy_splice rfl (.tmp 31) (.tmp 32) 34 34 rfl 3 Try.underlying34 (by kernel_rfl) (some ⟨w'.heap.size, 0, none⟩) (some ⟨xb, 0, none⟩) c c 1 1 rfl rfl w'.heap.size 0 (ones c 0) 3 H1.out [.int .i64 1] ?c1 ?c2 ?c3 ?c4 w'.heap.size w' HB1.out (Nat.le_refl _) ?_)
  case c1 => exact (Nat.min_eq_left hc1).symm
  case c2 =>
    intro j v hv
    have hj : j < 1 := (List.getElem?_eq_some_iff.1 hv).1
    obtain rfl : j = 0 := by omega
    injection hv with hv
    rw [← hv]
    exact HX.out
  case c3 => rw [ones_len (by omega)]; simp; omega
  case c4 => intro v hv; rw [List.mem_singleton.1 hv]; rfl
  intro w2 hw2' hb2
  have HB2 := Lib.hid hb2
  have H2 := Lib.hid (show w2.heap[w'.heap.size]? = some (.cells (ones c 1).toArray 3 (0, 0)) from by
    have e : splice (ones c 0) 0 [Value.int .i64 1] = ones c 1 := by
      have := ones_splice (c := c) (n := 0) (m := 1) (by omega)
      simpa using this
    rw [← e]
    exact hw2'.out)
  clear hw2' hb2 HB1 H1 hrun
  go_wp2
  go_loopw [8] (fun x wr => ∃ n : Nat, 1 ≤ n ∧ n ≤ c ∧ x = .int .i64 n ∧ wr.heap[w'.heap.size]? = some (.cells (ones c n).toArray 3 (0, 0)) ∧ Below w'.heap.size w' wr) (fun x _ => c - (intOf x).toNat)
  case atStart => exact ⟨1, by omega, hc1, rfl, H2.out, HB2.out⟩
  case round =>
    obtain ⟨n, hn1, hn, rfl, hh, hb⟩ := hrel
    have HN := Lib.hid hh
    have HB := Lib.hid hb
    clear hh hb H2 HB2
    by_cases hlt : n < c
    · obtain ⟨m, hm⟩ : ∃ m, Nat.min n (c - n) = m := ⟨_, rfl⟩
      have hm1 : n + m ≤ c ∧ 1 ≤ m := by
        have h1 : m ≤ c - n := by rw [← hm]; exact Nat.min_le_right _ _
        have h2 : 1 ≤ m := by rw [← hm]; exact Nat.le_min.2 ⟨hn1, by omega⟩
        omega
      have HM1 := Lib.hid hm1
      have HMM := Lib.hid hm
      have b1 : (n : Int) ≤ (c : Int) := by omega
      clear hm hm1
      obtain ⟨ws, rfl⟩ : ∃ ws : World, ws = wr := ⟨_, rfl⟩
      have HC1 := Lib.hid (show (List.replicate m (Value.int .i64 1)).length = Nat.min n (c - n) by rw [List.length_replicate]; exact HMM.out.symm)
      have HNB := Lib.hid (show ∀ W, Below ws.heap.size ws W → W.heap[w'.heap.size]? = some (.cells (ones c n).toArray 3 (0, 0)) from fun W hW => (hW.block _ (lt_of_block HN.out)).trans HN.out)
      have HC2 := Lib.hid (show ∀ W, Below ws.heap.size ws W → ∀ j v, (List.replicate m (Value.int .i64 1))[j]? = some v → W.cell? ⟨w'.heap.size, j, none⟩ = some v from fun W hW j v hv => by
        have hj : j < m := by have := (List.getElem?_eq_some_iff.1 hv).1; rwa [List.length_replicate] at this
        have hmn : m ≤ n := by rw [← HMM.out]; exact Nat.min_le_left _ _
        rw [List.getElem?_replicate, if_pos hj] at hv
        rw [← hv, cell_of_row _ _ _ _ _ _ (HNB.out W hW)]
        have := ones_get (c := c) (show j < n by omega)
        simpa using this)
      have HC3 := Lib.hid (show n + (List.replicate m (Value.int .i64 1)).length ≤ (ones c n).length by rw [ones_len hn, List.length_replicate]; exact HM1.out.1)
      have HC4 := Lib.hid (show ∀ v ∈ List.replicate m (Value.int .i64 1), v.oneCell' = true from fun v hv => by rw [(List.mem_replicate.1 hv).2]; rfl)
      have HC5 := Lib.hid (fun W (hW : Below ws.heap.size ws W) => HB.out.trans (hW.mono HB.out.size))
      have HSP := Lib.hid (show splice (ones c n) n (List.replicate m (Value.int .i64 1)) = ones c (n + m) from ones_splice HM1.out.1)
      have HLR := Lib.hid (show ((List.replicate m (Value.int .i64 1)).length : Int) = (m : Int) by rw [List.length_replicate])
      have hne : ¬ c = n := by omega
      have HWN := Lib.hid (show Value.int .i64 (IntKind.i64.wrap ((n : Int) + (m : Int))) = .int .i64 ((n + m : Nat) : Int) by
        have := HM1.out.1
        rw [IntWalk.i64_in _ (by omega)]; simp)
      go_wp2_with fail
      go_region_held3 (fun _ => True) (trivial)
        (
          (refine step_copy_splice rfl (.tmp 41) (.tmp 44) 34 34 rfl 3 Try.underlying34 (by kernel_rfl) (some ⟨w'.heap.size, n, none⟩) (some ⟨w'.heap.size, 0, none⟩) (c - n) (c - n) n c rfl rfl w'.heap.size n (ones c n) 3 ?_ (List.replicate m (.int .i64 1)) HC1.out (fun _ => ⟨rfl, _, rfl, fun j v hv => by rw [Addr.add_mid, Nat.zero_add]; exact HC2.out _ (by repeat (first | exact Below.refl _ _ | apply below_dr)) j v hv⟩) HC3.out HC4.out w'.heap.size w' ?_ (Nat.le_refl _) ?_; (focus (refine HNB.out _ ?_; repeat (first | exact Below.refl _ _ | apply below_dr))); (focus (refine HC5.out _ ?_; repeat (first | exact Below.refl _ _ | apply below_dr))); intro w4 hg4 hb4; rw [HSP.out] at hg4; have HG4 := Lib.hid hg4.out; have HB4 := Lib.hid hb4; clear hg4 hb4; simp only [goInt, HLR.out])
)
      rw [HWN.out]
      have hm9 := HM1.out
      go_wp2
      go_roundw
      case rel => exact ⟨n + m, by omega, hm9.1, rfl, HG4.out, HB4.out⟩
      case measure => simp [intOf]; omega
    · have hnc : n = c := by omega
      subst hnc
      go_wp2
      go_ret
      exact ⟨_, rfl, Nat.le_refl _, HN.out, HB.out⟩

end Go.Proofs.Ytjibdolhipddbaa
