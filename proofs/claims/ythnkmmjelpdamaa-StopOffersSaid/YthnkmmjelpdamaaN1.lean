/- StopOffers: the walk. -/
import Derived.Test.YthnkmmjelpdamaaE4
import Derived.Test.YthnkmmjelpdamaaJ1
import Derived.Test.YthnkmmjelpdamaaJ4
import Derived.Test.YthnkmmjelpdamaaL1
import Derived.Test.YthnkmmjelpdamaaL2
import Derived.Test.YthnkmmjelpdamaaM2
namespace Go.Proofs.Ythnkmmjelpdamaa
open Go.RowKit

theorem keepB {W W' : World} {p : Nat} {o : Obj} (h : W.heap[p]? = some o) (hb : Below W.heap.size W W') : W'.heap[p]? = some o := (hb.block p (lt_of_blk h)).trans h
theorem NewOffs.caps {B : Nat} {w : World} {ao : Option Addr} {n cap : Nat} {xss : List (List (Int × Int))} (h : NewOffs B w (.slice ao n cap) xss) : xss.length ≤ cap := by
  obtain ⟨vs, h1, -, -⟩ := h.ex
  rcases h1.2 with ⟨e, h0⟩ | ⟨g, cap', cur, e, _, _, hcap, _⟩
  · omega
  · simp only [Value.slice.injEq] at e; omega

set_option maxHeartbeats 8000000 in
set_option maxRecDepth 100000 in
theorem stopOffers_any (L : List (List (Int × Int))) (least : Int) (ao : Option Addr) (b o cap : Nat) (A : Nat → Option Addr) (B O C : Nat → Nat) (w : World) (h : OffsAt w ao b o L A B O C) (hc : CapsO L A C) :
    Calls Try.prog 7 #[.slice ao L.length cap, .int .i64 least] w fun e w' => e = .returned (.bool true) ∧ Below w.heap.size w w' := by
  have HOF := Lib.hid (offers_any L ao b o cap A B O C w h hc)
  clear h hc
  go_enter Try.func7, Try.ntmps7
  go_wp2_with fail
  refine HOF.out.mono ?_
  rintro e w1 ⟨⟨v, rfl, hno⟩, hb⟩
  obtain ⟨M, hM⟩ : ∃ M, trimO L = M := ⟨_, rfl⟩
  rw [hM] at hno
  obtain ⟨xo, xb, xc, A', B', O', C', rfl, hat⟩ := hno.at (by rw [← hM]; unfold trimO; simp; omega)
  have hxc := hno.caps
  have HB1 := Lib.hid hb
  have HAT := Lib.hid hat
  clear hno hat hM hb HOF
  obtain ⟨ok, hok⟩ : ∃ ok, okOffs M = ok := ⟨_, rfl⟩
  have HOK := Lib.hid hok
  -- what both sides answer
  obtain ⟨A1, A2, B1, B2, C1, C2, E1, E2, hpro, hthr, href, hans⟩ : ∃ A1 A2 B1 B2 C1 C2 E1 E2 : Int,
      (∀ W, OffsAt W xo xb 0 M A' B' O' C' → Calls Try.prog 34 #[.slice xo M.length xc] W fun e w' => e = .returned (.tuple #[.agg #[.int .i64 A1, .int .i64 A2], .agg #[.int .i64 B1, .int .i64 B2], .int .i64 E1]) ∧ Below W.heap.size W w') ∧
      (∀ W, OffsAt W xo xb 0 M A' B' O' C' → Calls Try.prog 35 #[.slice xo M.length xc, .int .i64 least] W fun e w' => e = .returned (.tuple #[.agg #[.int .i64 C1, .int .i64 C2], .int .i64 E2]) ∧ Below W.heap.size W w') ∧
      (ok = false → A1 = 0 ∧ A2 = 0 ∧ B1 = 0 ∧ B2 = 0 ∧ C1 = 0 ∧ C2 = 0 ∧ E1 = 2 ∧ E2 = 2) ∧
      (ok = true → (E1 = 0 ∧ E2 = 0) ∧ (∀ W, OffsAt W xo xb 0 M A' B' O' C' → Calls Try.prog 37 #[.slice xo M.length xc] W fun e w' => e = .returned (.agg #[.int .i64 A1, .int .i64 A2]) ∧ Below W.heap.size W w') ∧
        (∀ W, OffsAt W xo xb 0 M A' B' O' C' → Calls Try.prog 38 #[.slice xo M.length xc] W fun e w' => e = .returned (.agg #[.int .i64 B1, .int .i64 B2]) ∧ Below W.heap.size W w') ∧
        (∀ W, OffsAt W xo xb 0 M A' B' O' C' → Calls Try.prog 39 #[.slice xo M.length xc, .int .i64 least] W fun e w' => e = .returned (.agg #[.int .i64 C1, .int .i64 C2]) ∧ Below W.heap.size W w')) := by
    cases ok
    · exact ⟨0, 0, 0, 0, 0, 0, 2, 2, fun W hW => prophet_no M xo xb 0 xc A' B' O' C' W hW hok, fun W hW => threshold_no M xo xb 0 xc A' B' O' C' least W hW hok, fun _ => ⟨rfl, rfl, rfl, rfl, rfl, rfl, rfl, rfl⟩, fun q => by cases q⟩
    · exact ⟨_, _, _, _, _, _, 0, 0, fun W hW => prophet_yes M xo xb 0 xc A' B' O' C' W hW hxc hok, fun W hW => threshold_yes M xo xb 0 xc A' B' O' C' least W hW hok, (fun q => by cases q),
        fun _ => ⟨⟨rfl, rfl⟩, fun W hW => refGreatest_any M xo xb 0 xc A' B' O' C' W hW hok, fun W hW => refWise_any M xo xb 0 xc A' B' O' C' W hW hok, fun W hW => refThreshold_any M xo xb 0 xc A' B' O' C' least W hW hok⟩⟩
  have HPY := Lib.hid (hpro w1 HAT.out)
  have HTY := Lib.hid hthr
  have HNO := Lib.hid href
  have HYES := Lib.hid hans
  clear hpro hthr href hans hok
  go_wp2_with fail
  refine HPY.out.mono ?_
  rintro e w2 ⟨rfl, hb⟩
  have hb12 := hb
  have HB2 := Lib.hid (HB1.out.trans (hb.mono HB1.out.size))
  clear hb
  go_wp2_with fail
  obtain ⟨w3, hw3⟩ : ∃ w3, (w2.alloc (.cells #[.int .i64 A1, .int .i64 A2] 47)).alloc (.cells #[.int .i64 B1, .int .i64 B2] 47) = w3 := ⟨_, rfl⟩
  have hA3 : w3.heap[w2.heap.size]? = some (.cells #[.int .i64 A1, .int .i64 A2] 47 (0, 0)) := by rw [← hw3, Below.heap_alloc _ _ _ (by simp)]; exact heap_alloc_new _ _
  have hB3 : w3.heap[w2.heap.size + 1]? = some (.cells #[.int .i64 B1, .int .i64 B2] 47 (0, 0)) := by
    rw [← hw3]
    have := heap_alloc_new (w2.alloc (.cells #[.int .i64 A1, .int .i64 A2] 47)) (.cells #[.int .i64 B1, .int .i64 B2] 47)
    simpa using this
  have hb23 : Below w2.heap.size w2 w3 := by rw [← hw3]; exact ((Below.refl _ w2).alloc (Nat.le_refl _) _).alloc (by simp) _
  have HB3 := Lib.hid (HB2.out.trans (hb23.mono HB2.out.size))
  have HX3 := Lib.hid (HAT.out.below (hb12.trans (hb23.mono hb12.size)) (Nat.le_refl _))
  have HA3 := Lib.hid hA3
  have HY3 := Lib.hid hB3
  rw [hw3]
  clear hw3 hA3 hB3 hb23 hb12
  refine (HTY.out w3 HX3.out).mono ?_
  rintro e w4 ⟨rfl, hb⟩
  have HX4 := Lib.hid (HX3.out.below hb (Nat.le_refl _))
  have HA4 := Lib.hid (keepB HA3.out hb)
  have HY4 := Lib.hid (keepB HY3.out hb)
  have HB4 := Lib.hid (HB3.out.trans (hb.mono HB3.out.size))
  clear hb
  obtain ⟨w5, hw5⟩ : ∃ w5, w4.alloc (.cells #[.int .i64 C1, .int .i64 C2] 47) = w5 := ⟨_, rfl⟩
  have hb : Below w4.heap.size w4 w5 := by rw [← hw5]; exact (Below.refl _ _).alloc (Nat.le_refl _) _
  have HC5 : Hid (w5.heap[w4.heap.size]? = some (.cells #[.int .i64 C1, .int .i64 C2] 47 (0, 0))) := by rw [← hw5]; exact heap_alloc_new _ _
  have HX5 := Lib.hid (HX4.out.below hb (Nat.le_refl _))
  have HA5 := Lib.hid (keepB HA4.out hb)
  have HY5 := Lib.hid (keepB HY4.out hb)
  have HB5 := Lib.hid (HB4.out.trans (hb.mono HB4.out.size))
  have HW5 := Lib.hid hw5
  have hrf := refOffers_any M xo xb 0 xc A' B' O' C' w5 HX5.out
  rw [HOK.out] at hrf
  have HRF := Lib.hid hrf
  clear hb hw5 hrf
  go_wp2_with fail
  rw [HW5.out]
  refine HRF.out.mono ?_
  rintro e w5' ⟨rfl, rfl⟩
  obtain ⟨x0, x1, -, -⟩ := block_of_cells HA5.out
  obtain ⟨y0, y1, -, -⟩ := block_of_cells HY5.out
  obtain ⟨c0, c1, -, -⟩ := block_of_cells HC5.out
  cases ok
  · obtain ⟨rfl, rfl, rfl, rfl, rfl, rfl, rfl, rfl⟩ := HNO.out rfl
    go_wp2_with fail
    refine (awake_any _).mono ?_
    rintro e w6 ⟨rfl, hb⟩
    have HB6 := Lib.hid (HB5.out.trans (hb.mono HB5.out.size))
    clear hb x0 x1 y0 y1 c0 c1
    go_wp2
    go_ret
    exact ⟨rfl, HB6.out⟩
  · obtain ⟨⟨rfl, rfl⟩, hgr, hwi, hth⟩ := HYES.out rfl
    have HGR := Lib.hid (fun W (hW : Below w5'.heap.size w5' W) => hgr W (HX5.out.below hW (Nat.le_refl _)))
    have HWI := Lib.hid (fun W (hW : Below w5'.heap.size w5' W) => hwi W (HX5.out.below hW (Nat.le_refl _)))
    have HTH := Lib.hid (fun W (hW : Below w5'.heap.size w5' W) => hth W (HX5.out.below hW (Nat.le_refl _)))
    have HAW := Lib.hid awake_any
    have HKE := Lib.hid (show ∀ W, Below w5'.heap.size w5' W → (W.cell? ⟨w2.heap.size, 0, none⟩ = some (.int .i64 A1) ∧ W.cell? ⟨w2.heap.size, 1, none⟩ = some (.int .i64 A2)) ∧ (W.cell? ⟨w2.heap.size + 1, 0, none⟩ = some (.int .i64 B1) ∧ W.cell? ⟨w2.heap.size + 1, 1, none⟩ = some (.int .i64 B2)) ∧ W.cell? ⟨w4.heap.size, 0, none⟩ = some (.int .i64 C1) ∧ W.cell? ⟨w4.heap.size, 1, none⟩ = some (.int .i64 C2) from fun W hW => by
      obtain ⟨p0, p1, -, -⟩ := block_of_cells (keepB HA5.out hW)
      obtain ⟨p2, p3, -, -⟩ := block_of_cells (keepB HY5.out hW)
      obtain ⟨p4, p5, -, -⟩ := block_of_cells (keepB HC5.out hW)
      exact ⟨⟨p0, p1⟩, ⟨p2, p3⟩, p4, p5⟩)
    have HBk := Lib.hid (Below.refl w5'.heap.size w5')
    clear hgr hwi hth HNO HYES HTY HPY HRF
    go_wp2_with fail
    go_region_held3 (fun w' => (w'.cell? ⟨w2.heap.size, 0, none⟩ = some (.int .i64 A1) ∧ w'.cell? ⟨w2.heap.size, 1, none⟩ = some (.int .i64 A2)) ∧ (w'.cell? ⟨w2.heap.size + 1, 0, none⟩ = some (.int .i64 B1) ∧ w'.cell? ⟨w2.heap.size + 1, 1, none⟩ = some (.int .i64 B2)) ∧ w'.cell? ⟨w4.heap.size, 0, none⟩ = some (.int .i64 C1) ∧ w'.cell? ⟨w4.heap.size, 1, none⟩ = some (.int .i64 C2))
      ((refine HKE.out _ ?_; (repeat (first | exact HBk.out | apply below_dr))))
      (first
        | (go_simp; go_at_call 37; refine Calls.mono (HGR.out _ ?_) ?_; (focus (repeat (first | exact HBk.out | apply below_dr))); rintro e w6 ⟨rfl, hbw⟩; have HBk := Lib.hid (HBk.out.trans (Below.mono ⟨hbw.os, hbw.tape, hbw.output, hbw.size, hbw.block⟩ HBk.out.size)); clear hbw)
        | (go_simp; go_at_call 38; refine Calls.mono (HWI.out _ ?_) ?_; (focus (repeat (first | exact HBk.out | apply below_dr))); rintro e w7 ⟨rfl, hbw⟩; have HBk := Lib.hid (HBk.out.trans (Below.mono ⟨hbw.os, hbw.tape, hbw.output, hbw.size, hbw.block⟩ HBk.out.size)); clear hbw)
        | (go_simp; go_at_call 39; refine Calls.mono (HTH.out _ ?_) ?_; (focus (repeat (first | exact HBk.out | apply below_dr))); rintro e w8 ⟨rfl, hbw⟩; have HBk := Lib.hid (HBk.out.trans (Below.mono ⟨hbw.os, hbw.tape, hbw.output, hbw.size, hbw.block⟩ HBk.out.size)); clear hbw)
        | (go_simp; go_at_call 19; refine Calls.mono (HAW.out _) ?_; rintro e w9 ⟨rfl, hbw⟩; have HBk := Lib.hid (HBk.out.trans (Below.mono ⟨hbw.os, hbw.tape, hbw.output, hbw.size, hbw.block⟩ HBk.out.size)); clear hbw)
        | (fail))
    all_goals (
      have HB9 := Lib.hid (HB5.out.trans (HBk.out.mono HB5.out.size))
      clear HBk HKE HGR HWI HTH HAW x0 x1 y0 y1 c0 c1
      go_wp2
      go_ret
      exact ⟨rfl, by first | exact HB9.out | exact below_dr HB9.out⟩)

end Go.Proofs.Ythnkmmjelpdamaa
