/- StopProphet: the walk. -/
import Derived.Test.YthnkmmjelpdamaaE4
import Derived.Test.YthnkmmjelpdamaaJ1
import Derived.Test.YthnkmmjelpdamaaJ4
import Derived.Test.YthnkmmjelpdamaaK3
namespace Go.Proofs.Ythnkmmjelpdamaa
open Go.RowKit

set_option maxHeartbeats 1000000 in
theorem modest_yes (P Q : Int) (w : World) (hP : 0 ≤ P ∧ P ≤ 17179869184) (hQ : 1 ≤ Q ∧ Q ≤ 16777216) :
    Calls Try.prog 47 #[.agg #[.int .i64 P, .int .i64 Q]] w fun e w' => e = .returned (.bool true) ∧ Below w.heap.size w w' := by
  have t1 : decide ((1 : Int) ≤ Q) = true := decide_eq_true hQ.1
  have t2 : decide (Q ≤ (16777216 : Int)) = true := decide_eq_true hQ.2
  have t3 : decide ((0 : Int) ≤ P) = true := decide_eq_true hP.1
  have t4 : decide (P ≤ (17179869184 : Int)) = true := decide_eq_true hP.2
  clear hP hQ
  go_enter Try.func47, Try.ntmps47
  go_wp2
  go_ret
  exact ⟨rfl, (Below.refl _ _).alloc (Nat.le_refl _) _⟩

theorem mulb {x y : Int} (hx : 0 ≤ x ∧ x ≤ 17179869184) (hy : 0 ≤ y ∧ y ≤ 16777216) : 0 ≤ x * y ∧ x * y ≤ 288230376151711744 :=
  ⟨Int.mul_nonneg hx.1 hy.1, by have := Int.mul_le_mul hx.2 hy.2 hy.1 (by omega : (0 : Int) ≤ 17179869184); omega⟩
theorem keepF {W W' : World} {p : Nat} {o : Obj} (h : W.heap[p]? = some o) (hb : Below W.heap.size W W') : W'.heap[p]? = some o := (hb.block p (lt_of_blk h)).trans h
theorem NewOffs.cap {B : Nat} {w : World} {ao : Option Addr} {n cap : Nat} {xss : List (List (Int × Int))} (h : NewOffs B w (.slice ao n cap) xss) : xss.length ≤ cap := by
  obtain ⟨vs, h1, -, -⟩ := h.ex
  rcases h1.2 with ⟨e, h0⟩ | ⟨g, cap', cur, e, _, _, hcap, _⟩
  · omega
  · simp only [Value.slice.injEq] at e; omega

set_option maxHeartbeats 8000000 in
set_option maxRecDepth 100000 in
theorem prophets_any (L : List (List (Int × Int))) (least : Int) (ao : Option Addr) (b o cap : Nat) (A : Nat → Option Addr) (B O C : Nat → Nat) (w : World) (h : OffsAt w ao b o L A B O C) (hc : CapsO L A C) :
    Calls Try.prog 13 #[.slice ao L.length cap, .int .i64 least] w fun e w' => e = .returned (.bool true) ∧ Below w.heap.size w w' := by
  have HOF := Lib.hid (offers_any L ao b o cap A B O C w h hc)
  clear h hc
  go_enter Try.func13, Try.ntmps13
  go_wp2_with fail
  refine HOF.out.mono ?_
  rintro e w1 ⟨⟨v, rfl, hno⟩, hb⟩
  obtain ⟨M, hM⟩ : ∃ M, trimO L = M := ⟨_, rfl⟩
  rw [hM] at hno
  obtain ⟨xo, xb, xc, A', B', O', C', rfl, hat⟩ := hno.at (by rw [← hM]; unfold trimO; simp; omega)
  have hxc := hno.cap
  have HB1 := Lib.hid hb
  have HRF := Lib.hid (refOffers_any M xo xb 0 xc A' B' O' C' w1 hat)
  have HAT := Lib.hid hat
  clear hno hat hM hb HOF
  obtain ⟨ok, hok⟩ : ∃ ok, okOffs M = ok := ⟨_, rfl⟩
  rw [hok] at HRF
  have HOK := Lib.hid hok
  clear hok
  go_wp2_with fail
  refine HRF.out.mono ?_
  rintro e w1' ⟨rfl, rfl⟩
  cases ok
  · go_wp2_with fail
    refine (awake_any _).mono ?_
    rintro e w2 ⟨rfl, hb⟩
    have HB2 := Lib.hid (HB1.out.trans (hb.mono HB1.out.size))
    clear hb
    go_wp2
    go_ret
    exact ⟨rfl, HB2.out⟩
  obtain ⟨A1, A2, B1, B2, C1, C2, D1, D2, fA, fB, fC, fD, hpr⟩ := prophet_all HOK.out least
  have hpy := prophet_yes M xo xb 0 xc A' B' O' C' w1' HAT.out hxc HOK.out
  rw [fA, fB] at hpy
  have hty := fun W (hW : OffsAt W xo xb 0 M A' B' O' C') => threshold_yes M xo xb 0 xc A' B' O' C' least W hW HOK.out
  rw [fC] at hty
  have htd := fun W (hW : OffsAt W xo xb 0 M A' B' O' C') => threshold_yes M xo xb 0 xc A' B' O' C' ((A1 + 2 * A2 - 1) / (2 * A2)) W hW HOK.out
  rw [fD] at htd
  have HPY := Lib.hid hpy
  have HTY := Lib.hid hty
  have HTD := Lib.hid htd
  have HPR := Lib.hid hpr
  clear hpy hty htd hpr fA fB fC fD
  go_wp2_with fail
  refine HPY.out.mono ?_
  rintro e w2 ⟨rfl, hb⟩
  have hb12 := hb
  have HB2 := Lib.hid (HB1.out.trans (hb.mono HB1.out.size))
  clear hb
  go_wp2_with fail
  obtain ⟨w3, hw3⟩ : ∃ w3, (w2.alloc (.cells #[.int .i64 A1, .int .i64 A2] 47)).alloc (.cells #[.int .i64 B1, .int .i64 B2] 47) = w3 := ⟨_, rfl⟩
  have hA3 : w3.heap[w2.heap.size]? = some (.cells #[.int .i64 A1, .int .i64 A2] 47 (0, 0)) := by rw [← hw3, Below.heap_alloc _ _ _ (by simp)]; exact heap_alloc_new _ _
  have hB3 : w3.heap[w2.heap.size + 1]? = some (.cells #[.int .i64 B1, .int .i64 B2] 47 (0, 0)) := by
    rw [← hw3]
    have := heap_alloc_new (w2.alloc (.cells #[.int .i64 A1, .int .i64 A2] 47)) (.cells #[.int .i64 B1, .int .i64 B2] 47)
    simpa using this
  have hb23 : Below w2.heap.size w2 w3 := by rw [← hw3]; exact ((Below.refl _ w2).alloc (Nat.le_refl _) _).alloc (by simp) _
  have HB3 := Lib.hid (HB2.out.trans (hb23.mono HB2.out.size))
  have HX3 := Lib.hid (HAT.out.below (hb12.trans (hb23.mono hb12.size)) (Nat.le_refl _))
  have HA3 := Lib.hid hA3
  have HY3 := Lib.hid hB3
  rw [hw3]
  clear hw3 hA3 hB3 hb23 hb12
  refine (HTY.out w3 HX3.out).mono ?_
  rintro e w4 ⟨rfl, hb⟩
  have HX4 := Lib.hid (HX3.out.below hb (Nat.le_refl _))
  have HA4 := Lib.hid (keepF HA3.out hb)
  have HY4 := Lib.hid (keepF HY3.out hb)
  have HB4 := Lib.hid (HB3.out.trans (hb.mono HB3.out.size))
  clear hb
  obtain ⟨w5, hw5⟩ : ∃ w5, w4.alloc (.cells #[.int .i64 C1, .int .i64 C2] 47) = w5 := ⟨_, rfl⟩
  have hb : Below w4.heap.size w4 w5 := by rw [← hw5]; exact (Below.refl _ _).alloc (Nat.le_refl _) _
  have HC5 : Hid (w5.heap[w4.heap.size]? = some (.cells #[.int .i64 C1, .int .i64 C2] 47 (0, 0))) := by rw [← hw5]; exact heap_alloc_new _ _
  have HX5 := Lib.hid (HX4.out.below hb (Nat.le_refl _))
  have HA5 := Lib.hid (keepF HA4.out hb)
  have HY5 := Lib.hid (keepF HY4.out hb)
  have HB5 := Lib.hid (HB4.out.trans (hb.mono HB4.out.size))
  obtain ⟨x0, x1, -, -⟩ := block_of_cells HA4.out
  obtain ⟨y0, y1, -, -⟩ := block_of_cells HY4.out
  have hla := lt_of_blk HA4.out
  have hly := lt_of_blk HY4.out
  have HW5 := Lib.hid hw5
  clear hb hw5
  go_wp2_with fail
  rw [HW5.out]
  clear x0 x1 y0 y1 hla hly
  refine (modest_yes A1 A2 w5 HPR.out.a.1 HPR.out.a.2).mono ?_
  rintro e w6 ⟨rfl, hb⟩
  have HA6 := Lib.hid (keepF HA5.out hb)
  have HY6 := Lib.hid (keepF HY5.out hb)
  have HC6 := Lib.hid (keepF HC5.out hb)
  have HX6 := Lib.hid (HX5.out.below hb (Nat.le_refl _))
  have HB6 := Lib.hid (HB5.out.trans (hb.mono HB5.out.size))
  clear hb
  obtain ⟨x0, x1, -, -⟩ := block_of_cells HA6.out
  obtain ⟨y0, y1, -, -⟩ := block_of_cells HY6.out
  obtain ⟨c0, c1, -, -⟩ := block_of_cells HC6.out
  go_wp2_with fail
  refine (modest_yes B1 B2 w6 HPR.out.b.1 HPR.out.b.2).mono ?_
  rintro e w7 ⟨rfl, hb⟩
  clear x0 x1 y0 y1 c0 c1
  have HA7 := Lib.hid (keepF HA6.out hb)
  have HY7 := Lib.hid (keepF HY6.out hb)
  have HC7 := Lib.hid (keepF HC6.out hb)
  have HX7 := Lib.hid (HX6.out.below hb (Nat.le_refl _))
  have HB7 := Lib.hid (HB6.out.trans (hb.mono HB6.out.size))
  clear hb
  obtain ⟨x0, x1, -, -⟩ := block_of_cells HA7.out
  obtain ⟨y0, y1, -, -⟩ := block_of_cells HY7.out
  obtain ⟨c0, c1, -, -⟩ := block_of_cells HC7.out
  go_wp2_with fail
  refine (modest_yes C1 C2 w7 HPR.out.c.1 HPR.out.c.2).mono ?_
  rintro e w8 ⟨rfl, hb⟩
  clear x0 x1 y0 y1 c0 c1
  have HA8 := Lib.hid (keepF HA7.out hb)
  have HY8 := Lib.hid (keepF HY7.out hb)
  have HC8 := Lib.hid (keepF HC7.out hb)
  have HX8 := Lib.hid (HX7.out.below hb (Nat.le_refl _))
  have HB8 := Lib.hid (HB7.out.trans (hb.mono HB7.out.size))
  clear hb
  obtain ⟨x0, x1, -, -⟩ := block_of_cells HA8.out
  obtain ⟨y0, y1, -, -⟩ := block_of_cells HY8.out
  obtain ⟨c0, c1, -, -⟩ := block_of_cells HC8.out
  obtain ⟨⟨pa0, pa1⟩, pa2, pa3⟩ := HPR.out.a
  have k1 : wrap64 (2 * A2) = 2 * A2 := IntWalk.wrap64_in _ ⟨by omega, by omega⟩
  have k2 : wrap64 (A1 + 2 * A2) = A1 + 2 * A2 := IntWalk.wrap64_in _ ⟨by omega, by omega⟩
  have k3 : wrap64 (A1 + 2 * A2 - 1) = A1 + 2 * A2 - 1 := IntWalk.wrap64_in _ ⟨by omega, by omega⟩
  have k4 : ¬ 2 * A2 = 0 := by omega
  have k4' : ¬ A2 = 0 := by omega
  have k5 : (A1 + 2 * A2 - 1).tdiv (2 * A2) = (A1 + 2 * A2 - 1) / (2 * A2) := Int.tdiv_eq_ediv_of_nonneg (by omega)
  have k7 : 0 ≤ (A1 + 2 * A2 - 1) / (2 * A2) := Int.ediv_nonneg (by omega) (by omega)
  have k8 : (A1 + 2 * A2 - 1) / (2 * A2) ≤ A1 + 2 * A2 - 1 := Int.ediv_le_self _ (by omega)
  obtain ⟨T, hT⟩ : ∃ T, (A1 + 2 * A2 - 1) / (2 * A2) = T := ⟨_, rfl⟩
  rw [hT] at HTD k5 k7 k8
  have k6 : wrap64 T = T := IntWalk.wrap64_in _ ⟨by omega, by omega⟩
  clear hT pa0 pa1 pa2 pa3 k7 k8
  go_wp2_with fail
  refine (HTD.out w8 HX8.out).mono ?_
  rintro e w9 ⟨rfl, hb⟩
  clear x0 x1 y0 y1 c0 c1
  clear k1 k2 k3 k4 k4' k5 k6
  have HA9 := Lib.hid (keepF HA8.out hb)
  have HY9 := Lib.hid (keepF HY8.out hb)
  have HC9 := Lib.hid (keepF HC8.out hb)
  have HX9 := Lib.hid (HX8.out.below hb (Nat.le_refl _))
  have HB9 := Lib.hid (HB8.out.trans (hb.mono HB8.out.size))
  clear hb
  obtain ⟨x0, x1, -, -⟩ := block_of_cells HA9.out
  obtain ⟨y0, y1, -, -⟩ := block_of_cells HY9.out
  obtain ⟨c0, c1, -, -⟩ := block_of_cells HC9.out
  have hla := lt_of_blk HA9.out
  have hly := lt_of_blk HY9.out
  have hlc := lt_of_blk HC9.out
  obtain ⟨w10, hw10⟩ : ∃ w10, w9.alloc (.cells #[.int .i64 D1, .int .i64 D2] 47) = w10 := ⟨_, rfl⟩
  have hb : Below w9.heap.size w9 w10 := by rw [← hw10]; exact (Below.refl _ _).alloc (Nat.le_refl _) _
  have HD10 : Hid (w10.heap[w9.heap.size]? = some (.cells #[.int .i64 D1, .int .i64 D2] 47 (0, 0))) := by rw [← hw10]; exact heap_alloc_new _ _
  have HW10 := Lib.hid hw10
  clear hw10
  have HA10 := Lib.hid (keepF HA9.out hb)
  have HY10 := Lib.hid (keepF HY9.out hb)
  have HC10 := Lib.hid (keepF HC9.out hb)
  have HX10 := Lib.hid (HX9.out.below hb (Nat.le_refl _))
  have HB10 := Lib.hid (HB9.out.trans (hb.mono HB9.out.size))
  clear hb
  go_wp2_with fail
  rw [HW10.out]
  refine (modest_yes D1 D2 w10 HPR.out.d.1 HPR.out.d.2).mono ?_
  rintro e w11 ⟨rfl, hb⟩
  clear x0 x1 y0 y1 c0 c1
  clear hla hly hlc
  have HA11 := Lib.hid (keepF HA10.out hb)
  have HY11 := Lib.hid (keepF HY10.out hb)
  have HC11 := Lib.hid (keepF HC10.out hb)
  have HD11 := Lib.hid (keepF HD10.out hb)
  have HX11 := Lib.hid (HX10.out.below hb (Nat.le_refl _))
  have HB11 := Lib.hid (HB10.out.trans (hb.mono HB10.out.size))
  clear hb
  obtain ⟨x0, x1, -, -⟩ := block_of_cells HA11.out
  obtain ⟨y0, y1, -, -⟩ := block_of_cells HY11.out
  obtain ⟨c0, c1, -, -⟩ := block_of_cells HC11.out
  obtain ⟨d0, d1, -, -⟩ := block_of_cells HD11.out
  obtain ⟨pa, pb, pc, pd, o1, o2, o3, o4⟩ := HPR.out
  have m1 := mulb pa.1 (y := B2) ⟨by omega, pb.2.2⟩
  have m2 := mulb pb.1 (y := A2) ⟨by omega, pa.2.2⟩
  have m3 := mulb pb.1 (y := C2) ⟨by omega, pc.2.2⟩
  have m4 := mulb pc.1 (y := B2) ⟨by omega, pb.2.2⟩
  have m5 := mulb pa.1 (y := D2) ⟨by omega, pd.2.2⟩
  have m6 := mulb pd.1 (y := A2) ⟨by omega, pa.2.2⟩
  have s1 : 2 * B1 * A2 = 2 * (B1 * A2) := Int.mul_assoc _ _ _
  have s2 : 2 * D1 * A2 = 2 * (D1 * A2) := Int.mul_assoc _ _ _
  have l1 : lessB A1 A2 B1 B2 = false := by
    unfold lessB
    rw [IntWalk.wrap64_in (A1 * B2) ⟨by omega, by omega⟩, IntWalk.wrap64_in (B1 * A2) ⟨by omega, by omega⟩]
    exact decide_eq_false (by omega)
  have l2 : lessB B1 B2 C1 C2 = false := by
    unfold lessB
    rw [IntWalk.wrap64_in (B1 * C2) ⟨by omega, by omega⟩, IntWalk.wrap64_in (C1 * B2) ⟨by omega, by omega⟩]
    exact decide_eq_false (by omega)
  have hl1 := less_any A1 A2 B1 B2 w11
  rw [l1] at hl1
  have hl2 := fun W => less_any B1 B2 C1 C2 W
  rw [l2] at hl2
  have v1 : wrap64 (A1 * B2) = A1 * B2 := IntWalk.wrap64_in _ ⟨by omega, by omega⟩
  have v2 : wrap64 (2 * B1) = 2 * B1 := IntWalk.wrap64_in _ ⟨by omega, by omega⟩
  have v3 : wrap64 (2 * B1 * A2) = 2 * B1 * A2 := IntWalk.wrap64_in _ ⟨by omega, by omega⟩
  have v4 : wrap64 (A1 * D2) = A1 * D2 := IntWalk.wrap64_in _ ⟨by omega, by omega⟩
  have v5 : wrap64 (2 * D1) = 2 * D1 := IntWalk.wrap64_in _ ⟨by omega, by omega⟩
  have v6 : wrap64 (2 * D1 * A2) = 2 * D1 * A2 := IntWalk.wrap64_in _ ⟨by omega, by omega⟩
  have v7 : decide (A1 * B2 ≤ 2 * B1 * A2) = true := decide_eq_true o3
  have v8 : decide (A1 * D2 ≤ 2 * D1 * A2) = true := decide_eq_true o4
  have HL1 := Lib.hid hl1
  have HL2 := Lib.hid hl2
  clear pa pb pc pd o1 o2 o3 o4 m1 m2 m3 m4 m5 m6 s1 s2 l1 l2 hl1 hl2
  go_wp2_with fail
  refine HL1.out.mono ?_
  rintro e w12 ⟨rfl, hb⟩
  clear x0 x1 y0 y1 c0 c1 d0 d1
  have HA12 := Lib.hid (keepF HA11.out hb)
  have HY12 := Lib.hid (keepF HY11.out hb)
  have HC12 := Lib.hid (keepF HC11.out hb)
  have HD12 := Lib.hid (keepF HD11.out hb)
  have HX12 := Lib.hid (HX11.out.below hb (Nat.le_refl _))
  have HB12 := Lib.hid (HB11.out.trans (hb.mono HB11.out.size))
  clear hb
  obtain ⟨x0, x1, -, -⟩ := block_of_cells HA12.out
  obtain ⟨y0, y1, -, -⟩ := block_of_cells HY12.out
  obtain ⟨c0, c1, -, -⟩ := block_of_cells HC12.out
  obtain ⟨d0, d1, -, -⟩ := block_of_cells HD12.out
  go_wp2_with fail
  refine (HL2.out w12).mono ?_
  rintro e w13 ⟨rfl, hb⟩
  clear x0 x1 y0 y1 c0 c1 d0 d1
  have HA13 := Lib.hid (keepF HA12.out hb)
  have HY13 := Lib.hid (keepF HY12.out hb)
  have HC13 := Lib.hid (keepF HC12.out hb)
  have HD13 := Lib.hid (keepF HD12.out hb)
  have HX13 := Lib.hid (HX12.out.below hb (Nat.le_refl _))
  have HB13 := Lib.hid (HB12.out.trans (hb.mono HB12.out.size))
  clear hb
  obtain ⟨x0, x1, -, -⟩ := block_of_cells HA13.out
  obtain ⟨y0, y1, -, -⟩ := block_of_cells HY13.out
  obtain ⟨c0, c1, -, -⟩ := block_of_cells HC13.out
  obtain ⟨d0, d1, -, -⟩ := block_of_cells HD13.out
  go_wp2_with fail
  refine (awake_any _).mono ?_
  rintro e w14 ⟨rfl, hb⟩
  have HB14 := Lib.hid (HB13.out.trans (hb.mono HB13.out.size))
  clear hb x0 x1 y0 y1 c0 c1 d0 d1
  go_wp2
  go_ret
  exact ⟨rfl, HB14.out⟩

end Go.Proofs.Ythnkmmjelpdamaa
