/- The program's solve. -/
import Derived.Test.YthnkmmjelpdamaaB5
import Derived.Test.YthnkmmjelpdamaaA3
namespace Go.Proofs.Ythnkmmjelpdamaa
open Go.RowKit

theorem rowC_lit' (f : Nat → Int) (k : Nat) : (#[.int .i64 (f (k * 7)), .int .i64 (f (k * 7 + 1)), .int .i64 (f (k * 7 + 2)), .int .i64 (f (k * 7 + 3)), .int .i64 (f (k * 7 + 4)), .int .i64 (f (k * 7 + 5)), .int .i64 (f (k * 7 + 6))] : Array Value) = rowC f k := rfl
theorem mul_bd {a b : Int} (ha : -1000000000 ≤ a ∧ a ≤ 1000000000) (hb : -1000000000 ≤ b ∧ b ≤ 1000000000) : -1000000000000000000 ≤ a * b ∧ a * b ≤ 1000000000000000000 := by
  have h : (a * b).natAbs ≤ 1000000000 * 1000000000 := by rw [Int.natAbs_mul]; exact Nat.mul_le_mul (by omega) (by omega)
  omega

theorem valN_set {w : World} {V s : Nat} {n : Nat → Int} {d : Int} {T : TypeId} (h : w.heap[V]? = some (.cells (valN n d s) T (0, 0))) (hs : s < 6) :
    ((w.setCell ⟨V, s * 2, none⟩ (.int .i64 (n s / (Int.gcd (n s) d : Int)))).setCell ⟨V, s * 2 + 1, none⟩ (.int .i64 (d / (Int.gcd (n s) d : Int)))).heap[V]? = some (.cells (valN n d (s + 1)) T (0, 0)) := by
  rw [set_ofN (set_ofN h (show s * 2 < 12 by omega) _) (show s * 2 + 1 < 12 by omega)]
  refine congrArg (fun z => some (Obj.cells z T (0, 0))) (ofN_congr fun c hc => ?_)
  by_cases h1 : c = s * 2 + 1
  · subst h1
    rw [if_pos rfl, if_pos (by omega), if_neg (by omega), show (s * 2 + 1) / 2 = s by omega]
  · rw [if_neg h1]
    by_cases h2 : c = s * 2
    · subst h2
      rw [if_pos rfl, if_pos (by omega), if_pos (by omega), show s * 2 / 2 = s by omega]
    · rw [if_neg h2]
      by_cases h3 : c < 2 * s
      · rw [if_pos h3, if_pos (show c < 2 * (s + 1) by omega)]
      · rw [if_neg h3, if_neg (show ¬ c < 2 * (s + 1) by omega)]

set_option maxHeartbeats 8000000 in
set_option maxRecDepth 100000 in
theorem solve_any (f : Nat → Int) (w : World) (hok : SolveOk f) :
    Calls Try.prog 57 #[.agg (eqC f)] w fun e w' => e = .returned (.agg (valC (fun s => st f 6 (s * 7 + 6)) (pv f 6))) ∧ Below w.heap.size w w' := by
  have HOK := Lib.hid hok
  clear hok
  go_enter Try.func57, Try.ntmps57
  go_upto_region 1 with fail
  obtain ⟨E, hE⟩ : ∃ E, w.heap.size = E := ⟨_, rfl⟩
  rw [hE]
  obtain ⟨z, hz⟩ : ∃ z : Array Value, z = #[.int .i64 0, .int .i64 0, .int .i64 0, .int .i64 0, .int .i64 0, .int .i64 0, .int .i64 0, .int .i64 0, .int .i64 0, .int .i64 0, .int .i64 0, .int .i64 0] := ⟨_, rfl⟩
  have hzs : z.size = 12 := by rw [hz]; rfl
  rw [← hz]
  obtain ⟨wa, hwa⟩ : ∃ wa, (w.alloc (.cells (eqC f) 89)).alloc (.cells z 77) = wa := ⟨_, rfl⟩
  have hsa : wa.heap.size = E + 2 := by rw [← hwa]; simp [hE]
  have HBA : Hid (Below E w wa) := by rw [← hwa]; exact ((Below.refl _ _).alloc (by rw [hE]; exact Nat.le_refl _) _).alloc (by simp [hE]) _
  have HRE : Hid (wa.heap[E]? = some (.cells (eqC f) 89 (0, 0))) := by
    rw [← hwa, Below.heap_alloc _ _ _ (by simp [hE]), ← hE]; exact heap_alloc_new _ _
  have HRV : Hid (wa.heap[E + 1]? = some (.cells z 77 (0, 0))) := by
    rw [← hwa]; have := heap_alloc_new (w.alloc (.cells (eqC f) 89)) (.cells z 77); rw [World.size_alloc, hE] at this; exact this
  rw [hwa]
  have HZ := Lib.hid hz
  have HEE := Lib.hid hE
  clear hwa hE hz
  go_wp2
  go_loopw [3, 4, 5, 6, 7, 8, 11, 17, 28] (fun b _ _ _ _ _ y _ _ wr => ∃ k : Nat, k ≤ 6 ∧ y = .int .i64 k ∧ b = .int .i64 (pv f k) ∧ wr.heap[E]? = some (.cells (eqC (st f k)) 89 (0, 0)) ∧ wr.heap[E + 1]? = some (.cells z 77 (0, 0)) ∧ E + 2 ≤ wr.heap.size ∧ Below E w wr) (fun _ _ _ _ _ _ y _ _ _ => 6 - (intOf y).toNat)
  case atStart => exact ⟨0, by omega, rfl, rfl, HRE.out, HRV.out, by omega, HBA.out⟩
  case round =>
    clear HRE HRV HBA hsa
    obtain ⟨k, hk, rfl, rfl, hr, hv, hsz, hb⟩ := hrel
    obtain ⟨wq, rfl⟩ : ∃ x, x = wr := ⟨_, rfl⟩
    have HR := Lib.hid hr
    have HV := Lib.hid hv
    have HB := Lib.hid hb
    clear hr hv hb
    by_cases hlt : k < 6
    · obtain ⟨g, hg⟩ : ∃ g, st f k = g := ⟨_, rfl⟩
      obtain ⟨p, hp⟩ : ∃ p, pv f k = p := ⟨_, rfl⟩
      have HG := Lib.hid hg
      have HP := Lib.hid hp
      have HSM := Lib.hid (HOK.out.small k hk)
      have hp1 := HOK.out.pos k hk
      have hp2 := HOK.out.top hk
      have HNX := Lib.hid (show st f (k + 1) = gs g k p ∧ pv f (k + 1) = g (k * 7 + k) by rw [st_succ, pv_succ, hg, hp]; exact ⟨rfl, rfl⟩)
      rw [hg] at HR HSM
      rw [hp] at hp1 hp2
      rw [hp]
      clear hg hp
      obtain ⟨d0, -⟩ := cell_ofN HR.out (show k * 7 < 42 by omega)
      obtain ⟨d1, -⟩ := cell_ofN HR.out (show k * 7 + 1 < 42 by omega)
      obtain ⟨d2, -⟩ := cell_ofN HR.out (show k * 7 + 2 < 42 by omega)
      obtain ⟨d3, -⟩ := cell_ofN HR.out (show k * 7 + 3 < 42 by omega)
      obtain ⟨d4, -⟩ := cell_ofN HR.out (show k * 7 + 4 < 42 by omega)
      obtain ⟨d5, -⟩ := cell_ofN HR.out (show k * 7 + 5 < 42 by omega)
      obtain ⟨d6, -⟩ := cell_ofN HR.out (show k * 7 + 6 < 42 by omega)
      go_upto_region 6 with fail
      obtain ⟨R, hR⟩ : ∃ R, wq.heap.size = R := ⟨_, rfl⟩
      obtain ⟨w1, hw1⟩ : ∃ w1, wq.alloc (.cells (rowC g k) 87) = w1 := ⟨_, rfl⟩
      have HR1 : Hid (w1.heap[E]? = some (.cells (eqC (part g (gs g k p) (0 * 7))) 89 (0, 0))) := by
        rw [← hw1, Below.heap_alloc _ _ _ (by omega), Nat.zero_mul, part_zero]; exact HR.out
      have HV1 : Hid (w1.heap[E + 1]? = some (.cells z 77 (0, 0))) := by
        rw [← hw1, Below.heap_alloc _ _ _ (by omega)]; exact HV.out
      have HW1 : Hid (w1.heap[R]? = some (.cells (rowC g k) 87 (0, 0))) := by rw [← hw1, ← hR]; exact heap_alloc_new _ _
      have HB1 : Hid (Below E w w1) := by rw [← hw1]; exact HB.out.alloc (by omega) _
      have hs1 : w1.heap.size = R + 1 := by rw [← hw1, World.size_alloc, hR]
      rw [rowC_lit' g k, hw1, hR]
      have HRS := Lib.hid (show E + 2 ≤ R by omega)
      have hRE : R ≠ E := by omega
      have hRV : R ≠ E + 1 := by omega
      clear hw1 hR d0 d1 d2 d3 d4 d5 d6 HR HV HB hsz
      go_wp2
      go_loopw [6, 7, 8, 17, 28] (fun _ _ _ y _ wr => ∃ i : Nat, i ≤ 6 ∧ y = .int .i64 i ∧ wr.heap[E]? = some (.cells (eqC (part g (gs g k p) (i * 7))) 89 (0, 0)) ∧ wr.heap[E + 1]? = some (.cells z 77 (0, 0)) ∧ wr.heap[R]? = some (.cells (rowC g k) 87 (0, 0)) ∧ R + 1 ≤ wr.heap.size ∧ Below E w wr) (fun _ _ _ y _ _ => 6 - (intOf y).toNat)
      case atStart => exact ⟨0, by omega, rfl, HR1.out, HV1.out, HW1.out, by omega, HB1.out⟩
      case round =>
        clear HR1 HV1 HW1 HB1 hs1
        obtain ⟨i, hi, rfl, hr, hv, hw, hsz, hb⟩ := hrel
        obtain ⟨wq1, rfl⟩ : ∃ x, x = wr := ⟨_, rfl⟩
        have HR := Lib.hid hr
        have HV := Lib.hid hv
        have HW := Lib.hid hw
        have HB := Lib.hid hb
        clear hr hv hw hb
        by_cases hlt1 : i < 6
        · by_cases hik : i = k
          · subst hik
            have HX := Lib.hid (part_skip g i p)
            go_wp2
            go_roundw
            case rel => exact ⟨i + 1, by omega, by go_num, by rw [← HX.out]; exact HR.out, HV.out, HW.out, hsz, HB.out⟩
            case measure => simp [intOf]; omega
          · obtain ⟨d0, f0⟩ := cell_ofN HR.out (show i * 7 + k < 42 by omega)
            obtain ⟨c, hc⟩ : ∃ c, g (i * 7 + k) = c := ⟨_, rfl⟩
            rw [part_at (by omega), hc] at d0
            have HC := Lib.hid hc
            have hcb := HSM.out (i * 7 + k) (by omega)
            rw [hc] at hcb
            obtain ⟨a, ha⟩ : ∃ a, g (k * 7 + k) = a := ⟨_, rfl⟩
            have HA := Lib.hid ha
            have hab := HSM.out (k * 7 + k) (by omega)
            rw [ha] at hab
            clear hc ha
            go_wp2
            clear d0 f0
            go_loopw [8, 28] (fun _ y wr => ∃ j : Nat, j ≤ 7 ∧ y = .int .i64 j ∧ wr.heap[E]? = some (.cells (eqC (part g (gs g k p) (i * 7 + j))) 89 (0, 0)) ∧ wr.heap[E + 1]? = some (.cells z 77 (0, 0)) ∧ wr.heap[R]? = some (.cells (rowC g k) 87 (0, 0)) ∧ R + 1 ≤ wr.heap.size ∧ Below E w wr) (fun _ y _ => 7 - (intOf y).toNat)
            case atStart => exact ⟨0, by omega, rfl, HR.out, HV.out, HW.out, hsz, HB.out⟩
            case round =>
              clear HR HV HW HB hsz
              obtain ⟨j, hj, rfl, hr, hv, hw, hsz, hb⟩ := hrel
              obtain ⟨wq2, rfl⟩ : ∃ x, x = wr := ⟨_, rfl⟩
              have HR := Lib.hid hr
              have HV := Lib.hid hv
              have HW := Lib.hid hw
              have HB := Lib.hid hb
              clear hr hv hw hb
              by_cases hlt2 : j < 7
              · obtain ⟨d0, f0⟩ := cell_ofN HR.out (show i * 7 + j < 42 by omega)
                obtain ⟨d1, -⟩ := cell_ofN (n := 7) HW.out (show k < 7 by omega)
                obtain ⟨d2, -⟩ := cell_ofN (n := 7) HW.out hlt2
                obtain ⟨x, hx⟩ : ∃ x, g (i * 7 + j) = x := ⟨_, rfl⟩
                obtain ⟨y, hy⟩ : ∃ y, g (k * 7 + j) = y := ⟨_, rfl⟩
                rw [part_at (by omega), hx] at d0
                rw [HA.out] at d1
                rw [hy] at d2
                have hxb := HSM.out (i * 7 + j) (by omega)
                have hyb := HSM.out (k * 7 + j) (by omega)
                rw [hx] at hxb
                rw [hy] at hyb
                obtain ⟨q, hq⟩ : ∃ q, (a * x - c * y).tdiv p = q := ⟨_, rfl⟩
                have hgs : gs g k p (i * 7 + j) = q := by rw [gs_at hlt2 hik, HA.out, hx, HC.out, hy, hq]
                have hqb := HOK.out.small (k + 1) (by omega) (i * 7 + j) (by omega)
                rw [HNX.out.1, hgs] at hqb
                have hax := mul_bd hab hxb
                have hcy := mul_bd hcb hyb
                have HST := Lib.hid (show (wq2.setCell ⟨E, i * 7 + j, none⟩ (.int .i64 q)).heap[E]? = some (.cells (eqC (part g (gs g k p) (i * 7 + (j + 1)))) 89 (0, 0)) by
                  rw [← Nat.add_assoc, part_snoc, hgs]; exact eqC_set HR.out (by omega) _)
                clear hx hy hgs
                go_wp2
                go_region
                go_wp2
                go_roundw
                case rel => exact ⟨j + 1, by omega, by go_num, HST.out, by
                  show (wq2.setCell ⟨E, i * 7 + j, none⟩ _).heap[E + 1]? = _
                  rw [heap_setCell_other _ _ _ _ (Nat.succ_ne_self E)]; exact HV.out, by
                  show (wq2.setCell ⟨E, i * 7 + j, none⟩ _).heap[R]? = _
                  rw [heap_setCell_other _ _ _ _ hRE]; exact HW.out, by simpa using hsz, (HB.out.setCell (p := ⟨E, i * 7 + j, none⟩) (Nat.le_refl _) _).drew⟩
                case measure => simp [intOf]; omega
              · obtain rfl : j = 7 := by omega
                have HX := Lib.hid (show i * 7 + 7 = (i + 1) * 7 by omega)
                go_wp2
                go_roundw
                case rel => exact ⟨i + 1, by omega, by go_num, by rw [← HX.out]; exact HR.out, HV.out, HW.out, hsz, HB.out⟩
                case measure => simp [intOf]; omega
        · obtain rfl : i = 6 := by omega
          obtain ⟨d1, -⟩ := cell_ofN (n := 7) HW.out (show k < 7 by omega)
          have HX := Lib.hid (show wq1.heap[E]? = some (.cells (eqC (st f (k + 1))) 89 (0, 0)) by
            have h := HR.out; rw [show (6 * 7 : Nat) = 42 from rfl, eqC_part, ← HNX.out.1] at h; exact h)
          have HE2 := Lib.hid (show E + 2 ≤ wq1.heap.size by have := HRS.out; omega)
          rw [← HNX.out.2] at d1
          go_wp2
          go_roundw
          case rel => exact ⟨k + 1, by omega, by go_num, rfl, HX.out, HV.out, HE2.out, HB.out⟩
          case measure => simp [intOf]; omega
    · obtain rfl : k = 6 := by omega
      obtain ⟨n, hn⟩ : ∃ n : Nat → Int, (fun s => st f 6 (s * 7 + 6)) = n := ⟨_, rfl⟩
      obtain ⟨d, hd⟩ : ∃ d, pv f 6 = d := ⟨_, rfl⟩
      have hd1 := HOK.out.pos 6 (by omega)
      have hd2 := HOK.out.top (show 6 ≤ 6 by omega)
      have HSM := Lib.hid (HOK.out.small 6 (by omega))
      have HN := Lib.hid (show ∀ s, st f 6 (s * 7 + 6) = n s from fun s => by rw [← hn])
      rw [hd] at hd1 hd2
      have HEQ := Lib.hid (show Value.agg (valC (fun s => st f 6 (s * 7 + 6)) (pv f 6)) = .agg (valC n d) by rw [hn, hd])
      rw [hd]
      clear hn hd hlt hk
      go_upto_region 20 with fail
      obtain ⟨V, hV⟩ : ∃ V, wq.heap.size = V := ⟨_, rfl⟩
      rw [hV, show (#[Value.int IntKind.i64 0, Value.int IntKind.i64 0, Value.int IntKind.i64 0, Value.int IntKind.i64 0, Value.int IntKind.i64 0, Value.int IntKind.i64 0, Value.int IntKind.i64 0, Value.int IntKind.i64 0, Value.int IntKind.i64 0, Value.int IntKind.i64 0, Value.int IntKind.i64 0, Value.int IntKind.i64 0] : Array Value) = valN n d 0 from rfl]
      obtain ⟨w1, hw1⟩ : ∃ w1, wq.alloc (.cells (valN n d 0) 77) = w1 := ⟨_, rfl⟩
      have HR1 : Hid (w1.heap[E]? = some (.cells (eqC (st f 6)) 89 (0, 0))) := by
        rw [← hw1, Below.heap_alloc _ _ _ (by omega)]; exact HR.out
      have HV1 : Hid (w1.heap[E + 1]? = some (.cells z 77 (0, 0))) := by
        rw [← hw1, Below.heap_alloc _ _ _ (by omega)]; exact HV.out
      have HW1 : Hid (w1.heap[V]? = some (.cells (valN n d 0) 77 (0, 0))) := by rw [← hw1, ← hV]; exact heap_alloc_new _ _
      have HB1 : Hid (Below E w w1) := by rw [← hw1]; exact HB.out.alloc (by omega) _
      have hs1 : w1.heap.size = V + 1 := by rw [← hw1, World.size_alloc, hV]
      rw [hw1]
      have HRS := Lib.hid (show E + 2 ≤ V by omega)
      have hVE : V ≠ E := by omega
      have hVV : V ≠ E + 1 := by omega
      clear hw1 hV HR HV HB hsz
      go_wp2
      go_loopw [10, 58] (fun _ y wr => ∃ s : Nat, s ≤ 6 ∧ y = .int .i64 s ∧ wr.heap[E]? = some (.cells (eqC (st f 6)) 89 (0, 0)) ∧ wr.heap[E + 1]? = some (.cells z 77 (0, 0)) ∧ wr.heap[V]? = some (.cells (valN n d s) 77 (0, 0)) ∧ V + 1 ≤ wr.heap.size ∧ Below E w wr) (fun _ y _ => 6 - (intOf y).toNat)
      case atStart => exact ⟨0, by omega, rfl, HR1.out, HV1.out, HW1.out, by omega, HB1.out⟩
      case round =>
        clear HR1 HV1 HW1 HB1 hs1
        obtain ⟨s, hs, rfl, hr, hv, hw, hsz, hb⟩ := hrel
        obtain ⟨wq1, rfl⟩ : ∃ x, x = wr := ⟨_, rfl⟩
        have HR := Lib.hid hr
        have HV := Lib.hid hv
        have HW := Lib.hid hw
        have HB := Lib.hid hb
        clear hr hv hw hb
        by_cases hlt1 : s < 6
        · obtain ⟨d0, f0⟩ := cell_ofN HR.out (show s * 7 + 6 < 42 by omega)
          have hnb := HSM.out (s * 7 + 6) (by omega)
          rw [HN.out] at d0 hnb
          obtain ⟨m, hm⟩ : ∃ m, n s = m := ⟨_, rfl⟩
          rw [hm] at d0 hnb
          obtain ⟨a, ha⟩ : ∃ a, m / (Int.gcd m d : Int) = a := ⟨_, rfl⟩
          obtain ⟨b, hb⟩ : ∃ b, d / (Int.gcd m d : Int) = b := ⟨_, rfl⟩
          have HCC := Lib.hid (show ∀ w' : World, w'.heap[V]? = some (.cells (valN n d s) 77 (0, 0)) → ((w'.setCell ⟨V, s * 2, none⟩ (.int .i64 a)).setCell ⟨V, s * 2 + 1, none⟩ (.int .i64 b)).heap[V]? = some (.cells (valN n d (s + 1)) 77 (0, 0)) from fun w' h => by
            rw [← ha, ← hb, ← hm]; exact valN_set h hlt1)
          have HFR := Lib.hid (fraction_any m d wq1 (by omega) (by omega) hd1 (by omega))
          rw [fracV, fracC, ha, hb] at HFR
          clear ha hb hm
          go_wp2_with fail
          refine HFR.out.mono ?_
          rintro e w' ⟨rfl, hbw⟩
          have HBW := Lib.hid hbw
          have HR2 := Lib.hid ((hbw.block _ (by have := HRS.out; omega)).trans HR.out)
          have HV2 := Lib.hid ((hbw.block _ (by have := HRS.out; omega)).trans HV.out)
          have HW2 := Lib.hid ((hbw.block _ (by omega)).trans HW.out)
          have HBB := Lib.hid (HB.out.trans (hbw.mono (by have := HRS.out; omega)))
          have hsz2 : V + 1 ≤ w'.heap.size := by have := hbw.size; omega
          obtain ⟨d1, f1⟩ := cell_ofN HW2.out (show s * 2 < 12 by omega)
          obtain ⟨d2, f2⟩ := cell_ofN HW2.out (show s * 2 + 1 < 12 by omega)
          have HST := Lib.hid (HCC.out w' HW2.out)
          clear hbw d0 f0
          go_wp2
          go_roundw
          case rel =>
            have q1 : ((w'.setCell ⟨V, s * 2, none⟩ (.int .i64 a)).setCell ⟨V, s * 2 + 1, none⟩ (.int .i64 b)).heap[E]? = some (.cells (eqC (st f 6)) 89 (0, 0)) := by
              rw [heap_setCell_other _ _ _ _ (Ne.symm hVE), heap_setCell_other _ _ _ _ (Ne.symm hVE)]; exact HR2.out
            have q2 : ((w'.setCell ⟨V, s * 2, none⟩ (.int .i64 a)).setCell ⟨V, s * 2 + 1, none⟩ (.int .i64 b)).heap[E + 1]? = some (.cells z 77 (0, 0)) := by
              rw [heap_setCell_other _ _ _ _ (Ne.symm hVV), heap_setCell_other _ _ _ _ (Ne.symm hVV)]; exact HV2.out
            have q3 : Below E w ((w'.setCell ⟨V, s * 2, none⟩ (.int .i64 a)).setCell ⟨V, s * 2 + 1, none⟩ (.int .i64 b)) :=
              (HBB.out.setCell (p := ⟨V, s * 2, none⟩) (by show E ≤ V; have := HRS.out; omega) _).setCell (p := ⟨V, s * 2 + 1, none⟩) (by show E ≤ V; have := HRS.out; omega) _
            repeat apply Exists.intro
            exact ⟨⟨s + 1, by omega, by go_num, q1, q2, HST.out, by simpa using hsz2, q3⟩, rfl⟩
          case measure => simp [intOf]; omega
        · obtain rfl : s = 6 := by omega
          have hst := Lib.hid (setRow_heap wq1 (E + 1) _ (valC n d) _ _ HV.out)
          rw [valN_six] at HW
          go_wp2_with (first
            | (refine wpList_load_row rfl 77 (.tmp 9) rfl V rfl 77 _ _ _ HW.out Try.underlying77 rfl (info_valC _ _) ?_)
            | (refine wpList_store_row rfl 77 (.tmp 2) (.tmp 70) rfl (E + 1) (valC n d) rfl rfl 77 _ HV.out (info_valC _ _) (by rw [valC_size, hzs]) (valC_all _ _) ?_))
          refine bodyPost_ret (v := .agg (valC n d)) ?_ rfl ⟨by rw [HEQ.out], below_setRow (by rw [HEE.out]; exact HB.out) (by rw [HEE.out]; omega) _⟩
          simp [results, Try.results57, Result.andThen, asAddr, Act.put, run_loadVar_row _ (E + 1) _ _ _ _ _ hst.out Try.underlying77 rfl (info_valC _ _)]

end Go.Proofs.Ythnkmmjelpdamaa
