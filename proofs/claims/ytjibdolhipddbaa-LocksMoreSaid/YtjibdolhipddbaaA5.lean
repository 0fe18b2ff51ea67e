/- Forbidden pairs, and the pairs that a chamber stops. -/
import Derived.Test.YtjibdolhipddbaaA4
namespace Go.Proofs.Ytjibdolhipddbaa
open Go.RowKit

/-- The forbidden pairs. -/
def fbF (k l : Nat) (f : Nat → Bool) (n : Nat) : Bool := decide (n / 6 < k) && decide (n % 6 < l) && !f n

/-- The cells of a colouring. -/
def colC (c : Nat → Int) : Array Value := ofN 6 fun i => .int .i64 (c i)
def colV (c : Nat → Int) : Value := .agg (colC c)
theorem colC_all (c : Nat → Int) : (colC c).all (·.oneCell') = true := ofN_one fun _ => rfl
theorem colC_size (c : Nat → Int) : (colC c).size = 6 := ofN_size _ _
theorem colC_cell {w : World} {g : Nat} {c : Nat → Int} {T : TypeId} (h : w.heap[g]? = some (.cells (colC c) T (0, 0))) {k : Nat} (hk : k < 6) : w.cell? ⟨g, k, none⟩ = some (.int .i64 (c k)) ∧ w.frozen? ⟨g, k, none⟩ = false := cell_ofN h hk
theorem colC_congr {c d : Nat → Int} (h : ∀ i, i < 6 → c i = d i) : colC c = colC d := ofN_congr fun i hi => by rw [h i hi]

/-- Whether a lock has a pin of the depth of a key. -/
def PinF (k : Nat) (f : Nat → Bool) (c : Nat → Int) (j : Nat) (x : Int) : Prop := ∃ o, o < k ∧ (f (6 * o + j) = true ∧ c o = x)
instance (k : Nat) (f : Nat → Bool) (c : Nat → Int) (j : Nat) (x : Int) : Decidable (PinF k f c j x) := inferInstanceAs (Decidable (∃ o, o < k ∧ (f (6 * o + j) = true ∧ c o = x)))
/-- The pairs that a chamber stops. -/
def stF (k l : Nat) (f : Nat → Bool) (c : Nat → Int) (n : Nat) : Bool := decide (n / 6 < k) && decide (n % 6 < l) && !decide (PinF k f c (n % 6) (c (n / 6)))

theorem two_heap (w : World) (x y : Obj) : ((w.alloc x).alloc y).heap[w.heap.size]? = some x ∧ ((w.alloc x).alloc y).heap[w.heap.size + 1]? = some y := by
  refine ⟨by rw [Below.heap_alloc _ _ _ (by simp)]; exact heap_alloc_new _ _, ?_⟩
  have := heap_alloc_new (w.alloc x) y
  simpa using this

theorem sv_eq {f g : Nat → Bool} (h : ∀ i, i < 36 → f i = g i) : Value.int .u64 (S36 f : Nat) = .int .u64 (S36 g : Nat) := by rw [S36_congr h]
theorem ret_u64 {a b : Int} (h : a = b) : Ending.returned (.int .u64 a) = .returned (.int .u64 b) := by rw [h]

set_option maxHeartbeats 4000000 in
set_option maxRecDepth 100000 in
theorem forbidden_any (k l : Nat) (f : Nat → Bool) (w : World) (hk : k ≤ 6) (hl : l ≤ 6) :
    Calls Try.prog 36 #[planV k l f] w fun e w' => e = .returned (sv (fbF k l f)) ∧ Below w.heap.size w w' := by
  have HB := Lib.hid ((Below.refl _ w).alloc (Nat.le_refl _) (.cells (planC k l f) 63))
  obtain ⟨c0, c1, c2⟩ := cells_of3 (heap_alloc_new w (.cells (planC k l f) 63))
  obtain ⟨wa, hwa⟩ : ∃ wa, w.alloc (.cells (planC k l f) 63) = wa := ⟨_, rfl⟩
  rw [hwa] at HB c0 c1 c2
  rw [planC] at hwa
  have HWA := Lib.hid hwa
  have HK := Lib.hid (And.intro c0 (And.intro c1 c2))
  clear hwa c0 c1 c2
  go_enter Try.func36, Try.ntmps36
  rw [planV, planC]
  go_upto_region 1 with fail
  rw [HWA.out]
  obtain ⟨c0, c1, c2⟩ := HK.out
  simp only [sv] at c2
  go_wp2
  go_loop [3, 4, 5, 8] (fun s _ _ x => ∃ i : Nat, i ≤ k ∧ x = .int .i64 i ∧ s = .int .u64 (S36 (fun n => decide (n / 6 < i) && decide (n % 6 < l)) : Nat)) (fun _ _ _ x => k - (intOf x).toNat)
  case atStart => exact ⟨0, by omega, rfl, by rw [show (S36 fun n => decide (n / 6 < 0) && decide (n % 6 < l)) = 0 from S36_eq_zero.2 fun n _ => by simp]; rfl⟩
  case round =>
    obtain ⟨i, hi, rfl, rfl⟩ := hrel
    by_cases hlt : i < k
    · go_wp2
      go_loop [3, 5, 13] (fun s _ x => ∃ j : Nat, j ≤ l ∧ x = .int .i64 j ∧ s = .int .u64 (S36 (fun n => (decide (n / 6 < i) && decide (n % 6 < l)) || (decide (n / 6 = i) && decide (n % 6 < j))) : Nat)) (fun _ _ x => l - (intOf x).toNat)
      case atStart => exact ⟨0, by omega, rfl, sv_eq fun n hn => by simp⟩
      case round =>
        obtain ⟨j, hj, rfl, rfl⟩ := hrel
        by_cases hlj : j < l
        · have HP := Lib.hid (fun w => pair_any i j w (by omega) (by omega))
          have HO := Lib.hid (show bits .or .u64 (S36 (fun n => (decide (n / 6 < i) && decide (n % 6 < l)) || (decide (n / 6 = i) && decide (n % 6 < j))) : Nat) ((S36 fun n => n == 6 * i + j : Nat) : Int) = ((S36 (fun n => (decide (n / 6 < i) && decide (n % 6 < l)) || (decide (n / 6 = i) && decide (n % 6 < j + 1))) : Nat) : Int) by
            rw [sv_or, S36_congr fun n hn => ?_]
            rw [Bool.or_assoc]
            congr 1
            rw [Bool.eq_iff_iff]
            simp only [Bool.or_eq_true, Bool.and_eq_true, decide_eq_true_eq, beq_iff_eq]
            omega)
          go_wp2_with fail
          refine (HP.out _).mono ?_
          rintro e w' ⟨rfl, rfl⟩
          rw [sv]
          go_wp2
          go_round
          case rel => exact ⟨j + 1, by omega, by go_num, by rw [HO.out]⟩
          case measure => simp [intOf]; omega
        · have hjl : j = l := by omega
          subst hjl
          go_wp2
          go_round
          case rel => exact ⟨i + 1, by omega, by go_num, sv_eq fun n hn => by
            rw [Bool.eq_iff_iff]
            simp only [Bool.or_eq_true, Bool.and_eq_true, decide_eq_true_eq]
            omega⟩
          case measure => simp [intOf]; omega
    · have hik : i = k := by omega
      subst hik
      have HR := Lib.hid (show bits .andNot .u64 (S36 (fun n => decide (n / 6 < i) && decide (n % 6 < l)) : Nat) (S36 f : Nat) = ((S36 (fbF i l f) : Nat) : Int) from sv_not _ _)
      go_wp2
      go_ret
      exact ⟨ret_u64 HR.out, HB.out⟩

set_option maxHeartbeats 4000000 in
set_option maxRecDepth 100000 in
theorem stopped_any (k l : Nat) (f : Nat → Bool) (c : Nat → Int) (w : World) (hk : k ≤ 6) (hl : l ≤ 6) :
    Calls Try.prog 51 #[planV k l f, colV c] w fun e w' => e = .returned (sv (stF k l f c)) ∧ Below w.heap.size w w' := by
  have HB := Lib.hid (((Below.refl _ w).alloc (Nat.le_refl _) (.cells (planC k l f) 63)).alloc (by simp) (.cells (colC c) 84))
  obtain ⟨h0, h1⟩ := two_heap w (.cells (planC k l f) 63) (.cells (colC c) 84)
  obtain ⟨wa, hwa⟩ : ∃ wa, (w.alloc (.cells (planC k l f) 63)).alloc (.cells (colC c) 84) = wa := ⟨_, rfl⟩
  rw [hwa] at HB h0 h1
  rw [planC] at hwa
  have HWA := Lib.hid hwa
  have H0 := Lib.hid h0
  have H1 := Lib.hid h1
  clear hwa h0 h1
  go_enter Try.func51, Try.ntmps51
  rw [planV, planC, colV]
  go_upto_region 1 with fail
  rw [HWA.out]
  obtain ⟨c0, c1, c2⟩ := cells_of3 H0.out
  go_wp2
  go_loopw [5, 6, 7, 8, 11] (fun s _ _ _ x wr => ∃ j : Nat, j ≤ l ∧ x = .int .i64 j ∧ s = .int .u64 (S36 (fun n => decide (n % 6 < j) && stF k l f c n) : Nat) ∧ Below w.heap.size w wr ∧
    wr.heap[w.heap.size]? = some (.cells (planC k l f) 63 (0, 0)) ∧ wr.heap[w.heap.size + 1]? = some (.cells (colC c) 84 (0, 0))) (fun _ _ _ _ x _ => l - (intOf x).toNat)
  case atStart => exact ⟨0, by omega, rfl, by rw [show (S36 fun n => decide (n % 6 < 0) && stF k l f c n) = 0 from S36_eq_zero.2 fun n _ => by simp]; rfl, HB.out, H0.out, H1.out⟩
  case round =>
    obtain ⟨j, hj, rfl, rfl, hb, h0, h1⟩ := hrel
    clear HB H0 H1 c0 c1 c2
    obtain ⟨c0, c1, c2⟩ := cells_of3 h0
    have HB := Lib.hid hb
    have H0 := Lib.hid h0
    have H1 := Lib.hid h1
    clear hb h0 h1
    by_cases hlt : j < l
    · go_wp2
      go_step3
      go_wp2
      go_step3
      go_wp2
      clear c0 c1 c2
      go_loopg [5, 7, 8, 16] k (fun g s _ _ x wr => ∃ i : Nat, i + g = k ∧ x = .int .i64 i ∧ s = .int .u64 (S36 (fun n => (decide (n % 6 < j) || (decide (n % 6 = j) && decide (n / 6 < i))) && stF k l f c n) : Nat) ∧ Below w.heap.size w wr ∧
        wr.heap[w.heap.size]? = some (.cells (planC k l f) 63 (0, 0)) ∧ wr.heap[w.heap.size + 1]? = some (.cells (colC c) 84 (0, 0)))
      case atStart => exact ⟨0, by omega, rfl, sv_eq fun n hn => by simp, HB.out, H0.out, H1.out⟩
      case round =>
        obtain ⟨i, hi, rfl, rfl, hb, h0, h1⟩ := hrel
        clear HB H0 H1
        obtain ⟨c0, c1, c2⟩ := cells_of3 h0
        have HB := Lib.hid hb
        have H0 := Lib.hid h0
        have H1 := Lib.hid h1
        clear hb h0 h1
        obtain ⟨gm, rfl⟩ : ∃ x, x = gk := ⟨_, rfl⟩
        by_cases hli : i < k
        · go_wp2
          clear c0 c1 c2
          go_loopg [8, 21] k (fun g _ x wr => ∃ o : Nat, o + g = k ∧ x = .int .i64 o ∧ (∀ q, q < o → ¬ (f (6 * q + j) = true ∧ c q = c i)) ∧ Below w.heap.size w wr ∧
            wr.heap[w.heap.size]? = some (.cells (planC k l f) 63 (0, 0)) ∧ wr.heap[w.heap.size + 1]? = some (.cells (colC c) 84 (0, 0)))
          case atStart => exact ⟨0, by omega, rfl, fun q hq => absurd hq (by omega), HB.out, H0.out, H1.out⟩
          case round =>
            obtain ⟨o, ho, rfl, hg, hb, h0, h1⟩ := hrel
            clear HB H0 H1
            obtain ⟨c0, c1, c2⟩ := cells_of3 h0
            have HB := Lib.hid hb
            have H0 := Lib.hid h0
            have H1 := Lib.hid h1
            have HG := Lib.hid hg
            clear hb h0 h1 hg
            by_cases hlo : o < k
            · obtain ⟨d0, -⟩ := colC_cell H1.out (show o < 6 by omega)
              obtain ⟨d1, -⟩ := colC_cell H1.out (show i < 6 by omega)
              have HH := Lib.hid (fun w => has_any f o j w (by omega) (by omega))
              obtain ⟨fo, hfo⟩ : ∃ b, f (6 * o + j) = b := ⟨_, rfl⟩
              obtain ⟨xo, hxo⟩ : ∃ x, c o = x := ⟨_, rfl⟩
              obtain ⟨xi, hxi⟩ : ∃ x, c i = x := ⟨_, rfl⟩
              rw [hfo] at HH
              rw [hxo] at d0
              rw [hxi] at d1
              have HF := Lib.hid hfo
              have HX := Lib.hid hxo
              have HY := Lib.hid hxi
              clear hfo hxo hxi
              have hi6 : (i : Int) < 6 := by omega
              have ho6 : (o : Int) < 6 := by omega
              have hcs : (fo = true ∧ (xo == xi) = true) ∨ (fo = true ∧ (xo == xi) = false) ∨ fo = false := by
                cases fo
                · exact .inr (.inr rfl)
                · cases hq : xo == xi
                  · exact .inr (.inl ⟨rfl, rfl⟩)
                  · exact .inl ⟨rfl, rfl⟩
              rcases hcs with ⟨rfl, g1⟩ | ⟨rfl, g1⟩ | rfl
              · have HS := Lib.hid (show Value.int .u64 (S36 (fun n => (decide (n % 6 < j) || (decide (n % 6 = j) && decide (n / 6 < i))) && stF k l f c n) : Nat) = .int .u64 (S36 (fun n => (decide (n % 6 < j) || (decide (n % 6 = j) && decide (n / 6 < i + 1))) && stF k l f c n) : Nat) from sv_eq fun n hn => by
                  by_cases e : n = 6 * i + j
                  · have hp : PinF k f c (n % 6) (c (n / 6)) := ⟨o, hlo, by rw [e, show (6 * i + j) % 6 = j by omega]; exact HF.out, by rw [e, show (6 * i + j) / 6 = i by omega, HX.out, HY.out]; exact eq_of_beq g1⟩
                    rw [show stF k l f c n = false from by unfold stF; rw [decide_eq_true hp]; simp]
                    simp
                  · congr 1
                    rw [Bool.eq_iff_iff]
                    simp only [Bool.or_eq_true, Bool.and_eq_true, decide_eq_true_eq]
                    omega)
                go_wp2_with fail
                go_quiet (exact Calls.quiet_of_same (HH.out _))
                go_wp2
                go_roundg (gm - 1)
                case measure => omega
                case rel => exact ⟨i + 1, by omega, by go_num, HS.out, below_drewN HB.out _, H0.out, H1.out⟩
              · have HN := Lib.hid (show ∀ q, q < o + 1 → ¬ (f (6 * q + j) = true ∧ c q = c i) from fun q hq => by
                  by_cases e : q = o
                  · rintro ⟨-, z⟩
                    rw [e, HX.out, HY.out] at z
                    rw [z] at g1
                    simp at g1
                  · exact HG.out q (by omega))
                go_wp2_with fail
                go_quiet (exact Calls.quiet_of_same (HH.out _))
                go_wp2
                go_roundg (gk - 1)
                case measure => omega
                case rel => exact ⟨o + 1, by omega, by go_num, HN.out, below_drewN HB.out _, H0.out, H1.out⟩
              · have HN := Lib.hid (show ∀ q, q < o + 1 → ¬ (f (6 * q + j) = true ∧ c q = c i) from fun q hq => by
                  by_cases e : q = o
                  · rintro ⟨z, -⟩
                    rw [e, HF.out] at z
                    cases z
                  · exact HG.out q (by omega))
                go_wp2_with fail
                go_quiet (exact Calls.quiet_of_same (HH.out _))
                go_wp2
                go_roundg (gk - 1)
                case measure => omega
                case rel => exact ⟨o + 1, by omega, by go_num, HN.out, below_drewN HB.out _, H0.out, H1.out⟩
            · have hok : o = k := by omega
              have HP := Lib.hid (fun w => pair_any i j w (by omega) (by omega))
              have HO := Lib.hid (show bits .or .u64 (S36 (fun n => (decide (n % 6 < j) || (decide (n % 6 = j) && decide (n / 6 < i))) && stF k l f c n) : Nat) ((S36 fun n => n == 6 * i + j : Nat) : Int) = ((S36 (fun n => (decide (n % 6 < j) || (decide (n % 6 = j) && decide (n / 6 < i + 1))) && stF k l f c n) : Nat) : Int) by
                rw [sv_or, S36_congr fun n hn => ?_]
                by_cases e : n = 6 * i + j
                · have hp : ¬ PinF k f c (n % 6) (c (n / 6)) := by
                    rw [e, show (6 * i + j) % 6 = j by omega, show (6 * i + j) / 6 = i by omega]
                    rintro ⟨q, h1, h2⟩
                    exact HG.out q (by omega) h2
                  rw [show stF k l f c n = true from by unfold stF; rw [decide_eq_false hp, decide_eq_true (show n / 6 < k by omega), decide_eq_true (show n % 6 < l by omega)]; rfl]
                  rw [e, show (6 * i + j) % 6 = j by omega, show (6 * i + j) / 6 = i by omega]
                  simp
                · rw [show (n == 6 * i + j) = false from beq_eq_false_iff_ne.2 e, Bool.or_false]
                  congr 1
                  rw [Bool.eq_iff_iff]
                  simp only [Bool.or_eq_true, Bool.and_eq_true, decide_eq_true_eq]
                  omega)
              go_wp2_with fail
              refine (HP.out _).mono ?_
              rintro e w' ⟨rfl, rfl⟩
              rw [sv]
              go_wp2
              go_roundg (gm - 1)
              case measure => omega
              case rel => exact ⟨i + 1, by omega, by go_num, by rw [HO.out], HB.out, H0.out, H1.out⟩
        · have hik : i = k := by omega
          have HS := Lib.hid (show Value.int .u64 (S36 (fun n => (decide (n % 6 < j) || (decide (n % 6 = j) && decide (n / 6 < i))) && stF k l f c n) : Nat) = .int .u64 (S36 (fun n => decide (n % 6 < j + 1) && stF k l f c n) : Nat) from sv_eq fun n hn => by
            by_cases e : n / 6 < k
            · congr 1
              rw [Bool.eq_iff_iff]
              simp only [Bool.or_eq_true, Bool.and_eq_true, decide_eq_true_eq]
              omega
            · rw [show stF k l f c n = false from by unfold stF; rw [decide_eq_false e]; rfl]
              simp)
          go_wp2
          simp only [Exit.noGoto]
          go_wp2
          go_roundw
          case rel => exact ⟨j + 1, by omega, by go_num, HS.out, HB.out, H0.out, H1.out⟩
          case measure => simp [intOf]; omega
    · have hjl : j = l := by omega
      subst hjl
      have HS := Lib.hid (show sv (fun n => decide (n % 6 < j) && stF k j f c n) = sv (stF k j f c) from sv_congr fun n hn => by
        by_cases e : n % 6 < j
        · simp [e]
        · unfold stF
          simp [e])
      go_wp2
      go_ret
      exact ⟨(congrArg Ending.returned HS.out), HB.out⟩

end Go.Proofs.Ytjibdolhipddbaa
