/- The program's equationsOf. -/
import Derived.Test.YthnkmmjelpdamaaB3
import Derived.RegionTactic
import Derived.BigRegion
namespace Go.Proofs.Ythnkmmjelpdamaa
open Go.RowKit

/-- The cells of 42 numbers. -/
def eqC (f : Nat → Int) : Array Value := ofN 42 fun i => .int .i64 (f i)
theorem eqC_all (f : Nat → Int) : (eqC f).all (·.oneCell') = true := ofN_one fun _ => rfl
theorem eqC_size (f : Nat → Int) : (eqC f).size = 42 := ofN_size _ _
theorem info_eqC (f : Nat → Int) : (Try.prog.info? 89).map (·.size) = some (eqC f).size := by unfold eqC; rw [ofN_size]; kernel_rfl
def updI (f : Nat → Int) (k : Nat) (x : Int) : Nat → Int := fun i => if i = k then x else f i
theorem eqC_set {w : World} {g : Nat} {f : Nat → Int} {T : TypeId} (h : w.heap[g]? = some (.cells (eqC f) T (0, 0))) {k : Nat} (hk : k < 42) (x : Int) : (w.setCell ⟨g, k, none⟩ (.int .i64 x)).heap[g]? = some (.cells (eqC (updI f k x)) T (0, 0)) := by
  rw [set_ofN h hk]
  refine congrArg (fun z => some (Obj.cells z T (0, 0))) (ofN_congr fun i _ => ?_)
  unfold updI
  split <;> rfl

/-- The equations, as they are written. -/
def eI : Nat → Nat → Int
  | 0 => fun _ => 0
  | k + 1 => updI (eI k) (k * 7 + k) 1
def eT (xs : List Int) (s : Nat) (f : Nat → Int) : Nat → Nat → Int
  | 0 => f
  | t + 1 => updI (eT xs s f t) (s * 7 + t) (eT xs s f t (s * 7 + t) - nth xs t)
def eS (N : List (List Int)) (P C : List Int) (r : Nat → Bool) : Nat → Nat → Int
  | 0 => eI 6
  | s + 1 => if r s = true then updI (eS N P C r s) (s * 7 + 6) (nth P s) else updI (eT (row N s) s (updI (eS N P C r s) (s * 7 + s) 4) (row N s).length) (s * 7 + 6) (-4 * nth C s)
def eqF (N : List (List Int)) (P C : List Int) (r : Nat → Bool) : Nat → Int := eS N P C r N.length

theorem updI_bd {f : Nat → Int} {k : Nat} {x B : Int} (h : ∀ i, -B ≤ f i ∧ f i ≤ B) (hx : -B ≤ x ∧ x ≤ B) (i : Nat) : -B ≤ updI f k x i ∧ updI f k x i ≤ B := by
  unfold updI; split
  · exact hx
  · exact h i
theorem eI_bd (k i : Nat) : -1 ≤ eI k i ∧ eI k i ≤ 1 := by
  induction k with
  | zero => simp [eI]
  | succ k ih =>
    unfold eI updI
    split
    · omega
    · exact ih
theorem eT_at {xs : List Int} {s : Nat} {f : Nat → Int} (t i : Nat) : eT xs s f t i = f i ∨ ∃ j, j < t ∧ i = s * 7 + j ∧ eT xs s f t i = f i - nth xs j := by
  induction t with
  | zero => exact .inl rfl
  | succ t ih =>
    unfold eT updI
    split
    · rename_i e
      subst e
      rcases ih with h | ⟨j, hj, e2, _⟩
      · right; exact ⟨t, by omega, rfl, by rw [h]⟩
      · omega
    · rcases ih with h | ⟨j, hj, e2, h⟩
      · exact .inl h
      · exact .inr ⟨j, by omega, e2, h⟩
theorem eT_bd {xs : List Int} {s : Nat} {f : Nat → Int} {B : Int} (h : ∀ i, -B ≤ f i ∧ f i ≤ B) {t : Nat} (hx : ∀ j, j < t → 0 ≤ nth xs j ∧ nth xs j ≤ 4) (i : Nat) : -(B + 4) ≤ eT xs s f t i ∧ eT xs s f t i ≤ B + 4 := by
  have h1 := h i
  rcases eT_at (xs := xs) (s := s) (f := f) t i with e | ⟨j, hj, -, e⟩
  · rw [e]; omega
  · rw [e]; have := hx j hj; omega
theorem eS_bd {N : List (List Int)} {P C : List Int} (hc : IsChain N P C) (r : Nat → Bool) (k : Nat) (hk : k ≤ N.length) : ∀ i, -(1000 + 4 * (k : Int)) ≤ eS N P C r k i ∧ eS N P C r k i ≤ 1000 + 4 * (k : Int) := by
  induction k with
  | zero => intro i; have := eI_bd 6 i; simp only [eS]; omega
  | succ k ih =>
    intro i
    have ih := ih (by omega)
    have hp := hc.payOk k (by omega)
    have hq := hc.costOk k (by omega)
    have ho := hc.next k (by omega)
    simp only [eS]
    split
    · have := updI_bd (k := k * 7 + 6) (x := nth P k) ih (by omega) i
      omega
    · have h1 := eT_bd (xs := row N k) (s := k) (t := (row N k).length) (updI_bd (k := k * 7 + k) (x := 4) ih (by omega)) ho.2.1
      have := updI_bd (k := k * 7 + 6) (x := -4 * nth C k) h1 (by omega) i
      omega

set_option maxHeartbeats 8000000 in
set_option maxRecDepth 100000 in
theorem equationsOf_any (N : List (List Int)) (P C : List Int) (v : Value) (r : Nat → Bool) (w : World) (h : ChainAt w v N P C) (hc : IsChain N P C) :
    Calls Try.prog 56 #[v, .agg (bo r)] w fun e w' => e = .returned (.agg (eqC (eqF N P C r))) ∧ Below w.heap.size w w' := by
  obtain ⟨na, nb, no, nc, A, B, O, D, pa, pb, po, pc, ca, cb, co, cc, rfl, hN, hP, hC⟩ := h.ex
  have hn6 := hc.le
  have HCH := Lib.hid hc
  obtain ⟨wa, hwa⟩ : ∃ wa, (w.alloc (.cells #[.slice na N.length nc, .slice pa P.length pc, .slice ca C.length cc] 25)).alloc (.cells (bo r) 83) = wa := ⟨_, rfl⟩
  have hsz : wa.heap.size = w.heap.size + 2 := by rw [← hwa]; simp
  have HBW : Hid (Below w.heap.size w wa) := by rw [← hwa]; exact ((Below.refl _ _).alloc (Nat.le_refl _) _).alloc (by simp) _
  have HN : Hid (RowsAt wa na nb no N A B O D) := hN.below HBW.out (Nat.le_refl _)
  have HP : Hid (IntsAt wa pa pb po P) := hP.below HBW.out (Nat.le_refl _)
  have HC : Hid (IntsAt wa ca cb co C) := hC.below HBW.out (Nat.le_refl _)
  have HB0 : Hid (wa.heap[w.heap.size]? = some (.cells #[.slice na N.length nc, .slice pa P.length pc, .slice ca C.length cc] 25 (0, 0)) ∧ wa.heap[w.heap.size + 1]? = some (.cells (bo r) 83 (0, 0))) := by
    rw [← hwa]; exact ⟨by rw [Below.heap_alloc _ _ _ (by simp)]; exact heap_alloc_new _ _, by have := heap_alloc_new (w.alloc (.cells #[.slice na N.length nc, .slice pa P.length pc, .slice ca C.length cc] 25)) (.cells (bo r) 83); simpa using this⟩
  have HWA := Lib.hid hwa
  have HSZ := Lib.hid hsz
  clear hwa h hc hN hP hC hsz
  go_enter Try.func56, Try.ntmps56
  go_upto_region 2 with fail
  rw [HWA.out, show (#[Value.int IntKind.i64 0, Value.int IntKind.i64 0, Value.int IntKind.i64 0, Value.int IntKind.i64 0, Value.int IntKind.i64 0, Value.int IntKind.i64 0, Value.int IntKind.i64 0, Value.int IntKind.i64 0, Value.int IntKind.i64 0, Value.int IntKind.i64 0, Value.int IntKind.i64 0, Value.int IntKind.i64 0, Value.int IntKind.i64 0, Value.int IntKind.i64 0, Value.int IntKind.i64 0, Value.int IntKind.i64 0, Value.int IntKind.i64 0, Value.int IntKind.i64 0, Value.int IntKind.i64 0, Value.int IntKind.i64 0, Value.int IntKind.i64 0, Value.int IntKind.i64 0, Value.int IntKind.i64 0, Value.int IntKind.i64 0, Value.int IntKind.i64 0, Value.int IntKind.i64 0, Value.int IntKind.i64 0, Value.int IntKind.i64 0, Value.int IntKind.i64 0, Value.int IntKind.i64 0, Value.int IntKind.i64 0, Value.int IntKind.i64 0, Value.int IntKind.i64 0, Value.int IntKind.i64 0, Value.int IntKind.i64 0, Value.int IntKind.i64 0, Value.int IntKind.i64 0, Value.int IntKind.i64 0, Value.int IntKind.i64 0, Value.int IntKind.i64 0, Value.int IntKind.i64 0, Value.int IntKind.i64 0] : Array Value) = eqC (eI 0) from rfl]
  obtain ⟨G, hG⟩ : ∃ G, w.heap.size + 1 + 1 = G := ⟨_, rfl⟩
  have hga : wa.heap.size = G := by rw [HSZ.out, ← hG]
  rw [hG]
  obtain ⟨wb, hwb⟩ : ∃ wb, (wa.alloc (.cells (eqC (eI 0)) 89)).alloc (.cells (eqC (eI 0)) 89) = wb := ⟨_, rfl⟩
  have hsb : wb.heap.size = G + 2 := by rw [← hwb]; simp [hga]
  have HBA : Hid (Below G wa wb) := by rw [← hwb]; exact ((Below.refl _ _).alloc (by rw [hga]; exact Nat.le_refl _) _).alloc (by simp [hga]) _
  have HRS : Hid (wb.heap[G]? = some (.cells (eqC (eI 0)) 89 (0, 0))) := by
    rw [← hwb, Below.heap_alloc _ _ _ (by simp [hga]), ← hga]; exact heap_alloc_new _ _
  have HRE : Hid (wb.heap[G + 1]? = some (.cells (eqC (eI 0)) 89 (0, 0))) := by
    rw [← hwb]; have := heap_alloc_new (wa.alloc (.cells (eqC (eI 0)) 89)) (.cells (eqC (eI 0)) 89); rw [World.size_alloc, hga] at this; exact this
  rw [hwb]
  have HWB := Lib.hid hwb
  have HGA := Lib.hid hga
  have HGG := Lib.hid hG
  have HK := Lib.hid (show ∀ w', Below (G + 1) wb w' → (w'.cell? ⟨w.heap.size, 0, none⟩ = some (.slice na N.length nc) ∧ w'.cell? ⟨w.heap.size, 1, none⟩ = some (.slice pa P.length pc) ∧ w'.cell? ⟨w.heap.size, 2, none⟩ = some (.slice ca C.length cc)) ∧ w'.heap[w.heap.size + 1]? = some (.cells (bo r) 83 (0, 0)) ∧ w'.heap[G]? = some (.cells (eqC (eI 0)) 89 (0, 0)) ∧ Below G wa w' ∧ Below w.heap.size w w' from fun w' hb => by
    have h1 : Below G wa w' := HBA.out.trans (hb.mono (Nat.le_succ _))
    exact ⟨cells_of3 ((h1.block _ (by omega)).trans HB0.out.1), (h1.block _ (by omega)).trans HB0.out.2, (hb.block _ (by omega)).trans HRS.out, h1, HBW.out.trans (h1.mono (by omega))⟩)
  clear hwb hsb hga hG
  go_wp2
  go_loopw [6, 11] (fun _ y wr => ∃ k : Nat, k ≤ 6 ∧ y = .int .i64 k ∧ wr.heap[G + 1]? = some (.cells (eqC (eI k)) 89 (0, 0)) ∧ Below (G + 1) wb wr) (fun _ y _ => 6 - (intOf y).toNat)
  case atStart => exact ⟨0, by omega, rfl, HRE.out, Below.refl _ _⟩
  case round =>
    obtain ⟨k, hk, rfl, hr, hb⟩ := hrel
    obtain ⟨wq, rfl⟩ : ∃ x, x = wr := ⟨_, rfl⟩
    have HR := Lib.hid hr
    have HB := Lib.hid hb
    clear hr hb
    by_cases hlt : k < 6
    · obtain ⟨d0, f0⟩ := cell_ofN HR.out (show k * 7 + k < 42 by omega)
      have HV := Lib.hid (eqC_set HR.out (show k * 7 + k < 42 by omega) 1)
      go_wp2
      go_roundw
      case rel => exact ⟨k + 1, by omega, by go_num, HV.out, HB.out.setCell (p := ⟨G + 1, k * 7 + k, none⟩) (Nat.le_refl _) _⟩
      case measure => simp [intOf]; omega
    · obtain rfl : k = 6 := by omega
      obtain ⟨⟨c0, -, -⟩, -⟩ := HK.out _ HB.out
      clear hlt hk
      go_wp2
      go_loopw [7, 8, 9, 10, 22, 44] (fun _ _ _ _ y _ wr => ∃ k : Nat, k ≤ N.length ∧ y = .int .i64 k ∧ wr.heap[G + 1]? = some (.cells (eqC (eS N P C r k)) 89 (0, 0)) ∧ Below (G + 1) wb wr) (fun _ _ _ _ y _ _ => N.length - (intOf y).toNat)
      case atStart => exact ⟨0, by omega, rfl, HR.out, HB.out⟩
      case round =>
        clear c0 HR HB
        obtain ⟨s, hs, rfl, hr, hb⟩ := hrel
        obtain ⟨wq1, rfl⟩ : ∃ x, x = wr := ⟨_, rfl⟩
        have HR := Lib.hid hr
        have HB := Lib.hid hb
        clear hr hb
        by_cases hlt : s < N.length
        · obtain ⟨⟨-, c1, c2⟩, hrl, -, hba, -⟩ := HK.out _ HB.out
          have hs6 : s < 6 := by omega
          have hnq := HN.out.below hba (by rw [HGA.out]; exact Nat.le_refl _)
          have hpq := HP.out.below hba (by rw [HGA.out]; exact Nat.le_refl _)
          have hcq := HC.out.below hba (by rw [HGA.out]; exact Nat.le_refl _)
          have hpl : s < P.length := by rw [HCH.out.pay]; exact hlt
          have hcl : s < C.length := by rw [HCH.out.cost]; exact hlt
          obtain ⟨rfl, -⟩ := hnq.ptr (by omega)
          obtain ⟨rfl, -⟩ := hpq.ptr (by omega)
          obtain ⟨rfl, -⟩ := hcq.ptr (by omega)
          have r0 := hnq.cell s hlt
          obtain ⟨d1, f1⟩ := cell_ofN hrl hs6
          have hok := HCH.out.next s hlt
          have hrl6 : (row N s).length ≤ 6 := by have := hok.1; omega
          have HOK := Lib.hid hok
          have HRW := Lib.hid (HN.out.rows s hlt)
          obtain ⟨fs, hfs⟩ : ∃ fs, eS N P C r s = fs := ⟨_, rfl⟩
          have HBD := Lib.hid (show ∀ i, -1024 ≤ fs i ∧ fs i ≤ 1024 from fun i => by rw [← hfs]; have := eS_bd HCH.out r s hs i; omega)
          have HV := Lib.hid (show eS N P C r (s + 1) = if r s = true then updI fs (s * 7 + 6) (nth P s) else updI (eT (row N s) s (updI fs (s * 7 + s) 4) (row N s).length) (s * 7 + 6) (-4 * nth C s) by rw [eS, hfs])
          rw [hfs] at HR
          obtain ⟨b, hb⟩ : ∃ b, r s = b := ⟨_, rfl⟩
          rw [hb] at d1
          have HBB := Lib.hid hb
          clear hfs hb hrl hok
          cases b
          · have HCQ := Lib.hid hcq
            have HC2 := Lib.hid c2
            obtain ⟨d0, f0⟩ := cell_ofN HR.out (show s * 7 + s < 42 by omega)
            have HX := Lib.hid (eqC_set HR.out (show s * 7 + s < 42 by omega) 4)
            have HXB := Lib.hid (HB.out.setCell (p := ⟨G + 1, s * 7 + s, none⟩) (Nat.le_refl _) (.int .i64 4))
            clear hnq hpq hcq hba c1 c2
            go_wp2
            obtain ⟨wx, hwx⟩ : ∃ wx, wq1.setCell ⟨G + 1, s * 7 + s, none⟩ (.int .i64 4) = wx := ⟨_, rfl⟩
            rw [hwx] at HX HXB
            rw [hwx]
            clear hwx d0 f0 r0 d1 f1
            go_loopw [9, 10, 44] (fun _ _ y wr => ∃ k : Nat, k ≤ (row N s).length ∧ y = .int .i64 k ∧ wr.heap[G + 1]? = some (.cells (eqC (eT (row N s) s (updI fs (s * 7 + s) 4) k)) 89 (0, 0)) ∧ Below (G + 1) wb wr) (fun _ _ y _ => (row N s).length - (intOf y).toNat)
            case atStart => exact ⟨0, by omega, rfl, HX.out, HXB.out⟩
            case round =>
              clear HX HXB HR HB
              obtain ⟨t, ht, rfl, hr, hb⟩ := hrel
              obtain ⟨wq3, rfl⟩ : ∃ x, x = wr := ⟨_, rfl⟩
              have HR := Lib.hid hr
              have HB := Lib.hid hb
              clear hr hb
              have HBD2 := Lib.hid (fun i => eT_bd (xs := row N s) (s := s) (t := t) (updI_bd (k := s * 7 + s) (x := 4) HBD.out (by omega)) (fun j hj => HOK.out.2.1 j (by omega)) i)
              by_cases hlt3 : t < (row N s).length
              · have ht6 : t < 6 := by omega
                obtain ⟨-, -, -, hba, -⟩ := HK.out _ HB.out
                have hrw := HRW.out.below hba (by rw [HGA.out]; exact Nat.le_refl _)
                obtain ⟨hA, -⟩ := hrw.ptr (by omega)
                have e0 := hrw.cell t hlt3
                obtain ⟨d0, g0⟩ := cell_ofN HR.out (show s * 7 + t < 42 by omega)
                obtain ⟨x, hx⟩ : ∃ x, nth (row N s) t = x := ⟨_, rfl⟩
                have hxb := HOK.out.2.1 t hlt3
                obtain ⟨z, hz⟩ : ∃ z, eT (row N s) s (updI fs (s * 7 + s) 4) t (s * 7 + t) = z := ⟨_, rfl⟩
                have hzb := HBD2.out (s * 7 + t)
                rw [hz] at d0 hzb
                rw [hx] at e0 hxb
                have HST := Lib.hid (show (wq3.setCell ⟨G + 1, s * 7 + t, none⟩ (.int .i64 (z - x))).heap[G + 1]? = some (.cells (eqC (eT (row N s) s (updI fs (s * 7 + s) 4) (t + 1))) 89 (0, 0)) by
                  rw [eT, hz, hx]; exact eqC_set HR.out (by omega) _)
                rw [hA]
                clear hx hz hrw hA hba
                go_wp2
                go_region
                go_wp2
                go_roundw
                case rel => exact ⟨t + 1, by omega, by go_num, HST.out, (HB.out.setCell (p := ⟨G + 1, s * 7 + t, none⟩) (Nat.le_refl _) _).drew⟩
                case measure => simp [intOf]; omega
              · obtain rfl : t = (row N s).length := by omega
                obtain ⟨⟨-, -, c2⟩, -, -, hba, -⟩ := HK.out _ HB.out
                have hcq := HC.out.below hba (by rw [HGA.out]; exact Nat.le_refl _)
                obtain ⟨p, hp⟩ : ∃ p, nth C s = p := ⟨_, rfl⟩
                have p0 := hcq.cell s hcl
                have hpb := HCH.out.costOk s hlt
                rw [hp] at p0 hpb
                obtain ⟨d0, f0⟩ := cell_ofN HR.out (show s * 7 + 6 < 42 by omega)
                have HX := Lib.hid (show (wq3.setCell ⟨G + 1, s * 7 + 6, none⟩ (.int .i64 (-4 * p))).heap[G + 1]? = some (.cells (eqC (eS N P C r (s + 1))) 89 (0, 0)) by
                  rw [HV.out, if_neg (by rw [HBB.out]; exact Bool.false_ne_true), hp]; exact eqC_set HR.out (by omega) _)
                clear hcq hba hp hlt3
                go_wp2
                go_region
                go_wp2
                go_roundw
                case rel => exact ⟨s + 1, by omega, by go_num, HX.out, (HB.out.setCell (p := ⟨G + 1, s * 7 + 6, none⟩) (Nat.le_refl _) _).drew⟩
                case measure => simp [intOf]; omega
          · obtain ⟨p, hp⟩ : ∃ p, nth P s = p := ⟨_, rfl⟩
            have p0 := hpq.cell s hpl
            rw [hp] at p0
            obtain ⟨d0, f0⟩ := cell_ofN HR.out (show s * 7 + 6 < 42 by omega)
            have HX := Lib.hid (show (wq1.setCell ⟨G + 1, s * 7 + 6, none⟩ (.int .i64 p)).heap[G + 1]? = some (.cells (eqC (eS N P C r (s + 1))) 89 (0, 0)) by
              rw [HV.out, if_pos HBB.out, hp]; exact eqC_set HR.out (by omega) _)
            clear hnq hpq hcq hba hp c2
            go_wp2
            go_region
            go_wp2
            go_roundw
            case rel => exact ⟨s + 1, by omega, by go_num, HX.out, (HB.out.setCell (p := ⟨G + 1, s * 7 + 6, none⟩) (Nat.le_refl _) _).drew⟩
            case measure => simp [intOf]; omega
        · obtain rfl : s = N.length := by omega
          obtain ⟨-, -, h5, -, hbz⟩ := HK.out _ HB.out
          have H5 := Lib.hid h5
          have HBZ := Lib.hid hbz
          clear h5 hbz
          obtain ⟨f, hf⟩ : ∃ f, eS N P C r N.length = f := ⟨_, rfl⟩
          have HF := Lib.hid (show eqF N P C r = f from hf)
          rw [hf] at HR
          clear hf
          have hst := Lib.hid (setRow_heap wq1 G _ (eqC f) _ _ H5.out)
          go_wp2_with (first
            | (refine wpList_load_row rfl 89 (.tmp 5) rfl (G + 1) rfl 89 _ _ _ HR.out Try.underlying89 rfl (info_eqC _) ?_)
            | (refine wpList_store_row rfl 89 (.tmp 4) (.tmp 69) rfl G (eqC f) rfl rfl 89 _ H5.out (info_eqC _) (by rw [eqC_size, eqC_size]) (eqC_all _) ?_))
          refine bodyPost_ret (v := .agg (eqC f)) ?_ rfl ⟨by rw [HF.out], below_setRow HBZ.out (by rw [← HGG.out]; omega) _⟩
          simp [results, Try.results56, Result.andThen, asAddr, Act.put, run_loadVar_row _ G _ _ _ _ _ hst.out Try.underlying89 rfl (info_eqC _)]

end Go.Proofs.Ythnkmmjelpdamaa
