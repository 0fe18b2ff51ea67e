/- The reference's Descendant. -/
import Derived.Test.YtaphmjccdokiiaaUa
import Derived.Test.YtaphmjccdokiiaaO
import Derived.Test.YtaphmjccdokiiaaV
namespace Go.Proofs.Ytaphmjccdokiiaa
open Go.RowKit

/-- Some of the first j numbers is from, or marked. -/
def hit (xs : List Int) (fr : Nat) (f : Nat → Bool) (j : Nat) : Bool := decide (∃ t, t < j ∧ (nth xs t = (fr : Int) ∨ f (nth xs t).toNat = true))
theorem hit_succ {xs : List Int} {fr : Nat} {f : Nat → Bool} {j q : Nat} (h : nth xs j = q) : hit xs fr f (j + 1) = (hit xs fr f j || (decide (q = fr) || f q)) := by
  unfold hit
  rw [Bool.eq_iff_iff]
  simp only [decide_eq_true_eq, Bool.or_eq_true]
  constructor
  · rintro ⟨t, ht, e⟩
    by_cases htj : t = j
    · subst htj
      rw [h] at e
      rcases e with e | e
      · exact .inr (.inl (by omega))
      · exact .inr (.inr (by simpa using e))
    · exact .inl ⟨t, by omega, e⟩
  · rintro (⟨t, ht, e⟩ | e | e)
    · exact ⟨t, by omega, e⟩
    · exact ⟨j, by omega, .inl (by rw [h, e])⟩
    · exact ⟨j, by omega, .inr (by rw [h]; simpa using e)⟩
theorem hit_zero (xs : List Int) (fr : Nat) (f : Nat → Bool) : hit xs fr f 0 = false := decide_eq_false (fun ⟨t, h, _⟩ => absurd h (by omega))

/-- What has been seen when k variables behind fr have been passed. -/
def dTo (P : List (List Int)) (fr : Nat) : Nat → Nat → Bool
  | 0 => fun _ => false
  | k + 1 => fun v => if v = fr + 1 + k then hit (row P v) fr (dTo P fr k) (row P v).length else dTo P fr k v
def desc (P : List (List Int)) (fr to : Nat) : Bool := dTo P fr (P.length - (fr + 1)) to

theorem dTo_new {P : List (List Int)} {fr k v : Nat} (h : fr + 1 + k ≤ v) : dTo P fr k v = false := by
  induction k with
  | zero => rfl
  | succ k ih => simp only [dTo]; rw [if_neg (by omega)]; exact ih (by omega)
theorem dTo_old {P : List (List Int)} {fr v : Nat} (h : v ≤ fr) (k : Nat) : dTo P fr k v = false := by
  induction k with
  | zero => rfl
  | succ k ih => simp only [dTo]; rw [if_neg (by omega)]; exact ih

theorem Try.info4 : (Try.prog.info? 4).map (fun i => (i.zero, i.size, i.bytes)) = some (some (.bool false), 1, 1) := by kernel_rfl

set_option maxHeartbeats 2000000 in
set_option maxRecDepth 100000 in
theorem descendant_any (P T : List (List Int)) (v : Value) (fr to : Nat) (w : World) (h : NetAt w v P T) (hn : IsNet P T) (hf : fr < P.length) (ht : to < P.length) :
    Calls Try.prog 44 #[v, .int .i64 fr, .int .i64 to] w fun e w' => e = .returned (.bool (desc P fr to)) ∧ Below w.heap.size w w' := by
  obtain ⟨pa, b, o, pc, A, B, O, C, ta, b', o', tc, A', B', O', C', rfl, hP, hT⟩ := h.ex
  have h10 := hn.le
  have HN := Lib.hid hn
  obtain ⟨rfl, -⟩ := hP.ptr (by omega)
  have HP := Lib.hid hP
  clear h hP hT hn
  have hmk := run_make_row' (P := Try.prog) 110 4 (.bool false) 1 Try.underlying110 Try.info4 rfl .i64 .i64 P.length (by omega) (by omega)
  go_enter Try.func44, Try.ntmps44
  go_wp2
  clear hmk
  go_loopw [8, 9, 10] (fun i _ _ wr => ∃ k : Nat, fr + 1 + k ≤ P.length ∧ i = .int .i64 ((fr : Int) + 1 + k) ∧ Below (w.heap.size + 1) (w.alloc (.cells #[.slice (some ⟨b, o, none⟩) P.length pc, .slice ta T.length tc] 24)) wr ∧
      wr.rowIs (w.heap.size + 1) 4 P.length (fun v => .bool (dTo P fr k v))) (fun i _ _ _ => P.length - (intOf i).toNat)
  case atStart =>
    refine ⟨0, by omega, by simp, (Below.refl _ _).alloc (by simp) _, ?_⟩
    have := World.rowIs_made (w.alloc (.cells #[.slice (some ⟨b, o, none⟩) P.length pc, .slice ta T.length tc] 24)) (.bool false) P.length 4
    rw [World.size_alloc] at this
    exact this
  case round =>
    obtain ⟨k, hk, rfl, hb, hr⟩ := hrel
    have HB := Lib.hid hb
    have HR := Lib.hid hr
    obtain ⟨x0, x1⟩ := box2 hb
    obtain ⟨f, hfe⟩ : ∃ f, dTo P fr k = f := ⟨_, rfl⟩
    have HF := Lib.hid hfe
    obtain ⟨s, hs⟩ : ∃ s : Nat, fr + 1 + k = s := ⟨_, rfl⟩
    have HS := Lib.hid hs
    have hsi : ((fr : Int) + 1 + k) = (s : Int) := by omega
    rw [hsi]
    rw [hs] at hk
    have hfs : fr < s := by omega
    clear hb hr hfe hs hsi
    by_cases hlt : s < P.length
    · have hP' := (HP.out.alloc (.cells #[.slice (some ⟨b, o, none⟩) P.length pc, .slice ta T.length tc] 24)).below HB.out (by simp)
      have hck := hP'.cell s hlt
      have HrP := Lib.hid (hP'.rows s hlt)
      have hl3 := (HN.out.par s hlt).1
      have HOK := Lib.hid (HN.out.par s hlt)
      have hfs0 := Lib.hid (show f s = false by rw [← HF.out]; exact dTo_new (by have := HS.out; omega))
      have HR0 := Lib.hid (show wr.rowIs (w.heap.size + 1) 4 P.length (fun v => if v = s then .bool (hit (row P s) fr f 0) else .bool (f v)) from HR.out.congr (fun j hj => by
        by_cases e : j = s
        · rw [if_pos e, hit_zero, HF.out, e, hfs0.out]
        · rw [if_neg e, HF.out]))
      clear hP' HR
      go_wp2
      go_loopw [9, 10] (fun i _ wi => ∃ j : Nat, j ≤ (row P s).length ∧ i = .int .i64 j ∧ Below (w.heap.size + 1) (w.alloc (.cells #[.slice (some ⟨b, o, none⟩) P.length pc, .slice ta T.length tc] 24)) wi ∧
          wi.rowIs (w.heap.size + 1) 4 P.length (fun v => if v = s then .bool (hit (row P s) fr f j) else .bool (f v))) (fun i _ _ => (row P s).length - (intOf i).toNat)
      case atStart => exact ⟨0, by omega, rfl, HB.out, HR0.out⟩
      case round =>
        clear HR0 HB hck HrP x0 x1
        obtain ⟨j, hj, rfl, hb, hr⟩ := hrel
        have HB := Lib.hid hb
        have HR := Lib.hid hr
        obtain ⟨x0, x1⟩ := box2 hb
        have hP' := (HP.out.alloc (.cells #[.slice (some ⟨b, o, none⟩) P.length pc, .slice ta T.length tc] 24)).below hb (by simp)
        have hck := hP'.cell s hlt
        have HrP := Lib.hid (hP'.rows s hlt)
        clear hb hr hP'
        by_cases hjl : j < (row P s).length
        · obtain ⟨hAk, -⟩ := HrP.out.ptr (by omega)
          rw [hAk] at hck
          have hcj := HrP.out.cell j hjl
          have hpj := HOK.out.2.1 j hjl
          obtain ⟨q, hq⟩ : ∃ q : Nat, nth (row P s) j = (q : Int) := ⟨(nth (row P s) j).toNat, by omega⟩
          have hqs : q < s := by omega
          have HH := Lib.hid (hit_succ (fr := fr) (f := f) hq)
          rw [hq] at hcj
          have c1 := HR.out.cell hlt
          rw [if_pos rfl] at c1
          have c2 := HR.out.cell (i := q) (by omega)
          rw [if_neg (by omega)] at c2
          have f1 := HR.out.frozen s
          have hqP : q < P.length := by omega
          obtain ⟨hv, hhv⟩ : ∃ hv, hit (row P s) fr f j = hv := ⟨_, rfl⟩
          obtain ⟨fq, hfq⟩ : ∃ fq, f q = fq := ⟨_, rfl⟩
          rw [hhv] at c1
          rw [hfq] at c2
          have HE := Lib.hid (show hit (row P s) fr f (j + 1) = (hv || (decide (q = fr) || fq)) by rw [HH.out, hhv, hfq])
          clear hAk hq hpj hhv hfq
          have hfin : ∀ x : Bool, x = (hv || (decide (q = fr) || fq)) → (∃ j' : Nat, j' ≤ (row P s).length ∧ Value.int .i64 (((j : Nat) : Int) + 1) = .int .i64 (j' : Int) ∧ Below (w.heap.size + 1) (w.alloc (.cells #[.slice (some ⟨b, o, none⟩) P.length pc, .slice ta T.length tc] 24)) (wr.setCell ⟨w.heap.size + 1, s, none⟩ (.bool x)) ∧
              (wr.setCell ⟨w.heap.size + 1, s, none⟩ (.bool x)).rowIs (w.heap.size + 1) 4 P.length (fun v => if v = s then .bool (hit (row P s) fr f j') else .bool (f v))) := fun x hx =>
            ⟨j + 1, by omega, by go_num, HB.out.setCell (Nat.le_refl _) _, (HR.out.set s _).congr (fun i hi => by
              by_cases e : i = s
              · rw [if_pos e, if_pos e, hx, HE.out]
              · rw [if_neg e, if_neg e, if_neg e])⟩
          have HFIN := Lib.hid hfin
          clear hfin
          cases hv
          · by_cases e2 : q = fr
            · have t2 : ((q : Int) == (fr : Int)) = true := by rw [beq_iff_eq]; omega
              have HD := Lib.hid (decide_eq_true e2)
              clear e2
              go_wp2
              go_roundw
              case rel => exact HFIN.out _ (by rw [HD.out]; rfl)
              case measure => simp [intOf]; omega
            · have t2 : ((q : Int) == (fr : Int)) = false := by rw [beq_eq_false_iff_ne]; omega
              have HD := Lib.hid (decide_eq_false e2)
              clear e2
              cases fq
              · go_wp2
                go_roundw
                case rel => exact HFIN.out _ (by rw [HD.out]; rfl)
                case measure => simp [intOf]; omega
              · go_wp2
                go_roundw
                case rel => exact HFIN.out _ (by rw [HD.out]; rfl)
                case measure => simp [intOf]; omega
          · go_wp2
            go_roundw
            case rel => exact HFIN.out _ (by simp)
            case measure => simp [intOf]; omega
        · have hje : j = (row P s).length := by omega
          have HJ := Lib.hid hje
          clear hje
          go_wp2
          go_roundw
          case rel =>
            refine ⟨k + 1, by have := HS.out; omega, congrArg _ (by have := HS.out; omega), HB.out, HR.out.congr (fun i hi => ?_)⟩
            simp only [dTo, HS.out, HF.out]
            by_cases e : i = s
            · rw [if_pos e, if_pos e, e, HJ.out]
            · rw [if_neg e, if_neg e]
          case measure => simp [intOf]; omega
    · have hks : k = P.length - (fr + 1) := by have := HS.out; omega
      have hc := HR.out.cell ht
      have HD := Lib.hid (show desc P fr to = dTo P fr k to by rw [desc, ← hks])
      clear hks
      go_wp2
      go_ret
      exact ⟨ret_bool HD.out.symm, ((Below.refl _ _).alloc (Nat.le_refl _) _).trans (HB.out.mono (by omega))⟩

end Go.Proofs.Ytaphmjccdokiiaa
