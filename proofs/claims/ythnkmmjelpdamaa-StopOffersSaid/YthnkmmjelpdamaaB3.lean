/- Arrays whose cells are known by a function; the program's isSound. -/
import Derived.Test.YthnkmmjelpdamaaB2
import Derived.Laws.CopyOwn
import Derived.Great.BuildSlice
namespace Go.Proofs.Ythnkmmjelpdamaa
open Go.RowKit

/-- The cells of an array. -/
def ofN (n : Nat) (f : Nat → Value) : Array Value := ((List.range n).map f).toArray
theorem ofN_size (n : Nat) (f : Nat → Value) : (ofN n f).size = n := by simp [ofN]
theorem ofN_get {n : Nat} (f : Nat → Value) {k : Nat} (h : k < n) : (ofN n f)[k]? = some (f k) := by simp [ofN, h]
theorem ofN_congr {n : Nat} {f g : Nat → Value} (h : ∀ k, k < n → f k = g k) : ofN n f = ofN n g := by
  unfold ofN
  rw [List.map_congr_left fun k hk => h k (List.mem_range.1 hk)]
theorem ofN_set {n : Nat} (f : Nat → Value) {k : Nat} (v : Value) (h : k < n) : (ofN n f).setIfInBounds k v = ofN n fun i => if i = k then v else f i := by
  refine Array.ext_getElem? fun i => ?_
  rw [Array.getElem?_setIfInBounds]
  by_cases hi : i < n
  · rw [ofN_get _ hi, ofN_get _ hi]
    by_cases e : k = i
    · subst e; rw [if_pos rfl, if_pos (by rw [ofN_size]; exact h), if_pos rfl]
    · rw [if_neg e, if_neg (fun q => e q.symm)]
  · rw [if_neg (by omega), Array.getElem?_eq_none (by rw [ofN_size]; omega), Array.getElem?_eq_none (by rw [ofN_size]; omega)]
theorem ofN_one {n : Nat} {f : Nat → Value} (h : ∀ k, (f k).oneCell' = true) : (ofN n f).all (·.oneCell') = true := by
  simp [ofN, h]

/-- A cell of a block that is such an array. -/
theorem cell_ofN {w : World} {g n : Nat} {f : Nat → Value} {T : TypeId} (h : w.heap[g]? = some (.cells (ofN n f) T (0, 0))) {k : Nat} (hk : k < n) : w.cell? ⟨g, k, none⟩ = some (f k) ∧ w.frozen? ⟨g, k, none⟩ = false :=
  ⟨by rw [cell_of_row _ _ _ _ _ _ h]; exact ofN_get f hk, frozen_of_row _ _ _ _ _ h⟩
theorem set_ofN {w : World} {g n : Nat} {f : Nat → Value} {T : TypeId} (h : w.heap[g]? = some (.cells (ofN n f) T (0, 0))) {k : Nat} (hk : k < n) (v : Value) : (w.setCell ⟨g, k, none⟩ v).heap[g]? = some (.cells (ofN n fun i => if i = k then v else f i) T (0, 0)) := by
  rw [heap_setCell_same _ _ _ _ _ _ h, ofN_set f v hk]

/-- The cells of six Booleans. -/
def bo (f : Nat → Bool) : Array Value := ofN 6 fun i => .bool (f i)
theorem bo_all (f : Nat → Bool) : (bo f).all (·.oneCell') = true := ofN_one fun _ => rfl
theorem bo_size (f : Nat → Bool) : (bo f).size = 6 := ofN_size _ _
theorem info_bo (f : Nat → Bool) : (Try.prog.info? 83).map (·.size) = some (bo f).size := by unfold bo; rw [ofN_size]; kernel_rfl
def upd (f : Nat → Bool) (k : Nat) (b : Bool) : Nat → Bool := fun i => if i = k then b else f i
theorem bo_set {w : World} {g : Nat} {f : Nat → Bool} {T : TypeId} (h : w.heap[g]? = some (.cells (bo f) T (0, 0))) {k : Nat} (hk : k < 6) (b : Bool) : (w.setCell ⟨g, k, none⟩ (.bool b)).heap[g]? = some (.cells (bo (upd f k b)) T (0, 0)) := by
  rw [set_ofN h hk]
  refine congrArg (fun x => some (Obj.cells x T (0, 0))) (ofN_congr fun i _ => ?_)
  unfold upd
  split <;> rfl

/-- What isSound computes. -/
def snd1 (N : List (List Int)) (r : Nat → Bool) : Nat → Nat → Bool
  | 0 => r
  | k + 1 => upd (snd1 N r k) k (snd1 N r k k || decide (sumL (row N k) < 4))
def stT (N : List (List Int)) (s : Nat) (f : Nat → Bool) : Nat → Nat → Bool
  | 0 => f
  | t + 1 => upd (stT N s f t) s (stT N s f t s || (decide (0 < nth (row N s) t) && stT N s f t t))
def stS (N : List (List Int)) (f : Nat → Bool) : Nat → Nat → Bool
  | 0 => f
  | s + 1 => stT N s (stS N f s) (row N s).length
def stR (N : List (List Int)) (f : Nat → Bool) : Nat → Nat → Bool
  | 0 => f
  | k + 1 => stS N (stR N f k) N.length
def soundF (N : List (List Int)) (r : Nat → Bool) : Nat → Bool := stR N (snd1 N r N.length) N.length
def soundB (N : List (List Int)) (r : Nat → Bool) : Bool := decide (∀ s, s < N.length → soundF N r s = true)

set_option maxHeartbeats 8000000 in
set_option maxRecDepth 100000 in
theorem isSound_any (N : List (List Int)) (P C : List Int) (v : Value) (r : Nat → Bool) (w : World) (h : ChainAt w v N P C) (hc : IsChain N P C) :
    Calls Try.prog 55 #[v, .agg (bo r)] w fun e w' => e = .returned (.bool (soundB N r)) ∧ Below w.heap.size w w' := by
  obtain ⟨na, nb, no, nc, A, B, O, D, pa, pb, po, pc, ca, cb, co, cc, rfl, hN, hP, hC⟩ := h.ex
  have hn6 := hc.le
  have HCH := Lib.hid hc
  obtain ⟨wa, hwa⟩ : ∃ wa, (w.alloc (.cells #[.slice na N.length nc, .slice pa P.length pc, .slice ca C.length cc] 25)).alloc (.cells (bo r) 83) = wa := ⟨_, rfl⟩
  have hsz : wa.heap.size = w.heap.size + 2 := by rw [← hwa]; simp
  have HBW : Hid (Below w.heap.size w wa) := by rw [← hwa]; exact ((Below.refl _ _).alloc (Nat.le_refl _) _).alloc (by simp) _
  have HN : Hid (RowsAt wa na nb no N A B O D) := hN.below HBW.out (Nat.le_refl _)
  have HB0 : Hid (wa.heap[w.heap.size]? = some (.cells #[.slice na N.length nc, .slice pa P.length pc, .slice ca C.length cc] 25 (0, 0)) ∧ wa.heap[w.heap.size + 1]? = some (.cells (bo r) 83 (0, 0))) := by
    rw [← hwa]; exact ⟨by rw [Below.heap_alloc _ _ _ (by simp)]; exact heap_alloc_new _ _, by have := heap_alloc_new (w.alloc (.cells #[.slice na N.length nc, .slice pa P.length pc, .slice ca C.length cc] 25)) (.cells (bo r) 83); simpa using this⟩
  have HWA := Lib.hid hwa
  have HSZ := Lib.hid hsz
  have HK := Lib.hid (show ∀ w', Below wa.heap.size wa w' → w'.cell? ⟨w.heap.size, 0, none⟩ = some (.slice na N.length nc) from fun w' hb => (cells_of3 ((hb.block _ (by omega)).trans HB0.out.1)).1)
  clear hwa h hc hN hP hC hsz
  go_enter Try.func55, Try.ntmps55
  go_upto_region 1 with fail
  rw [HWA.out]
  go_upto_region 2 with (first
    | (refine wpList_load_row rfl 83 (.tmp 3) rfl (w.heap.size + 1) rfl 83 _ _ _ HB0.out.2 Try.underlying83 rfl (info_bo _) ?_)
    | (refine wpList_store_row rfl 83 (.tmp 5) (.tmp 13) rfl wa.heap.size (bo r) rfl rfl 83 _ (heap_alloc_new _ _) (info_bo _) (by rw [bo_size]; rfl) (bo_all _) ?_))
  obtain ⟨w2, hw2⟩ : ∃ w2, (wa.alloc (Obj.cells #[.bool false, .bool false, .bool false, .bool false, .bool false, .bool false] 83)).setRow wa.heap.size (bo r) = w2 := ⟨_, rfl⟩
  have HB2 : Hid (Below wa.heap.size wa w2) := by rw [← hw2]; exact below_setRow ((Below.refl _ _).alloc (Nat.le_refl _) _) (Nat.le_refl _) _
  have HR2 : Hid (w2.heap[wa.heap.size]? = some (.cells (bo r) 83 (0, 0))) := by rw [← hw2]; exact setRow_heap _ _ _ _ _ _ (heap_alloc_new _ _)
  rw [hw2]
  clear hw2
  have c0 := HK.out _ HB2.out
  have hl1 : 1 ≤ N.length := HCH.out.pos
  go_wp2
  go_loopw [6, 7, 17] (fun _ _ y wr => ∃ k : Nat, k ≤ N.length ∧ y = .int .i64 k ∧ wr.heap[wa.heap.size]? = some (.cells (bo (snd1 N r k)) 83 (0, 0)) ∧ Below wa.heap.size wa wr) (fun _ _ y _ => N.length - (intOf y).toNat)
  case atStart => exact ⟨0, by omega, rfl, HR2.out, HB2.out⟩
  case round =>
    clear c0
    obtain ⟨k, hk, rfl, hr, hb⟩ := hrel
    obtain ⟨wq, rfl⟩ : ∃ x, x = wr := ⟨_, rfl⟩
    have HR := Lib.hid hr
    have HB := Lib.hid hb
    clear hr hb
    by_cases hlt : k < N.length
    · have hnq := HN.out.below HB.out (Nat.le_refl _)
      obtain ⟨rfl, -⟩ := hnq.ptr (by omega)
      have r0 := hnq.cell k hlt
      obtain ⟨d0, f0⟩ := cell_ofN HR.out (show k < 6 by omega)
      have hok := HCH.out.next k hlt
      have hsm := sum_any (row N k) (A k) (B k) (O k) (D k) wq (hnq.rows k hlt) hok.2.1 (by have := hok.1; omega)
      obtain ⟨b, hbb⟩ : ∃ b, snd1 N r k k = b := ⟨_, rfl⟩
      rw [hbb] at d0
      have HBB := Lib.hid hbb
      obtain ⟨S, hS⟩ : ∃ S, sumL (row N k) = S := ⟨_, rfl⟩
      rw [hS] at hsm
      have HS := Lib.hid hS
      have hsb := sumTo_bd hok.2.1
      have HSM := Lib.hid (hsm.mono fun e w' h => (⟨h.1, h.2.symm⟩ : e = .returned (.int .i64 S) ∧ wq = w'))
      clear hnq hok hsm hbb hS
      cases b
      · have HV := Lib.hid (show snd1 N r (k + 1) = upd (snd1 N r k) k (decide (S < 4)) by rw [snd1, HBB.out, HS.out]; rfl)
        go_wp2_with fail
        refine HSM.out.mono ?_
        rintro e w' ⟨rfl, rfl⟩
        go_wp2
        go_roundw
        case rel => exact ⟨k + 1, by omega, by go_num, by rw [HV.out]; exact bo_set HR.out (by omega) _, HB.out.setCell (p := ⟨wa.heap.size, k, none⟩) (Nat.le_refl _) _⟩
        case measure => simp [intOf]; omega
      · have HV := Lib.hid (show snd1 N r (k + 1) = upd (snd1 N r k) k true by rw [snd1, HBB.out]; rfl)
        go_wp2
        go_roundw
        case rel => exact ⟨k + 1, by omega, by go_num, by rw [HV.out]; exact bo_set HR.out (by omega) _, HB.out.setCell (p := ⟨wa.heap.size, k, none⟩) (Nat.le_refl _) _⟩
        case measure => simp [intOf]; omega
    · obtain rfl : k = N.length := by omega
      obtain ⟨r1, hr1⟩ : ∃ r1, snd1 N r N.length = r1 := ⟨_, rfl⟩
      have HR1 := Lib.hid hr1
      rw [hr1] at HR
      have c0 := HK.out _ HB.out
      clear hr1 hlt hk
      go_wp2
      go_loopw [8, 9, 10, 11, 36, 41, 48] (fun _ _ _ _ y _ _ wr => ∃ k : Nat, k ≤ N.length ∧ y = .int .i64 k ∧ wr.heap[wa.heap.size]? = some (.cells (bo (stR N r1 k)) 83 (0, 0)) ∧ Below wa.heap.size wa wr) (fun _ _ _ _ y _ _ _ => N.length - (intOf y).toNat)
      case atStart => exact ⟨0, by omega, rfl, HR.out, HB.out⟩
      case round =>
        clear c0 HR HB
        obtain ⟨k1, hk1, rfl, hr, hb⟩ := hrel
        obtain ⟨wq1, rfl⟩ : ∃ x, x = wr := ⟨_, rfl⟩
        have HR := Lib.hid hr
        have HB := Lib.hid hb
        clear hr hb
        have c0 := HK.out _ HB.out
        by_cases hlt1 : k1 < N.length
        · obtain ⟨f1, hf1⟩ : ∃ f1, stR N r1 k1 = f1 := ⟨_, rfl⟩
          have HF1 := Lib.hid (show stR N r1 (k1 + 1) = stS N f1 N.length by rw [stR, hf1])
          rw [hf1] at HR
          clear hf1
          go_wp2
          go_loopw [8, 9, 10, 11, 41, 48] (fun _ _ _ _ y _ wr => ∃ k : Nat, k ≤ N.length ∧ y = .int .i64 k ∧ wr.heap[wa.heap.size]? = some (.cells (bo (stS N f1 k)) 83 (0, 0)) ∧ Below wa.heap.size wa wr) (fun _ _ _ _ y _ _ => N.length - (intOf y).toNat)
          case atStart => exact ⟨0, by omega, rfl, HR.out, HB.out⟩
          case round =>
            clear c0 HR HB
            obtain ⟨s, hs, rfl, hr, hb⟩ := hrel
            obtain ⟨wq2, rfl⟩ : ∃ x, x = wr := ⟨_, rfl⟩
            have HR := Lib.hid hr
            have HB := Lib.hid hb
            clear hr hb
            by_cases hlt2 : s < N.length
            · have hnq := HN.out.below HB.out (Nat.le_refl _)
              obtain ⟨rfl, -⟩ := hnq.ptr (by omega)
              have r0 := hnq.cell s hlt2
              have hok := HCH.out.next s hlt2
              have hrl : (row N s).length ≤ 6 := by have := hok.1; omega
              have HRW := Lib.hid (HN.out.rows s hlt2)
              have HLN := Lib.hid hok.1
              obtain ⟨f2, hf2⟩ : ∃ f2, stS N f1 s = f2 := ⟨_, rfl⟩
              have HF2 := Lib.hid (show stS N f1 (s + 1) = stT N s f2 (row N s).length by rw [stS, hf2])
              rw [hf2] at HR
              clear hf2 hnq hok
              go_wp2
              clear r0
              go_loopw [10, 11, 48] (fun _ _ y wr => ∃ k : Nat, k ≤ (row N s).length ∧ y = .int .i64 k ∧ wr.heap[wa.heap.size]? = some (.cells (bo (stT N s f2 k)) 83 (0, 0)) ∧ Below wa.heap.size wa wr) (fun _ _ y _ => (row N s).length - (intOf y).toNat)
              case atStart => exact ⟨0, by omega, rfl, HR.out, HB.out⟩
              case round =>
                clear HR HB
                obtain ⟨t, ht, rfl, hr, hb⟩ := hrel
                obtain ⟨wq3, rfl⟩ : ∃ x, x = wr := ⟨_, rfl⟩
                have HR := Lib.hid hr
                have HB := Lib.hid hb
                clear hr hb
                by_cases hlt3 : t < (row N s).length
                · have hrw := HRW.out.below HB.out (Nat.le_refl _)
                  obtain ⟨hA, -⟩ := hrw.ptr (by omega)
                  have e0 := hrw.cell t hlt3
                  obtain ⟨d0, g0⟩ := cell_ofN HR.out (show s < 6 by omega)
                  obtain ⟨d1, g1⟩ := cell_ofN HR.out (show t < 6 by omega)
                  obtain ⟨x, hx⟩ : ∃ x, nth (row N s) t = x := ⟨_, rfl⟩
                  rw [hx] at e0
                  obtain ⟨b, hb⟩ : ∃ b, stT N s f2 t s = b := ⟨_, rfl⟩
                  obtain ⟨b', hb'⟩ : ∃ b, stT N s f2 t t = b := ⟨_, rfl⟩
                  rw [hb] at d0
                  rw [hb'] at d1
                  have HV := Lib.hid (show stT N s f2 (t + 1) = upd (stT N s f2 t) s (b || (decide (0 < x) && b')) by rw [stT, hb, hb', hx])
                  rw [hA]
                  clear hx hb hb' hrw hA
                  have HST := Lib.hid (show ∀ z, (b || (decide (0 < x) && b')) = z → (wq3.setCell ⟨wa.heap.size, s, none⟩ (.bool z)).heap[wa.heap.size]? = some (.cells (bo (stT N s f2 (t + 1))) 83 (0, 0)) from fun z hz => by
                    rw [HV.out, hz]; exact bo_set HR.out (by omega) _)
                  cases b
                  · by_cases hx0 : 0 < x
                    · have t1 : decide (0 < x) = true := decide_eq_true hx0
                      have HSZ' := Lib.hid (HST.out b' (by rw [t1]; rfl))
                      clear hx0
                      go_wp2
                      go_roundw
                      case rel => exact ⟨t + 1, by omega, by go_num, HSZ'.out, HB.out.setCell (p := ⟨wa.heap.size, s, none⟩) (Nat.le_refl _) _⟩
                      case measure => simp [intOf]; omega
                    · have t1 : decide (0 < x) = false := decide_eq_false hx0
                      have HSZ' := Lib.hid (HST.out false (by rw [t1]; rfl))
                      clear hx0
                      go_wp2
                      go_roundw
                      case rel => exact ⟨t + 1, by omega, by go_num, HSZ'.out, HB.out.setCell (p := ⟨wa.heap.size, s, none⟩) (Nat.le_refl _) _⟩
                      case measure => simp [intOf]; omega
                  · have HSZ' := Lib.hid (HST.out true rfl)
                    go_wp2
                    go_roundw
                    case rel => exact ⟨t + 1, by omega, by go_num, HSZ'.out, HB.out.setCell (p := ⟨wa.heap.size, s, none⟩) (Nat.le_refl _) _⟩
                    case measure => simp [intOf]; omega
                · obtain rfl : t = (row N s).length := by omega
                  go_wp2
                  go_roundw
                  case rel => exact ⟨s + 1, by omega, by go_num, by rw [HF2.out]; exact HR.out, HB.out⟩
                  case measure => simp [intOf]; omega
            · obtain rfl : s = N.length := by omega
              go_wp2
              go_roundw
              case rel => exact ⟨k1 + 1, by omega, by go_num, by rw [HF1.out]; exact HR.out, HB.out⟩
              case measure => simp [intOf]; omega
        · obtain rfl : k1 = N.length := by omega
          have HFF := Lib.hid (show soundF N r = stR N r1 N.length by unfold soundF; rw [HR1.out])
          go_wp2
          go_loopw [12, 73] (fun _ y wr => ∃ k : Nat, k ≤ N.length ∧ y = .int .i64 k ∧ (∀ s, s < k → soundF N r s = true) ∧ wr = wq1) (fun _ y _ => N.length - (intOf y).toNat)
          case atStart => exact ⟨0, by omega, rfl, fun s hs => absurd hs (by omega), rfl⟩
          case round =>
            obtain ⟨k, hk, rfl, hg, hwr⟩ := hrel
            rw [hwr]
            clear hwr
            have HG := Lib.hid hg
            clear hg
            have HBE := Lib.hid (HBW.out.trans (HB.out.mono HBW.out.size))
            by_cases hlt3 : k < N.length
            · obtain ⟨d0, -⟩ := cell_ofN HR.out (show k < 6 by omega)
              rw [← HFF.out] at d0
              obtain ⟨b, hb⟩ : ∃ b, soundF N r k = b := ⟨_, rfl⟩
              rw [hb] at d0
              have HBb := Lib.hid hb
              clear hb
              cases b
              · have HF := Lib.hid (show soundB N r = false from decide_eq_false fun q => by have := q k hlt3; rw [HBb.out] at this; cases this)
                go_wp2
                go_ret
                exact ⟨ret_bool HF.out.symm, HBE.out⟩
              · go_wp2
                go_roundw
                case rel => exact ⟨k + 1, by omega, by go_num, fun s hs => by
                  by_cases e : s = k
                  · subst e; exact HBb.out
                  · exact HG.out s (by omega), trivial⟩
                case measure => simp [intOf]; omega
            · have HF := Lib.hid (show soundB N r = true from decide_eq_true fun s hs => HG.out s (by omega))
              go_wp2
              go_ret
              exact ⟨ret_bool HF.out.symm, HBE.out⟩

end Go.Proofs.Ythnkmmjelpdamaa
