/- Candidates: the reference's best number to skip. -/
import Derived.Test.YthnkmmjelpdamaaA7
namespace Go.Proofs.Ythnkmmjelpdamaa
open Go.RowKit

theorem results_slot_cell {P : Program} {fn : Func} {p s : Tmp} {ty : TypeId} (h : fn.results = #[.tmp s, .cell p ty]) (tmps : Array Value) (w : World) (g : Nat) (t : TypeId) (cs : Array Value) (fr : Nat × Nat) (d : TypeDesc)
    (hp : tmps.getD p undef = .pointer (some ⟨g, 0, none⟩)) (hg : w.heap[g]? = some (.cells cs t fr))
    (hu : P.underlying ty = some d) (hd : (match d with | .struct _ | .array _ _ => true | _ => false) = true) (hi : (P.info? ty).map (·.size) = some cs.size) :
    (results fn tmps).run P w = .ok (.tuple #[tmps.getD s undef, .agg cs]) w := by
  have hp' : tmps[p]?.getD undef = .pointer (some ⟨g, 0, none⟩) := by simpa using hp
  simp only [results, h]
  simp [Result.andThen, hp', asAddr, run_loadVar_row w g t ty cs fr d hg hu hd hi]

theorem secTo_one (n : Nat) : secTo n 1 = 0 := by simp [secTo]

set_option maxHeartbeats 4000000 in
set_option maxRecDepth 100000 in
theorem refSecretary_any (n : Nat) (w : World) (h1 : 1 ≤ n) (h : n ≤ 20) :
    Calls Try.prog 31 #[.int .i64 n] w fun e w' => e = .returned (.tuple #[.int .i64 (secTo n n), fracV (cw n (secTo n n)) (n * 232792560)]) ∧ Below w.heap.size w w' := by
  have HBLK := Lib.hid (heap_alloc_new w (.cells #[.int .i64 0, .int .i64 0] 47))
  have hll := secTo_lt (n := n) h1
  have hch := fun W => refChosen_any n (secTo n n) W h1 h (by omega)
  obtain ⟨a, b, hab⟩ : ∃ a b, fracV (cw n (secTo n n)) (n * 232792560) = .agg #[.int .i64 a, .int .i64 b] := ⟨_, _, rfl⟩
  rw [hab] at hch ⊢
  have HCH := Lib.hid hch
  clear hch hab
  go_enter Try.func31, Try.ntmps31
  go_wp2
  go_loopw [4, 5] (fun x y wr => ∃ k : Nat, 1 ≤ k ∧ k ≤ n ∧ y = .int .i64 k ∧ x = .int .i64 (secTo n k) ∧ Below (w.heap.size + 1) (w.alloc (.cells #[.int .i64 0, .int .i64 0] 47)) wr) (fun _ y _ => n - (intOf y).toNat)
  case atStart => exact ⟨1, by omega, h1, rfl, by rw [secTo_one]; rfl, Below.refl _ _⟩
  case round =>
    obtain ⟨k, hk1, hk, rfl, rfl, hb⟩ := hrel
    obtain ⟨wq, rfl⟩ : ∃ x, x = wr := ⟨_, rfl⟩
    have HB := Lib.hid hb
    have hl := secTo_lt (n := n) hk1
    have hs := hb.size
    have HS := Lib.hid (show secTo n (k + 1) = if cw n (secTo n k) < cw n k then k else secTo n k from rfl)
    clear hb
    by_cases hlt : k < n
    · have hc := less_cw h (show secTo n k < n by omega) hlt
      have c1 := fun W => refChosen_any n (secTo n k) W h1 h (by omega)
      have c2 := fun W => refChosen_any n k W h1 h (by omega)
      rw [fparts] at c1 c2
      obtain ⟨b, hbb⟩ : ∃ b, secTo n k = b := ⟨_, rfl⟩
      rw [hbb] at hc c1 HS hl ⊢
      obtain ⟨x1, hx1⟩ : ∃ x, fnum n b = x := ⟨_, rfl⟩
      obtain ⟨y1, hy1⟩ : ∃ x, fden n b = x := ⟨_, rfl⟩
      obtain ⟨x2, hx2⟩ : ∃ x, fnum n k = x := ⟨_, rfl⟩
      obtain ⟨y2, hy2⟩ : ∃ x, fden n k = x := ⟨_, rfl⟩
      rw [hx1, hy1] at c1
      rw [hx2, hy2] at c2
      rw [hx1, hy1, hx2, hy2] at hc
      have hls := fun W => less_any x1 y1 x2 y2 W
      rw [hc] at hls
      have HC1 := Lib.hid c1
      have HC2 := Lib.hid c2
      have HLS := Lib.hid hls
      clear c1 c2 hls hc hbb hx1 hy1 hx2 hy2
      go_wp2_with fail
      refine (HC1.out _).mono ?_
      rintro e w1 ⟨rfl, hb1⟩
      have HB1 := Lib.hid (HB.out.trans (hb1.mono (by simpa using hs)))
      clear hb1
      go_wp2_with fail
      refine (HC2.out _).mono ?_
      rintro e w2 ⟨rfl, hb2⟩
      have HB2 := Lib.hid (HB1.out.trans (hb2.mono (by have := HB1.out.size; simpa using this)))
      clear hb2
      go_wp2_with fail
      refine (HLS.out _).mono ?_
      rintro e w3 ⟨rfl, hb3⟩
      have HB3 := Lib.hid (HB2.out.trans (hb3.mono (by have := HB2.out.size; simpa using this)))
      clear hb3
      by_cases hcc : cw n b < cw n k
      · have HS2 := Lib.hid (show secTo n (k + 1) = k by rw [HS.out, if_pos hcc])
        rw [decide_eq_true hcc]
        clear hcc
        go_wp2
        go_roundw
        case rel => exact ⟨k + 1, by omega, by omega, by go_num, by rw [HS2.out], HB3.out⟩
        case measure => simp [intOf]; omega
      · have HS2 := Lib.hid (show secTo n (k + 1) = b by rw [HS.out, if_neg hcc])
        rw [decide_eq_false hcc]
        clear hcc
        go_wp2
        go_roundw
        case rel => exact ⟨k + 1, by omega, by omega, by go_num, by rw [HS2.out], HB3.out⟩
        case measure => simp [intOf]; omega
    · obtain rfl : k = n := by omega
      clear hlt
      go_wp2_with fail
      refine (HCH.out _).mono ?_
      rintro e w1 ⟨rfl, hb⟩
      have HB1 := Lib.hid (HB.out.trans (hb.mono (by simpa using hs)))
      have hblk := (HB1.out.block w.heap.size (by omega)).trans HBLK.out
      obtain ⟨c0, c1, f0, f1⟩ := block_of_cells hblk
      have HBW := Lib.hid (((Below.refl _ w).alloc (Nat.le_refl _) (.cells #[.int .i64 0, .int .i64 0] 47)).trans (HB1.out.mono (by omega)))
      clear hb hblk
      go_wp2
      refine bodyPost_ret (v := .tuple #[.int .i64 (secTo k k), .agg #[.int .i64 a, .int .i64 b]]) ?_ rfl ⟨rfl, (HBW.out.setCell (p := ⟨_, 0, none⟩) (Nat.le_refl _) _).setCell (p := ⟨_, 1, none⟩) (Nat.le_refl _) _⟩
      obtain ⟨g0, g1⟩ := set2_cells (x := .int .i64 a) (y := .int .i64 b) c0 c1
      simp [results, Try.results31, go_sem, g0, g1]

end Go.Proofs.Ythnkmmjelpdamaa
