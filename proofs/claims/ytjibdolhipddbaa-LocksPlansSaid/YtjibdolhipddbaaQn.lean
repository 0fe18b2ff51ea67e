/- G1 G2 G3 -/
import Derived.Test.YtjibdolhipddbaaQk
import Derived.Test.YtjibdolhipddbaaQi
/- The reference's cuts. -/
namespace Go.Proofs.Ytjibdolhipddbaa
open Go.RowKit

set_option maxHeartbeats 4000000 in
set_option maxRecDepth 100000 in
theorem refCuts_any (k : Nat) (a : List (List Int)) (d : Int) (ao : Option Addr) (b o cap : Nat) (A : Nat → Option Addr) (B O C : Nat → Nat) (w : World) (H : RowsAt w ao b o a A B O C) (hk1 : 1 ≤ k) (hk6 : k ≤ 6) :
    Calls Try.prog 17 #[.int .i64 k, .slice ao a.length cap, .int .i64 d] w fun e w' => e = .returned (.bool (decide (OkCuts k a d))) ∧ Below w.heap.size w w' := by
  have hla := H.len
  have HA := Lib.hid H
  clear H
  have NO := Lib.hid (show ¬ OkCuts k a d → Ending.returned (.bool false) = .returned (.bool (decide (OkCuts k a d))) from fun h => by rw [decide_eq_false h])
  have YES := Lib.hid (show OkCuts k a d → Ending.returned (.bool true) = .returned (.bool (decide (OkCuts k a d))) from fun h => by rw [decide_eq_true h])
  by_cases h1 : a.length = k
  · have HK := Lib.hid h1
    have t1 : ((a.length : Int) != (k : Int)) = false := by rw [h1]; simp
    have hk0 : (0 : Int) < (k : Int) := by omega
    have ha0 : (0 : Int) < (a.length : Int) := by omega
    obtain ⟨l, hl⟩ : ∃ l, (row a 0).length = l := ⟨_, rfl⟩
    have HL := Lib.hid hl
    have ha1 : 1 ≤ a.length := by omega
    obtain ⟨rfl, -⟩ := HA.out.ptr (by omega)
    clear h1
    go_enter Try.func17, Try.ntmps17
    go_wp2
    go_loopw [7, 8] (fun x _ wr => ∃ i : Nat, i ≤ k ∧ x = .int .i64 i ∧ Below w.heap.size w wr ∧ ∀ q, q < i → ((1 ≤ l ∧ l ≤ 4) ∧ (row a q).length = l) ∧ ∀ j, j < (row a q).length → 1 ≤ nth (row a q) j ∧ nth (row a q) j ≤ d) (fun x _ _ => k - (intOf x).toNat)
    case atStart => exact ⟨0, by omega, rfl, Below.refl _ _, fun q hq => absurd hq (by omega)⟩
    case round =>
      obtain ⟨i, hi, rfl, hb, hg⟩ := hrel
      have HB := Lib.hid hb
      have HG := Lib.hid hg
      clear hb hg
      by_cases hlt : i < k
      · have hat := HA.out.below HB.out (Nat.le_refl _)
        have hla2 : i < a.length := by rw [HK.out]; exact hlt
        have ci := hat.cell i hla2
        have c0 : wr.cell? ⟨b, o, none⟩ = some (.slice (A 0) l (C 0)) := by rw [← hl]; exact hat.cell 0 (by omega)
        have HRI := Lib.hid (HA.out.rows i hla2)
        obtain ⟨r, hr⟩ : ∃ r, row a i = r := ⟨_, rfl⟩
        rw [hr] at ci HRI
        have HR := Lib.hid hr
        clear hat hr
        have hcs : (decide ((r.length : Int) < 1) = true ∧ r.length < 1) ∨ (decide ((r.length : Int) < 1) = false ∧ decide (4 < (r.length : Int)) = true ∧ 4 < r.length) ∨ (decide ((r.length : Int) < 1) = false ∧ decide (4 < (r.length : Int)) = false ∧ ((r.length : Int) != (l : Int)) = true ∧ r.length ≠ l) ∨
            (decide ((r.length : Int) < 1) = false ∧ decide (4 < (r.length : Int)) = false ∧ ((r.length : Int) != (l : Int)) = false ∧ (1 ≤ l ∧ l ≤ 4) ∧ r.length = l) := by
          simp only [decide_eq_true_eq, decide_eq_false_iff_not, bne_iff_ne, bne_eq_false_iff_eq]
          omega
        rcases hcs with ⟨e1, hbad⟩ | ⟨e1, e2, hbad⟩ | ⟨e1, e2, e3, hbad⟩ | ⟨e1, e2, e3, hok⟩
        · have HF := Lib.hid (NO.out fun q => by have := q.len i hlt; have := q.pos; rw [HR.out] at *; omega)
          clear hbad
          go_wp2
          go_quiet (fail)
          go_wp2
          go_ret
          exact ⟨HF.out, below_drewN HB.out _⟩
        · have HF := Lib.hid (NO.out fun q => by have := q.len i hlt; have := q.le; rw [HR.out] at *; omega)
          clear hbad
          go_wp2
          go_quiet (fail)
          go_wp2
          go_ret
          exact ⟨HF.out, below_drewN HB.out _⟩
        · have HF := Lib.hid (NO.out fun q => by have := q.len i hlt; rw [HR.out, HL.out] at this; exact hbad this)
          clear hbad
          go_wp2
          go_quiet (fail)
          go_wp2
          go_ret
          exact ⟨HF.out, below_drewN HB.out _⟩
        · have HOK := Lib.hid hok
          have hr6 : r.length ≤ 6 := by omega
          clear hok
          go_wp2
          go_quiet (fail)
          go_wp2
          have HBX := Lib.hid (below_drewN HB.out nq)
          clear ci c0
          go_loopw [8] (fun x wr => ∃ j : Nat, j ≤ r.length ∧ x = .int .i64 j ∧ Below w.heap.size w wr ∧ ∀ q, q < j → 1 ≤ nth r q ∧ nth r q ≤ d) (fun x _ => r.length - (intOf x).toNat)
          case atStart => exact ⟨0, by omega, rfl, HBX.out, fun q hq => absurd hq (by omega)⟩
          case round =>
            obtain ⟨j, hj, rfl, hb, hg⟩ := hrel
            have HBJ := Lib.hid hb
            have HGJ := Lib.hid hg
            clear hb hg HB HBX
            have hat := HA.out.below HBJ.out (Nat.le_refl _)
            have ci := hat.cell i hla2
            rw [HR.out] at ci
            clear hat
            by_cases hlj : j < r.length
            · have hri := HRI.out.below HBJ.out (Nat.le_refl _)
              obtain ⟨hA, -⟩ := hri.ptr (by omega)
              have q0 := hri.cell j hlj
              rw [hA] at ci
              obtain ⟨x, hx⟩ : ∃ x, nth r j = x := ⟨_, rfl⟩
              rw [hx] at q0
              have HX := Lib.hid hx
              clear hri hA hx
              have hxc : (decide (x < 1) = true ∧ x < 1) ∨ (decide (x < 1) = false ∧ decide (d < x) = true ∧ d < x) ∨ (decide (x < 1) = false ∧ decide (d < x) = false ∧ (1 ≤ x ∧ x ≤ d)) := by
                simp only [decide_eq_true_eq, decide_eq_false_iff_not]
                omega
              rcases hxc with ⟨g1, hbad⟩ | ⟨g1, g2, hbad⟩ | ⟨g1, g2, hok⟩
              · have HF := Lib.hid (NO.out fun q => by have := q.dep i hlt j (by rw [HR.out]; exact hlj); rw [HR.out, HX.out] at this; omega)
                clear hbad
                go_wp2
                try go_quiet (fail)
                try go_wp2
                go_ret
                exact ⟨HF.out, by first | exact HBJ.out | exact below_drewN HBJ.out _⟩
              · have HF := Lib.hid (NO.out fun q => by have := q.dep i hlt j (by rw [HR.out]; exact hlj); rw [HR.out, HX.out] at this; omega)
                clear hbad
                go_wp2
                try go_quiet (fail)
                try go_wp2
                go_ret
                exact ⟨HF.out, by first | exact HBJ.out | exact below_drewN HBJ.out _⟩
              · have HOK2 := Lib.hid hok
                clear hok
                go_wp2
                try go_quiet (fail)
                try go_wp2
                go_roundw
                case rel => exact ⟨j + 1, by omega, by go_num, by first | exact HBJ.out | exact below_drewN HBJ.out _, fun q hq => by
                  by_cases e : q = j
                  · rw [e, HX.out]; exact HOK2.out
                  · exact HGJ.out q (by omega)⟩
                case measure => simp [intOf]; omega
            · go_wp2
              go_roundw
              case rel => exact ⟨i + 1, by omega, by go_num, HBJ.out, fun q hq => by
                by_cases e : q = i
                · rw [e, HR.out]; exact ⟨HOK.out, fun t ht => HGJ.out t (by omega)⟩
                · exact HG.out q (by omega)⟩
              case measure => simp [intOf]; omega
      · have hia : i = k := by omega
        have HT := Lib.hid (YES.out ⟨HK.out, by rw [HL.out]; exact (HG.out 0 (by omega)).1.1.1, by rw [HL.out]; exact (HG.out 0 (by omega)).1.1.2, fun q hq => by rw [HL.out]; exact (HG.out q (by omega)).1.2, fun q hq => (HG.out q (by omega)).2⟩)
        go_wp2
        go_ret
        exact ⟨HT.out, HB.out⟩
  · have t1 : ((a.length : Int) != (k : Int)) = true := by simp; omega
    have HF := Lib.hid (NO.out fun q => h1 q.keys)
    clear h1
    go_enter Try.func17, Try.ntmps17
    go_wp2
    go_ret
    exact ⟨HF.out, Below.refl _ _⟩

end Go.Proofs.Ytjibdolhipddbaa

/- The reference's pins. -/
namespace Go.Proofs.Ytjibdolhipddbaa
open Go.RowKit

/-- A lock has a depth among its pins in a chamber. -/
def PinR (a P : List (List Int)) (j n : Nat) (v : Int) : Prop := ∃ i, i < a.length ∧ (nth (row a i) j = 1 ∧ nth (row P i) n = v)
instance (a P : List (List Int)) (j n : Nat) (v : Int) : Decidable (PinR a P j n v) := inferInstanceAs (Decidable (∃ i, i < a.length ∧ (nth (row a i) j = 1 ∧ nth (row P i) n = v)))

set_option maxHeartbeats 4000000 in
set_option maxRecDepth 100000 in
theorem refPin_any (a P : List (List Int)) (j n : Nat) (v : Int) (ao : Option Addr) (b o cap : Nat) (A : Nat → Option Addr) (B O C : Nat → Nat) (po : Option Addr) (pb pq pcap : Nat) (A' : Nat → Option Addr) (B' O' C' : Nat → Nat) (w : World)
    (H : RowsAt w ao b o a A B O C) (HP : RowsAt w po pb pq P A' B' O' C') (hk6 : a.length ≤ 6) (hj6 : j < 6) (hn4 : n < 4) (hj : ∀ i, i < a.length → j < (row a i).length) (hp : P.length = a.length) (hn : ∀ i, i < a.length → n < (row P i).length) :
    Calls Try.prog 45 #[.slice ao a.length cap, .slice po P.length pcap, .int .i64 j, .int .i64 n, .int .i64 v] w fun e w' => e = .returned (.bool (decide (PinR a P j n v))) ∧ ∃ m, w' = w.drewN m := by
  have HA := Lib.hid H
  have HQ := Lib.hid HP
  have HJ := Lib.hid hj
  have HPL := Lib.hid hp
  have HN := Lib.hid hn
  rw [hp]
  clear H HP hj hn hp
  go_enter Try.func45, Try.ntmps45
  go_wp2
  go_loopw [11] (fun x wr => ∃ i : Nat, i ≤ a.length ∧ x = .int .i64 i ∧ (∀ q, q < i → ¬ (nth (row a q) j = 1 ∧ nth (row P q) n = v)) ∧ wr = w) (fun x _ => a.length - (intOf x).toNat)
  case atStart => exact ⟨0, by omega, rfl, fun q hq => absurd hq (by omega), rfl⟩
  case round =>
    obtain ⟨i, hi, rfl, hg, rfl⟩ := hrel
    have HG := Lib.hid hg
    clear hg
    by_cases hlt : i < a.length
    · have hat := HA.out
      have hpt := HQ.out
      obtain ⟨rfl, -⟩ := hat.ptr (by omega)
      obtain ⟨rfl, -⟩ := hpt.ptr (by rw [HPL.out]; omega)
      have hip : i < P.length := by rw [HPL.out]; exact hlt
      have ci := hat.cell i hlt
      have di := hpt.cell i hip
      have hra := hat.rows i hlt
      have hrp := hpt.rows i hip
      have hjl := HJ.out i hlt
      have hnl := HN.out i hlt
      obtain ⟨hA, -⟩ := hra.ptr (by omega)
      obtain ⟨hA', -⟩ := hrp.ptr (by omega)
      have x0 := hra.cell j hjl
      have y0 := hrp.cell n hnl
      rw [hA] at ci
      rw [hA'] at di
      obtain ⟨x, hx⟩ : ∃ x, nth (row a i) j = x := ⟨_, rfl⟩
      obtain ⟨y, hy⟩ : ∃ y, nth (row P i) n = y := ⟨_, rfl⟩
      obtain ⟨r, hr⟩ : ∃ r, (row a i).length = r := ⟨_, rfl⟩
      obtain ⟨s, hs⟩ : ∃ s, (row P i).length = s := ⟨_, rfl⟩
      rw [hx] at x0
      rw [hy] at y0
      rw [hr] at ci hjl
      rw [hs] at di hnl
      have HX := Lib.hid hx
      have HY := Lib.hid hy
      have hjl' : (j : Int) < (r : Int) := by omega
      have hnl' : (n : Int) < (s : Int) := by omega
      clear hat hpt hra hrp hA hA' hx hy hr hs
      have hcs : ((x == 1) = true ∧ (y == v) = true ∧ x = 1 ∧ y = v) ∨ ((x == 1) = true ∧ (y == v) = false ∧ ¬ (x = 1 ∧ y = v)) ∨ ((x == 1) = false ∧ ¬ (x = 1 ∧ y = v)) := by
        simp only [beq_iff_eq, beq_eq_false_iff_ne]
        omega
      rcases hcs with ⟨e1, e2, hok⟩ | ⟨e1, e2, hbad⟩ | ⟨e1, hbad⟩
      · have HT := Lib.hid (show decide (PinR a P j n v) = true from decide_eq_true ⟨i, hlt, by rw [HX.out, HY.out]; exact hok⟩)
        clear hok
        go_wp2
        go_ret
        exact ⟨congrArg (fun b => Ending.returned (.bool b)) HT.out.symm, 0, rfl⟩
      · have HN2 := Lib.hid (show ∀ q, q < i + 1 → ¬ (nth (row a q) j = 1 ∧ nth (row P q) n = v) from fun q hq => by
          by_cases e : q = i
          · rw [e, HX.out, HY.out]; exact hbad
          · exact HG.out q (by omega))
        clear hbad
        go_wp2
        go_roundw
        case rel => exact ⟨i + 1, by omega, by go_num, HN2.out, by trivial⟩
        case measure => simp [intOf]; omega
      · have HN2 := Lib.hid (show ∀ q, q < i + 1 → ¬ (nth (row a q) j = 1 ∧ nth (row P q) n = v) from fun q hq => by
          by_cases e : q = i
          · rw [e, HX.out, HY.out]; exact hbad
          · exact HG.out q (by omega))
        clear hbad
        go_wp2
        go_roundw
        case rel => exact ⟨i + 1, by omega, by go_num, HN2.out, by trivial⟩
        case measure => simp [intOf]; omega
    · have HF := Lib.hid (show decide (PinR a P j n v) = false from decide_eq_false fun ⟨q, h1, h2⟩ => HG.out q (by omega) h2)
      go_wp2
      go_ret
      exact ⟨congrArg (fun b => Ending.returned (.bool b)) HF.out.symm, 0, rfl⟩

end Go.Proofs.Ytjibdolhipddbaa

/- Which key opens, as the reference says it. -/
namespace Go.Proofs.Ytjibdolhipddbaa
open Go.RowKit

/-- A key opens a lock. -/
def OpenR (a P : List (List Int)) (key : List Int) (j : Nat) : Prop := ∀ c, c < key.length → PinR a P j c (nth key c)
instance (a P : List (List Int)) (key : List Int) (j : Nat) : Decidable (OpenR a P key j) := inferInstanceAs (Decidable (∀ c, c < key.length → PinR a P j c (nth key c)))

set_option maxHeartbeats 4000000 in
set_option maxRecDepth 100000 in
theorem refOpens_any (a P : List (List Int)) (key : List Int) (j : Nat) (ao : Option Addr) (b o cap : Nat) (A : Nat → Option Addr) (B O C : Nat → Nat) (po : Option Addr) (pb pq pcap : Nat) (A' : Nat → Option Addr) (B' O' C' : Nat → Nat) (ko : Option Addr) (kb kq kc : Nat) (w : World)
    (H : RowsAt w ao b o a A B O C) (HP : RowsAt w po pb pq P A' B' O' C') (HK : IntsAt w ko kb kq key) (hk6 : a.length ≤ 6) (hj6 : j < 6) (hc4 : key.length ≤ 4) (hj : ∀ i, i < a.length → j < (row a i).length) (hp : P.length = a.length) (hn : ∀ i, i < a.length → (row P i).length = key.length) :
    Calls Try.prog 31 #[.slice ao a.length cap, .slice po P.length pcap, .slice ko key.length kc, .int .i64 j] w fun e w' => e = .returned (.bool (decide (OpenR a P key j))) ∧ ∃ m, w' = w.drewN m := by
  have HPIN := Lib.hid (fun n v (h : n < key.length) m => refPin_any a P j n v ao b o cap A B O C po pb pq pcap A' B' O' C' (w.drewN m) (H.below (below_drewN (Below.refl _ _) m) (Nat.le_refl _)) (HP.below (below_drewN (Below.refl _ _) m) (Nat.le_refl _)) hk6 hj6 (by omega) hj hp (fun i hi => by rw [hn i hi]; exact h))
  have HKK := Lib.hid HK
  clear H HP HK hj hn hp
  go_enter Try.func31, Try.ntmps31
  go_wp2
  go_loopw [9] (fun x wr => ∃ c : Nat, c ≤ key.length ∧ x = .int .i64 c ∧ (∀ q, q < c → PinR a P j q (nth key q)) ∧ ∃ m, wr = w.drewN m) (fun x _ => key.length - (intOf x).toNat)
  case atStart => exact ⟨0, by omega, rfl, fun q hq => absurd hq (by omega), 0, rfl⟩
  case round =>
    obtain ⟨c, hc, rfl, hg, md, rfl⟩ := hrel
    have HG := Lib.hid hg
    clear hg
    by_cases hlt : c < key.length
    · have hk := HKK.out.below (below_drewN (Below.refl _ w) md) (Nat.le_refl _)
      obtain ⟨rfl, -⟩ := hk.ptr (by omega)
      have c0 := hk.cell c hlt
      obtain ⟨v, hv⟩ : ∃ v, nth key c = v := ⟨_, rfl⟩
      rw [hv] at c0
      have HV := Lib.hid hv
      have HPI := Lib.hid (HPIN.out c v hlt)
      clear hk hv
      by_cases e : PinR a P j c v
      · have hd : decide (PinR a P j c v) = true := decide_eq_true e
        unfold Hid at HPI
        simp only [hd] at HPI
        have HPI := Lib.hid HPI
        have HE := Lib.hid e
        clear e hd
        go_wp2_with fail
        refine (HPI.out md).mono ?_
        rintro e w2 ⟨rfl, m2, rfl⟩
        go_wp2
        go_roundw
        case rel => exact ⟨c + 1, by omega, by go_num, fun q hq => by
          by_cases e : q = c
          · rw [e, HV.out]; exact HE.out
          · exact HG.out q (by omega), _, by first | rfl | exact World.drewN_drewN _ _ _⟩
        case measure => simp [intOf]; omega
      · have hd : decide (PinR a P j c v) = false := decide_eq_false e
        unfold Hid at HPI
        simp only [hd] at HPI
        have HPI := Lib.hid HPI
        have HF := Lib.hid (show decide (OpenR a P key j) = false from decide_eq_false fun q => e (by have := q c hlt; rw [HV.out] at this; exact this))
        clear e hd
        go_wp2_with fail
        refine (HPI.out md).mono ?_
        rintro e w2 ⟨rfl, m2, rfl⟩
        go_wp2
        go_ret
        exact ⟨congrArg (fun b => Ending.returned (.bool b)) HF.out.symm, _, by first | rfl | exact World.drewN_drewN _ _ _⟩
    · have HT := Lib.hid (show decide (OpenR a P key j) = true from decide_eq_true fun q hq => HG.out q (by omega))
      go_wp2
      go_ret
      exact ⟨congrArg (fun b => Ending.returned (.bool b)) HT.out.symm, _, rfl⟩

end Go.Proofs.Ytjibdolhipddbaa
