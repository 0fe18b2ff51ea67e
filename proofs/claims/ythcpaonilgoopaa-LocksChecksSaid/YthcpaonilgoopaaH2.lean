/- The reference's wrong pairs. -/
import Derived.Test.YthcpaonilgoopaaH1
namespace Go.Proofs.Ythcpaonilgoopaa
open Go.RowKit Go.Maps

/-- A pair that is wrong. -/
def wrF (a P : List (List Int)) (t : Nat) : Bool := decide (t / 6 < a.length) && decide (t % 6 < (row a (t / 6)).length) && (decide (nth (row a (t / 6)) (t % 6) = 0) && decide (OpenR a P (row P (t / 6)) (t % 6)))
theorem wrF_at {a P : List (List Int)} {i j : Nat} (hi : i < a.length) (hj : j < 6) (hl : j < (row a i).length) : wrF a P (6 * i + j) = (decide (nth (row a i) j = 0) && decide (OpenR a P (row P i) j)) := by
  unfold wrF
  rw [show (6 * i + j) / 6 = i by omega, show (6 * i + j) % 6 = j by omega, decide_eq_true hi, decide_eq_true hl]
  simp
theorem wrF_side {a P : List (List Int)} {i t : Nat} (h1 : 6 * i + (row a i).length ≤ t) (h2 : t < 6 * (i + 1)) : wrF a P t = false := by
  unfold wrF
  rw [show t / 6 = i by omega, decide_eq_false (show ¬ t % 6 < (row a i).length by omega)]
  simp
theorem wrF_end {a P : List (List Int)} {t : Nat} (h : 6 * a.length ≤ t) : wrF a P t = false := by
  unfold wrF
  rw [decide_eq_false (show ¬ t / 6 < a.length by omega)]
  simp

theorem ownsRow_below2 {B M : Nat} {w w' : World} {e : TypeId} {v : Value} {n : Nat} {vs : List Value} (h : w.ownsRow B e 2 v n vs) (hb : Below M w w') (hM : w.heap.size ≤ M) : w'.ownsRow B e 2 v n vs := by
  refine ⟨h.1, ?_⟩
  rcases h.2 with h2 | ⟨g, cap, cur, h1, h2, h3, h4⟩
  · exact .inl h2
  · exact .inr ⟨g, cap, cur, h1, h2, (hb.block _ (by have := lt_of_block h3; omega)).trans h3, h4⟩
theorem NewPairs.below {B M : Nat} {w w' : World} {v : Value} {ps : List (Int × Int)} (h : NewPairs B w v ps) (hb : Below M w w') (hM : w.heap.size ≤ M) : NewPairs B w' v ps :=
  ⟨ownsRow_below2 h.own hb hM, h.wf, h.len⟩
theorem NewPairs.drewN {B : Nat} {w : World} {v : Value} {ps : List (Int × Int)} (h : NewPairs B w v ps) (n : Nat) : NewPairs B (w.drewN n) v ps :=
  h.below (below_drewN (Below.refl _ _) n) (Nat.le_refl _)

set_option maxHeartbeats 4000000 in
set_option maxRecDepth 100000 in
theorem refWrong_any (a P : List (List Int)) (d : Int) (ao : Option Addr) (b o cap : Nat) (A : Nat → Option Addr) (B O C : Nat → Nat) (po : Option Addr) (pb pq pcap : Nat) (A' : Nat → Option Addr) (B' O' C' : Nat → Nat) (w : World)
    (H : RowsAt w ao b o a A B O C) (HP : RowsAt w po pb pq P A' B' O' C') (ha : IsPlan a) (hk : OkCuts a.length P d) :
    Calls Try.prog 18 #[.slice ao a.length cap, .slice po P.length pcap] w fun e w' => ∃ v, e = .returned v ∧ NewPairs w.heap.size w' v (wrL (wrF a P) 36) ∧ Below w.heap.size w w' := by
  obtain ⟨i0, hi0, hz0, hz1, hz2⟩ := info_parts Try.info23
  have hk6 := ha.le
  have hk1 := ha.pos
  obtain ⟨l, hl⟩ : ∃ l, (row a 0).length = l := ⟨_, rfl⟩
  have hl6 : l ≤ 6 := by rw [← hl]; exact ha.le0
  have HLE := Lib.hid (show ∀ i, i < a.length → (row a i).length = l from fun i hi => by rw [ha.len i hi, hl])
  have HPL := Lib.hid hk.keys
  have HOP := Lib.hid (fun i j W (hW : Below w.heap.size w W) (hi : i < a.length) (hj : j < l) => refOpens_any a P (row P i) j ao b o cap A B O C po pb pq pcap A' B' O' C' (A' i) (B' i) (O' i) (C' i) W (H.below hW (Nat.le_refl _)) (HP.below hW (Nat.le_refl _)) ((HP.rows i (by rw [hk.keys]; exact hi)).below hW (Nat.le_refl _)) ha.le (by omega)
    (by rw [hk.len i hi]; exact hk.le) (fun q hq => by rw [HLE.out q hq]; exact hj) hk.keys (fun q hq => by rw [hk.len q hq, hk.len i hi]))
  have HA := Lib.hid H
  have HQ := Lib.hid HP
  clear H HP ha hk hl
  go_enter Try.func18, Try.ntmps18
  go_wp2
  go_loopw [5, 6, 7] (fun v x _ wr => ∃ i : Nat, i ≤ a.length ∧ x = .int .i64 i ∧ NewPairs w.heap.size wr v (wrL (wrF a P) (6 * i)) ∧ Below w.heap.size w wr) (fun _ x _ _ => a.length - (intOf x).toNat)
  case atStart => exact ⟨0, by omega, rfl, NewPairs.nil _ _, Below.refl _ _⟩
  case round =>
    obtain ⟨i, hi, rfl, hn, hb⟩ := hrel
    have HN := Lib.hid hn
    have HB := Lib.hid hb
    clear hn hb
    by_cases hlt : i < a.length
    · go_wp2
      go_loopw [5, 7] (fun v x wr => ∃ j : Nat, j ≤ l ∧ x = .int .i64 j ∧ NewPairs w.heap.size wr v (wrL (wrF a P) (6 * i + j)) ∧ Below w.heap.size w wr) (fun _ x _ => l - (intOf x).toNat)
      case atStart => exact ⟨0, by omega, rfl, HN.out, HB.out⟩
      case round =>
        clear HN HB
        obtain ⟨j, hj, rfl, hn, hb⟩ := hrel
        obtain ⟨vo, vb, vc, rfl, -⟩ := hn.at
        have HN := Lib.hid hn
        have HB := Lib.hid hb
        clear hn hb
        have hip : i < P.length := by rw [HPL.out]; exact hlt
        have hat := HA.out.below HB.out (Nat.le_refl _)
        have hpt := HQ.out.below HB.out (Nat.le_refl _)
        obtain ⟨rfl, -⟩ := hat.ptr (by omega)
        obtain ⟨rfl, -⟩ := hpt.ptr (by omega)
        have ci := hat.cell i hlt
        have di := hpt.cell i hip
        have hra := hat.rows i hlt
        rw [HLE.out i hlt] at ci
        clear hat hpt
        by_cases hlj : j < l
        · obtain ⟨hA, -⟩ := hra.ptr (by rw [HLE.out i hlt]; omega)
          have x0 := hra.cell j (by rw [HLE.out i hlt]; exact hlj)
          rw [hA] at ci
          obtain ⟨x, hx⟩ : ∃ x, nth (row a i) j = x := ⟨_, rfl⟩
          rw [hx] at x0
          have HX := Lib.hid hx
          have hji : (j : Int) < (l : Int) := by omega
          have HWF := Lib.hid (wrF_at (a := a) (P := P) hlt (show j < 6 by omega) (by rw [HLE.out i hlt]; exact hlj))
          have HO := Lib.hid (fun n => HOP.out i j (wr.drewN n) (below_drewN HB.out n) hlt hlj)
          clear hra hA hx
          by_cases e0 : x = 0
          · have t0 : (x == 0) = true := by rw [e0]; rfl
            by_cases e1 : OpenR a P (row P i) j
            · have hf : wrF a P (6 * i + j) = true := by rw [HWF.out, HX.out, decide_eq_true e0, decide_eq_true e1]; rfl
              have HL := Lib.hid (wrL_yes (show j < 6 by omega) hf)
              have hd : decide (OpenR a P (row P i) j) = true := decide_eq_true e1
              unfold Hid at HO
              simp only [hd] at HO
              have HO := Lib.hid (HO 0)
              have HLN := Lib.hid (wrL_len (wrF a P) (6 * i + j))
              clear hf hd e1 HX HWF HOP
              go_wp2_with fail
              refine HO.out.mono ?_
              rintro e w2 ⟨rfl, hm2⟩
              have HB2 := Lib.hid (show Below w.heap.size w w2 by obtain ⟨m, rfl⟩ := hm2; exact below_drewN (below_drewN HB.out 0) m)
              have hn2 : NewPairs w.heap.size w2 (.slice vo (wrL (wrF a P) (6 * i + j)).length vc) (wrL (wrF a P) (6 * i + j)) := by
                obtain ⟨m, rfl⟩ := hm2
                exact HN.out.drewN 0 |>.drewN m
              have HN2 := Lib.hid hn2
              have HQ2 := Lib.hid (hn2.own.alloc (.cells #[.int .i64 i, .int .i64 j] 23))
              clear hm2 hn2 ci di x0
              go_wp2_with (first
                | (at_builtin; refine wpList_append_own_at _ rfl (.tmp 41) (.tmp 45) 35 rfl w.heap.size 23 i0 (.agg #[.int .i64 0, .int .i64 0]) 2 16 Try.underlying35 hi0 hz0 hz1 hz2 rfl (by decide) (.slice vo (wrL (wrF a P) (6 * i + j)).length vc) (wrL (wrF a P) (6 * i + j)).length (cells2 (wrL (wrF a P) (6 * i + j))) rfl HQ2.out ⟨w2.heap.size, 0, none⟩ 1 1 [.int .i64 i, .int .i64 j] rfl rfl ?q0 (by simp [Value.oneCell']) ?q2 ?q3 ?q4 ?_)
                | (fail))
              case q0 => exact World.news_of_block (cs := #[.int .i64 i, .int .i64 j]) (t := 23) (fr := (0, 0)) (heap_alloc_new w2 _)
              case q2 => have := HLN.out; unfold maxLen; omega
              case q3 => have := HLN.out; omega
              case q4 => have := HB2.out.size; simp; omega
              intro v' w9 hown hgrow _ _
              have HS := Lib.hid (HN2.out.snoc (p := ((i : Int), (j : Int))) (by have := HLN.out; omega) (by constructor <;> simp <;> omega) hown)
              have HB9 := Lib.hid ((HB2.out.alloc HB2.out.size (.cells #[.int .i64 i, .int .i64 j] 23)).grown hgrow (by have := HB2.out.size; simp; omega) (fun r hr => (HQ2.out.lt r hr).1))
              clear hown hgrow
              go_wp2
              go_roundw
              case rel => exact ⟨j + 1, by omega, by go_num, by rw [← Nat.add_assoc, HL.out]; exact HS.out, HB9.out⟩
              case measure => simp [intOf]; omega
            · have hf : wrF a P (6 * i + j) = false := by rw [HWF.out, decide_eq_false e1]; simp
              have HL := Lib.hid (wrL_no hf)
              have hd : decide (OpenR a P (row P i) j) = false := decide_eq_false e1
              unfold Hid at HO
              simp only [hd] at HO
              have HO := Lib.hid (HO 0)
              clear hf hd e1 HX HWF HOP
              go_wp2_with fail
              refine HO.out.mono ?_
              rintro e w2 ⟨rfl, m2, rfl⟩
              go_wp2
              go_roundw
              case rel => exact ⟨j + 1, by omega, by go_num, by rw [← Nat.add_assoc, HL.out]; exact (HN.out.drewN 0).drewN m2, below_drewN (below_drewN HB.out 0) m2⟩
              case measure => simp [intOf]; omega
          · have t0 : (x == 0) = false := beq_eq_false_iff_ne.2 e0
            have hf : wrF a P (6 * i + j) = false := by rw [HWF.out, HX.out, decide_eq_false e0]; simp
            have HL := Lib.hid (wrL_no hf)
            clear hf HX HWF HOP e0
            go_wp2
            go_roundw
            case rel => exact ⟨j + 1, by omega, by go_num, by rw [← Nat.add_assoc, HL.out]; exact HN.out, HB.out⟩
            case measure => simp [intOf]; omega
        · have hjl : j = l := by omega
          have HL := Lib.hid (show wrL (wrF a P) (6 * (i + 1)) = wrL (wrF a P) (6 * i + j) from wrL_none _ (by omega) fun t h1 h2 => wrF_side (i := i) (by rw [HLE.out i hlt, ← hjl]; exact h1) h2)
          have hji : ¬ (j : Int) < (l : Int) := by omega
          clear hra HOP
          go_wp2
          go_roundw
          case rel => exact ⟨i + 1, by omega, by go_num, by rw [HL.out]; exact HN.out, HB.out⟩
          case measure => simp [intOf]; omega
    · have HL := Lib.hid (show wrL (wrF a P) 36 = wrL (wrF a P) (6 * i) from wrL_none _ (by omega) fun t h1 _ => wrF_end (by omega))
      go_wp2
      go_ret
      exact ⟨_, rfl, by rw [HL.out]; exact HN.out, HB.out⟩

end Go.Proofs.Ythcpaonilgoopaa
