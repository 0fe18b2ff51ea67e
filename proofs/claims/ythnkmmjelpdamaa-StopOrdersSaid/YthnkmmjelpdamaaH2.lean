/- All orders of the candidates: the walk. -/
import Derived.Laws.AppendOwnNone
import Derived.Maps.AppendAt
import Derived.Test.YthnkmmjelpdamaaH1
namespace Go.Proofs.Ythnkmmjelpdamaa
open Go.RowKit

theorem ite_bd {P : Prop} [Decidable P] {x M : Int} (h : 0 ≤ x ∧ x ≤ M) (hM : 0 ≤ M) : 0 ≤ (if P then 0 else x) ∧ (if P then 0 else x) ≤ M := by
  split
  · omega
  · exact h

set_option maxHeartbeats 2000000 in
set_option maxRecDepth 100000 in
theorem orders_any (n skip : Nat) (hn : n ≤ 6) (hs : skip ≤ 6) (d : Nat) : ∀ (l : List Int) (ao : Option Addr) (b o cap : Nat) (w : World), l.length + d = n → (∀ i, 0 ≤ nth l i ∧ nth l i ≤ 6) → SlAt w ao b o cap l →
    Calls Try.prog 46 #[.slice ao l.length cap, .int .i64 n, .int .i64 skip] w fun e w' => e = .returned (.tuple #[.int .i64 (og n skip d l), .int .i64 (oa n d l)]) ∧ Below w.heap.size w w' := by
  induction d with
  | zero =>
    intro l ao b o cap w hl hr h
    exact orders_leaf n skip l ao b o cap w hn (by omega) hs hr h
  | succ d ih =>
    intro l ao b o cap w hl hr h
    obtain ⟨j0, hj0, jz0, jz1, jz2⟩ := info_parts infoInt
    have t1 : ((l.length : Int) == (n : Int)) = false := by rw [beq_eq_false_iff_ne]; omega
    have t1' : (l.length == n) = false := by rw [beq_eq_false_iff_ne]; omega
    have HIH := Lib.hid ih
    have HH := Lib.hid h
    have HR := Lib.hid hr
    have hd6 : d ≤ 6 := by omega
    have hp6 := pow6_le hd6
    have hp1 := pow6_pos d
    obtain ⟨FG, hFG⟩ : ∃ F : Nat → Int, F = fun v : Nat => if hasTo l (v : Int) l.length = true then 0 else og n skip d (l ++ [(v : Int)]) := ⟨_, rfl⟩
    obtain ⟨FA, hFA⟩ : ∃ F : Nat → Int, F = fun v : Nat => if hasTo l (v : Int) l.length = true then 0 else oa n d (l ++ [(v : Int)]) := ⟨_, rfl⟩
    have HG := Lib.hid (show og n skip (d + 1) l = addTo FG n by rw [hFG]; rfl)
    have HA := Lib.hid (show oa n (d + 1) l = addTo FA n by rw [hFA]; rfl)
    have HFG := Lib.hid (fun v => congrFun hFG v)
    have HFA := Lib.hid (fun v => congrFun hFA v)
    have HBG := Lib.hid (fun k => addTo_bd (f := FG) (M := 6 ^ d) (k := k) (fun v _ => by
      rw [hFG]
      exact ite_bd (og_bd hn _ _) (by omega)))
    have HBA := Lib.hid (fun k => addTo_bd (f := FA) (M := 6 ^ d) (k := k) (fun v _ => by
      rw [hFA]
      exact ite_bd (oa_bd hn _ _) (by omega)))
    clear hFG hFA h hr ih
    go_enter Try.func46, Try.ntmps46
    go_wp2
    clear t1 t1'
    go_loopw [10, 11, 12, 13, 14, 15, 16, 17] (fun g a v _ _ _ _ _ wr => ∃ k : Nat, k ≤ n ∧ v = .int .i64 k ∧ g = .int .i64 (addTo FG k) ∧ a = .int .i64 (addTo FA k) ∧ Below w.heap.size w wr) (fun _ _ v _ _ _ _ _ _ => n - (intOf v).toNat)
    case atStart => exact ⟨0, Nat.zero_le _, rfl, rfl, rfl, Below.refl _ _⟩
    case round =>
      obtain ⟨k, hk, rfl, rfl, rfl, hb⟩ := hrel
      obtain ⟨wq, rfl⟩ : ∃ x, x = wr := ⟨_, rfl⟩
      have HB := Lib.hid hb
      have hsz := hb.size
      clear hb
      by_cases hlt : k < n
      · have HQ := Lib.hid (HH.out.at_.below HB.out (Nat.le_refl _))
        go_wp2
        go_loop [13, 14] (fun u j => ∃ m : Nat, m ≤ l.length ∧ j = .int .i64 m ∧ u = .bool (hasTo l (k : Int) m)) (fun _ j => l.length - (intOf j).toNat)
        case atStart => exact ⟨0, Nat.zero_le _, rfl, rfl⟩
        case round =>
          obtain ⟨m, hm, rfl, rfl⟩ := hrel
          by_cases hml : m < l.length
          · obtain ⟨hA, -⟩ := HQ.out.ptr (by omega)
            have c0 := HQ.out.cell m hml
            have HS := Lib.hid (show hasTo l (k : Int) (m + 1) = (hasTo l (k : Int) m || nth l m == (k : Int)) from rfl)
            obtain ⟨u, hu⟩ : ∃ u, hasTo l (k : Int) m = u := ⟨_, rfl⟩
            obtain ⟨c, hc⟩ : ∃ c, (nth l m == (k : Int)) = c := ⟨_, rfl⟩
            rw [hu, hc] at HS
            rw [hu, hA]
            clear hu hA
            cases u <;> cases c
            all_goals (
              go_wp2
              go_round
              case rel => exact ⟨m + 1, by omega, by go_num, by rw [HS.out]; rfl⟩
              case measure => simp [intOf]; omega)
          · obtain rfl : m = l.length := by omega
            have hG1 := HFG.out k
            have hA1 := HFA.out k
            have HSG := Lib.hid (show addTo FG (k + 1) = addTo FG k + FG k from rfl)
            have HSA := Lib.hid (show addTo FA (k + 1) = addTo FA k + FA k from rfl)
            obtain ⟨u, hu⟩ : ∃ u, hasTo l (k : Int) l.length = u := ⟨_, rfl⟩
            rw [hu] at hG1 hA1 ⊢
            clear hu
            cases u
            · rw [if_neg Bool.false_ne_true] at hG1 hA1
              obtain ⟨g0, g1⟩ := HBG.out k
              obtain ⟨a0, a1⟩ := HBA.out k
              obtain ⟨g2, g3⟩ := og_bd (skip := skip) hn d (l ++ [(k : Int)])
              obtain ⟨a2, a3⟩ := oa_bd hn d (l ++ [(k : Int)])
              have hkm : (k : Int) * 6 ^ d ≤ 6 * 46656 := Int.mul_le_mul (by omega) hp6 (by omega) (by omega)
              obtain ⟨x1, hx1⟩ : ∃ x, addTo FG k = x := ⟨_, rfl⟩
              obtain ⟨x2, hx2⟩ : ∃ x, addTo FA k = x := ⟨_, rfl⟩
              have HREC := Lib.hid (fun ao b cap W (hS : SlAt W ao b 0 cap (l ++ [(k : Int)])) => HIH.out (l ++ [(k : Int)]) ao b 0 cap W (by simp; omega) (fun i => by
                rcases nth_snoc (l := l) (v := (k : Int)) i with e | e | e
                · rw [e]; exact HR.out i
                · rw [e]; omega
                · rw [e]; omega) hS)
              obtain ⟨y1, hy1⟩ : ∃ y, og n skip d (l ++ [(k : Int)]) = y := ⟨_, rfl⟩
              obtain ⟨y2, hy2⟩ : ∃ y, oa n d (l ++ [(k : Int)]) = y := ⟨_, rfl⟩
              rw [hx1] at g0 g1 HSG ⊢
              rw [hx2] at a0 a1 HSA ⊢
              rw [hy1] at HREC g2 g3 hG1
              rw [hy2] at HREC a2 a3 hA1
              rw [hG1] at HSG
              rw [hA1] at HSA
              have v1 : wrap64 (x1 + y1) = x1 + y1 := IntWalk.wrap64_in _ ⟨by omega, by omega⟩
              have v2' : wrap64 (x2 + y2) = x2 + y2 := IntWalk.wrap64_in _ ⟨by omega, by omega⟩
              clear hx1 hx2 hy1 hy2 hG1 hA1 g0 g1 g2 g3 a0 a1 a2 a3 hkm
              have hll : l.length ≤ 6 := by omega
              have hwf : ∀ i, -9223372036854775808 ≤ nth (l ++ [(k : Int)]) i ∧ nth (l ++ [(k : Int)]) i ≤ 9223372036854775807 := fun i => by
                rcases nth_snoc (l := l) (v := (k : Int)) i with e | e | e
                · rw [e]; have := HR.out i; omega
                · rw [e]; omega
                · rw [e]; omega
              have HWF := Lib.hid hwf
              clear hwf
              cases ao with
              | none =>
                have hle : l = [] := by
                  cases l with
                  | nil => rfl
                  | cons x l => exact absurd (HH.out.at_.ptr (by simp)).1 (by simp)
                have HLE := Lib.hid hle
                have HLZ := Lib.hid (show l.length = 0 by rw [hle]; rfl)
                have HCZ := Lib.hid (HH.out.nil_ hle).2
                clear hle
                go_wp2_with (at_builtin; (first
                  | (refine wpList_append_own_none rfl (.tmp 72) (.tmp 73) 23 rfl wq.heap.size 3 j0 1 Try.underlying23 hj0 _ 0 [] rfl (own_nil _ _) (by show Value.slice none l.length cap = Value.slice none 0 0; rw [HLZ.out, HCZ.out]) ?_)
                  | (refine wpList_append_own _ rfl (.tmp 76) (.tmp 78) 23 rfl wq.heap.size 3 j0 (.int .i64 0) 1 8 Try.underlying23 hj0 jz0 jz1 jz2 rfl (by decide) _ 0 [] rfl (own_nil _ _) ⟨wq.heap.size, 0, none⟩ 1 1 [.int .i64 k] rfl rfl (cell_one_new _ _ _) (by simp [Value.oneCell']) (by unfold maxLen; omega) (by omega) (by simp) ?_)))
                intro v2 w2 hown2 hg2 hvn2
                have hb2 : Below wq.heap.size wq w2 := ((Below.refl _ wq).alloc (Nat.le_refl _) (.cells #[.int .i64 k] 3)).grown hg2 (by simp) (fun r hr => by simp [Value.ownBlock] at hr)
                obtain ⟨ao2, b2, cap2, rfl, hS⟩ := slAt_own (xs := l ++ [(k : Int)]) (by rw [HLE.out]; simpa using hown2) HWF.out (by simp; omega) (by simp)
                have hrx := HREC.out ao2 b2 cap2 w2 hS
                rw [show (l ++ [(k : Int)]).length = l.length + 1 by simp] at hrx
                have HRX := Lib.hid hrx
                have HB4 := Lib.hid (HB.out.trans (hb2.mono hsz))
                clear hown2 hg2 hvn2 hb2 hS hrx
                go_wp2_with fail
                refine HRX.out.mono ?_
                rintro e w3 ⟨rfl, hb3⟩
                have HB5 := Lib.hid (HB4.out.trans (hb3.mono HB4.out.size))
                clear hb3
                go_wp2
                go_roundw
                case rel => exact ⟨k + 1, by omega, by go_num, by rw [HSG.out, v1], by rw [HSA.out, v2'], HB5.out⟩
                case measure => simp [intOf]; omega
              | some ad =>
                have HN := Lib.hid (news_all HQ.out ad rfl)
                have HCP := Lib.hid HH.out.cap_
                go_wp2_with (at_builtin; (refine wpList_append_own _ rfl (.tmp 72) (.tmp 73) 23 rfl wq.heap.size 3 j0 (.int .i64 0) 1 8 Try.underlying23 hj0 jz0 jz1 jz2 rfl (by decide) _ 0 [] rfl (own_nil _ _) ad l.length cap (l.map (Value.int .i64)) rfl ?c1 HN.out (oneCell_ints _) ?c3 ?c4 (Nat.le_refl _) ?_))
                case c3 => unfold maxLen; omega
                case c4 => omega
                intro v' w1 hown hg hvn
                have hb1 : Below wq.heap.size wq w1 := (Below.refl _ _).grown hg (Nat.le_refl _) (fun k hk => by simp [Value.ownBlock] at hk)
                have HB2 := Lib.hid hb1
                have HOW := Lib.hid hown
                have hs1 := hb1.size
                clear hg hvn hb1 hown
                go_wp2_with (at_builtin; refine wpList_append_own _ rfl (.tmp 76) (.tmp 78) 23 rfl wq.heap.size 3 j0 (.int .i64 0) 1 8 Try.underlying23 hj0 jz0 jz1 jz2 rfl (by decide) _ l.length (l.map (Value.int .i64)) rfl (HOW.out.alloc _) ⟨w1.heap.size, 0, none⟩ 1 1 [.int .i64 k] rfl rfl (cell_one_new _ _ _) (by simp [Value.oneCell']) ?e3 ?e4 ?e5 ?_)
                case e3 => unfold maxLen; omega
                case e4 => omega
                case e5 => simp; omega
                intro v2 w2 hown2 hg2 hvn2
                have hb2 : Below wq.heap.size wq w2 := (HB2.out.alloc hs1 (.cells #[.int .i64 k] 3)).grown hg2 (by simp; omega) (fun r hr => own_block HOW.out r hr)
                obtain ⟨ao2, b2, cap2, rfl, hS⟩ := slAt_own (xs := l ++ [(k : Int)]) (by simpa using hown2) HWF.out (by simp; omega) (by simp)
                have hrx := HREC.out ao2 b2 cap2 w2 hS
                rw [show (l ++ [(k : Int)]).length = l.length + 1 by simp] at hrx
                have HRX := Lib.hid hrx
                have HB4 := Lib.hid (HB.out.trans (hb2.mono hsz))
                clear hown2 hg2 hvn2 hb2 hS hrx
                go_wp2_with fail
                refine HRX.out.mono ?_
                rintro e w3 ⟨rfl, hb3⟩
                have HB5 := Lib.hid (HB4.out.trans (hb3.mono HB4.out.size))
                clear hb3
                go_wp2
                go_roundw
                case rel => exact ⟨k + 1, by omega, by go_num, by rw [HSG.out, v1], by rw [HSA.out, v2'], HB5.out⟩
                case measure => simp [intOf]; omega
            · rw [if_pos rfl] at hG1 hA1
              rw [hG1, Int.add_zero] at HSG
              rw [hA1, Int.add_zero] at HSA
              clear hG1 hA1
              go_wp2
              go_roundw
              case rel => exact ⟨k + 1, by omega, by go_num, by rw [HSG.out], by rw [HSA.out], HB.out⟩
              case measure => simp [intOf]; omega
      · obtain rfl : k = n := by omega
        go_wp2
        refine bodyPost_ret (v := .tuple #[.int .i64 (addTo FG k), .int .i64 (addTo FA k)]) (by simp [results, Try.results46, go_sem]) rfl ⟨by rw [HG.out, HA.out], HB.out⟩

end Go.Proofs.Ythnkmmjelpdamaa
