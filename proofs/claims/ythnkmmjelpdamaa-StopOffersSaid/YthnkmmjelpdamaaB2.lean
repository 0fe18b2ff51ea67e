/- Chains: the program's test of all of one. -/
import Derived.Test.YthnkmmjelpdamaaB1
namespace Go.Proofs.Ythnkmmjelpdamaa
open Go.RowKit

/-- The lists are a chain's. -/
structure IsChain (N : List (List Int)) (P C : List Int) : Prop where
  pos : 1 ≤ N.length
  le : N.length ≤ 6
  pay : P.length = N.length
  cost : C.length = N.length
  next : ∀ s, s < N.length → OkNext (row N s) N.length
  payOk : ∀ s, s < N.length → 0 ≤ nth P s ∧ nth P s ≤ 1000
  costOk : ∀ s, s < N.length → 0 ≤ nth C s ∧ nth C s ≤ 100
instance (N : List (List Int)) (P C : List Int) : Decidable (IsChain N P C) :=
  decidable_of_iff (1 ≤ N.length ∧ N.length ≤ 6 ∧ P.length = N.length ∧ C.length = N.length ∧ (∀ s, s < N.length → OkNext (row N s) N.length) ∧ (∀ s, s < N.length → 0 ≤ nth P s ∧ nth P s ≤ 1000) ∧ (∀ s, s < N.length → 0 ≤ nth C s ∧ nth C s ≤ 100))
    ⟨fun ⟨a, b, c, d, e, f, g⟩ => ⟨a, b, c, d, e, f, g⟩, fun ⟨a, b, c, d, e, f, g⟩ => ⟨a, b, c, d, e, f, g⟩⟩
def isChain (N : List (List Int)) (P C : List Int) : Bool := decide (IsChain N P C)

/-- A chain lies in the world. -/
structure ChainAt (w : World) (v : Value) (N : List (List Int)) (P C : List Int) : Prop where
  ex : ∃ na nb no nc A B O D pa pb po pc ca cb co cc, v = .agg #[.slice na N.length nc, .slice pa P.length pc, .slice ca C.length cc] ∧ RowsAt w na nb no N A B O D ∧ IntsAt w pa pb po P ∧ IntsAt w ca cb co C
theorem ChainAt.below {M : Nat} {w w' : World} {v : Value} {N : List (List Int)} {P C : List Int} (h : ChainAt w v N P C) (hb : Below M w w') (hM : w.heap.size ≤ M) : ChainAt w' v N P C := by
  obtain ⟨na, nb, no, nc, A, B, O, D, pa, pb, po, pc, ca, cb, co, cc, h1, h2, h3, h4⟩ := h.ex
  exact ⟨⟨na, nb, no, nc, A, B, O, D, pa, pb, po, pc, ca, cb, co, cc, h1, h2.below hb hM, h3.below hb hM, h4.below hb hM⟩⟩
theorem ChainAt.alloc {w : World} {v : Value} {N : List (List Int)} {P C : List Int} (h : ChainAt w v N P C) (x : Obj) : ChainAt (w.alloc x) v N P C :=
  h.below ((Below.refl _ _).alloc (Nat.le_refl _) x) (Nat.le_refl _)

theorem cells_of3 {W : World} {g : Nat} {x y z : Value} {T : TypeId} (h : W.heap[g]? = some (.cells #[x, y, z] T (0, 0))) :
    W.cell? ⟨g, 0, none⟩ = some x ∧ W.cell? ⟨g, 1, none⟩ = some y ∧ W.cell? ⟨g, 2, none⟩ = some z :=
  ⟨by rw [cell_of_row _ _ _ _ _ _ h]; rfl, by rw [cell_of_row _ _ _ _ _ _ h]; rfl, by rw [cell_of_row _ _ _ _ _ _ h]; rfl⟩

theorem not_chain {N : List (List Int)} {P C : List Int} (h : ¬ IsChain N P C) : isChain N P C = false := decide_eq_false h

set_option maxHeartbeats 4000000 in
set_option maxRecDepth 100000 in
theorem isChain_any (N : List (List Int)) (P C : List Int) (v : Value) (w : World) (h : ChainAt w v N P C) :
    Calls Try.prog 48 #[v] w fun e w' => e = .returned (.bool (isChain N P C)) ∧ Below w.heap.size w w' := by
  obtain ⟨na, nb, no, nc, A, B, O, D, pa, pb, po, pc, ca, cb, co, cc, rfl, hN, hP, hC⟩ := h.ex
  have hln := hN.len
  have hlp := hP.len
  have hlc := hC.len
  have HN := Lib.hid (hN.alloc (.cells #[.slice na N.length nc, .slice pa P.length pc, .slice ca C.length cc] 25))
  have HP := Lib.hid (hP.alloc (.cells #[.slice na N.length nc, .slice pa P.length pc, .slice ca C.length cc] 25))
  have HC := Lib.hid (hC.alloc (.cells #[.slice na N.length nc, .slice pa P.length pc, .slice ca C.length cc] 25))
  have HB := Lib.hid ((Below.refl _ w).alloc (Nat.le_refl _) (.cells #[.slice na N.length nc, .slice pa P.length pc, .slice ca C.length cc] 25))
  obtain ⟨c0, c1, c2⟩ := cells_of3 (heap_alloc_new w (.cells #[.slice na N.length nc, .slice pa P.length pc, .slice ca C.length cc] 25))
  obtain ⟨wa, hwa⟩ : ∃ wa, w.alloc (.cells #[.slice na N.length nc, .slice pa P.length pc, .slice ca C.length cc] 25) = wa := ⟨_, rfl⟩
  rw [hwa] at HN HP HC HB c0 c1 c2
  have HWA := Lib.hid hwa
  have HK := Lib.hid (And.intro c0 (And.intro c1 c2))
  clear hwa h hN hP hC
  have fin : ∀ ok : Bool, isChain N P C = ok → Ending.returned (Value.bool ok) = .returned (.bool (isChain N P C)) := fun ok h => by rw [h]
  have FIN := Lib.hid fin
  clear fin
  by_cases e1 : N.length < 1
  · have t1 : decide ((N.length : Int) < 1) = true := decide_eq_true (by omega)
    have HF := Lib.hid (FIN.out _ (not_chain fun q => by have := q.pos; omega))
    clear e1 c0 c1 c2
    go_enter Try.func48, Try.ntmps48
    go_upto_region 1 with fail
    rw [HWA.out]
    obtain ⟨c0, c1, c2⟩ := HK.out
    go_wp2
    go_ret
    exact ⟨HF.out, HB.out⟩
  · have t1 : decide ((N.length : Int) < 1) = false := decide_eq_false (by omega)
    by_cases e2 : 6 < N.length
    · have t2 : decide (6 < (N.length : Int)) = true := decide_eq_true (by omega)
      have HF := Lib.hid (FIN.out _ (not_chain fun q => by have := q.le; omega))
      clear e1 e2 c0 c1 c2
      go_enter Try.func48, Try.ntmps48
      go_upto_region 1 with fail
      rw [HWA.out]
      obtain ⟨c0, c1, c2⟩ := HK.out
      go_wp2
      go_ret
      exact ⟨HF.out, HB.out⟩
    · have t2 : decide (6 < (N.length : Int)) = false := decide_eq_false (by omega)
      by_cases e3 : P.length = N.length
      · have t3 : ((P.length : Int) != (N.length : Int)) = false := by rw [e3]; simp
        by_cases e4 : C.length = N.length
        · have t4 : ((C.length : Int) != (N.length : Int)) = false := by rw [e4]; simp
          have HE := Lib.hid (And.intro e3 e4)
          have hn1 : 1 ≤ N.length := by omega
          have hn6 : N.length ≤ 6 := by omega
          clear e1 e2 e3 e4 c0 c1 c2
          go_enter Try.func48, Try.ntmps48
          go_upto_region 1 with fail
          rw [HWA.out]
          obtain ⟨c0, c1, c2⟩ := HK.out
          go_wp2
          go_loop [4, 5, 32] (fun _ _ y => ∃ k : Nat, k ≤ N.length ∧ y = .int .i64 k ∧ ∀ s, s < k → OkNext (row N s) N.length ∧ (0 ≤ nth P s ∧ nth P s ≤ 1000) ∧ 0 ≤ nth C s ∧ nth C s ≤ 100) (fun _ _ y => N.length - (intOf y).toNat)
          case atStart => exact ⟨0, by omega, rfl, fun s hs => absurd hs (by omega)⟩
          case round =>
            obtain ⟨k, hk, rfl, hg⟩ := hrel
            have HG := Lib.hid hg
            clear hg
            by_cases hlt : k < N.length
            · obtain ⟨rfl, -⟩ := HN.out.ptr (by omega)
              obtain ⟨rfl, -⟩ := HP.out.ptr (by have := HE.out.1; omega)
              obtain ⟨rfl, -⟩ := HC.out.ptr (by have := HE.out.2; omega)
              have r0 := HN.out.cell k hlt
              have p0 := HP.out.cell k (by have := HE.out.1; omega)
              have q0 := HC.out.cell k (by have := HE.out.2; omega)
              have hkp : k < P.length := by have := HE.out.1; omega
              have hkc : k < C.length := by have := HE.out.2; omega
              have hnx := isNext_any (row N k) N.length (A k) (B k) (O k) (D k) wa (HN.out.rows k hlt) hn6
              obtain ⟨p, hp⟩ : ∃ p, nth P k = p := ⟨_, rfl⟩
              obtain ⟨q, hq⟩ : ∃ q, nth C k = q := ⟨_, rfl⟩
              have HPQ := Lib.hid (And.intro hp hq)
              rw [hp] at p0
              rw [hq] at q0
              clear hp hq
              cases e5 : okNext (row N k) N.length
              · rw [e5] at hnx
                have HF := Lib.hid (FIN.out _ (not_chain fun z => by have := decide_eq_true (z.next k hlt); unfold okNext at e5; rw [e5] at this; cases this))
                have HNX := Lib.hid hnx
                clear e5 hnx
                go_wp2_with fail
                refine HNX.out.mono ?_
                rintro e w' ⟨rfl, rfl⟩
                go_wp2
                go_ret
                exact ⟨HF.out, HB.out⟩
              · rw [e5] at hnx
                have HO := Lib.hid (of_decide_eq_true e5 : OkNext (row N k) N.length)
                have HNX := Lib.hid (hnx.mono fun e w' h => (⟨h.1, h.2.symm⟩ : e = .returned (.bool true) ∧ wa = w'))
                clear e5 hnx
                go_wp2_with fail
                refine HNX.out.mono ?_
                rintro e w' ⟨rfl, rfl⟩
                obtain ⟨b1, f1⟩ : ∃ b, decide (p < 0) = b := ⟨_, rfl⟩
                obtain ⟨b2, f2⟩ : ∃ b, decide (1000 < p) = b := ⟨_, rfl⟩
                obtain ⟨b3, f3⟩ : ∃ b, decide (q < 0) = b := ⟨_, rfl⟩
                obtain ⟨b4, f4⟩ : ∃ b, decide (100 < q) = b := ⟨_, rfl⟩
                have hbad : b1 = true ∨ b2 = true ∨ b3 = true ∨ b4 = true → isChain N P C = false := fun hz => not_chain fun z => by
                  have z1 := z.payOk k hlt
                  have z2 := z.costOk k hlt
                  rw [HPQ.out.1] at z1
                  rw [HPQ.out.2] at z2
                  rw [← f1, ← f2, ← f3, ← f4] at hz
                  simp only [decide_eq_true_eq] at hz
                  omega
                have HBAD := Lib.hid hbad
                have HGOOD := Lib.hid (show b1 = false → b2 = false → b3 = false → b4 = false → (0 ≤ nth P k ∧ nth P k ≤ 1000) ∧ 0 ≤ nth C k ∧ nth C k ≤ 100 from fun g1 g2 g3 g4 => by
                  rw [HPQ.out.1, HPQ.out.2]
                  rw [← f1] at g1
                  rw [← f2] at g2
                  rw [← f3] at g3
                  rw [← f4] at g4
                  simp only [decide_eq_false_iff_not] at g1 g2 g3 g4
                  omega)
                clear hbad
                cases b1
                · cases b2
                  · cases b3
                    · cases b4
                      · have HGD := Lib.hid (HGOOD.out rfl rfl rfl rfl)
                        go_wp2
                        go_round
                        case rel => exact ⟨k + 1, by omega, by go_num, fun s hs => by
                          by_cases e : s = k
                          · subst e; exact ⟨HO.out, HGD.out⟩
                          · exact HG.out s (by omega)⟩
                        case measure => simp [intOf]; omega
                      · have HF := Lib.hid (FIN.out _ (HBAD.out (.inr (.inr (.inr rfl)))))
                        go_wp2
                        go_ret
                        exact ⟨HF.out, HB.out⟩
                    · have HF := Lib.hid (FIN.out _ (HBAD.out (.inr (.inr (.inl rfl)))))
                      go_wp2
                      go_ret
                      exact ⟨HF.out, HB.out⟩
                  · have HF := Lib.hid (FIN.out _ (HBAD.out (.inr (.inl rfl))))
                    go_wp2
                    go_ret
                    exact ⟨HF.out, HB.out⟩
                · have HF := Lib.hid (FIN.out _ (HBAD.out (.inl rfl)))
                  go_wp2
                  go_ret
                  exact ⟨HF.out, HB.out⟩
            · have HF := Lib.hid (FIN.out _ (show isChain N P C = true from decide_eq_true ⟨hn1, hn6, HE.out.1, HE.out.2, fun s hs => (HG.out s (by omega)).1, fun s hs => (HG.out s (by omega)).2.1, fun s hs => (HG.out s (by omega)).2.2⟩))
              go_wp2
              go_ret
              exact ⟨HF.out, HB.out⟩
        · have t4 : ((C.length : Int) != (N.length : Int)) = true := by rw [bne_iff_ne]; omega
          have HF := Lib.hid (FIN.out _ (not_chain fun q => e4 q.cost))
          clear e1 e2 e3 e4 c0 c1 c2
          go_enter Try.func48, Try.ntmps48
          go_upto_region 1 with fail
          rw [HWA.out]
          obtain ⟨c0, c1, c2⟩ := HK.out
          go_wp2
          go_ret
          exact ⟨HF.out, HB.out⟩
      · have t3 : ((P.length : Int) != (N.length : Int)) = true := by rw [bne_iff_ne]; omega
        have HF := Lib.hid (FIN.out _ (not_chain fun q => e3 q.pay))
        clear e1 e2 e3 c0 c1 c2
        go_enter Try.func48, Try.ntmps48
        go_upto_region 1 with fail
        rw [HWA.out]
        obtain ⟨c0, c1, c2⟩ := HK.out
        go_wp2
        go_ret
        exact ⟨HF.out, HB.out⟩

end Go.Proofs.Ythnkmmjelpdamaa
