/- E5 E6 E7 E8 -/
import Derived.Test.YtjibdolhipddbaaQk
import Derived.Test.YtjibdolhipddbaaQj
/- Merging, plain; the rows kept and the numbers, side by side in new memory. -/
namespace Go.Proofs.Ytjibdolhipddbaa
open Go.RowKit Go.Maps

/-- The rows that are kept of the first i. -/
def mgK (a : List (List Int)) : Nat → List (List Int)
  | 0 => []
  | i + 1 => if row a i ∈ mgK a i then mgK a i else mgK a i ++ [row a i]
/-- The number of a row among those kept (how many there are, if it is not). -/
def mgI (a : List (List Int)) (i : Nat) : Nat := (mgK a i).idxOf (row a i)
def mgN (a : List (List Int)) : Nat → List Int
  | 0 => []
  | i + 1 => mgN a i ++ [((mgI a i : Nat) : Int)]
theorem mgN_len (a : List (List Int)) : ∀ i, (mgN a i).length = i
  | 0 => rfl
  | i + 1 => by rw [mgN, List.length_append, mgN_len a i]; rfl
theorem mgK_len (a : List (List Int)) : ∀ i, (mgK a i).length ≤ i
  | 0 => Nat.le_refl _
  | i + 1 => by
    have := mgK_len a i
    rw [mgK]
    split
    · omega
    · rw [List.length_append]; simp; omega
theorem row_mem {X : List (List Int)} {q : Nat} (h : q < X.length) : row X q ∈ X := by
  unfold row; rw [List.getD_eq_getElem?_getD, List.getElem?_eq_getElem h]; exact List.getElem_mem h
theorem mem_row {X : List (List Int)} {x : List Int} (h : x ∈ X) : ∃ q, q < X.length ∧ row X q = x := by
  obtain ⟨q, hq, e⟩ := List.getElem_of_mem h
  exact ⟨q, hq, by rw [← e]; simp [row, List.getD_eq_getElem?_getD, hq]⟩
theorem idx_at : ∀ (X : List (List Int)) (x : List Int) (k : Nat), k < X.length → row X k = x → (∀ q, q < k → row X q ≠ x) → X.idxOf x = k
  | [], _, _, h, _, _ => by simp at h
  | y :: X, x, 0, _, e, _ => by
    have e' : y = x := e
    rw [e', List.idxOf_cons_self]
  | y :: X, x, k + 1, h, e, hq => by
    have hy : y ≠ x := hq 0 (by omega)
    have ih := idx_at X x k (by simpa using h) e fun q hk => hq (q + 1) (by omega)
    rw [List.idxOf_cons]
    rw [show (y == x) = false from beq_eq_false_iff_ne.2 hy]
    simp [ih]
theorem mg_at {a : List (List Int)} {i k : Nat} (hk : k < (mgK a i).length) (e : row (mgK a i) k = row a i) (hq : ∀ q, q < k → row (mgK a i) q ≠ row a i) : mgI a i = k ∧ mgK a (i + 1) = mgK a i :=
  ⟨idx_at _ _ _ hk e hq, by rw [mgK, if_pos (by rw [← e]; exact row_mem hk)]⟩
theorem mg_new {a : List (List Int)} {i : Nat} (hq : ∀ q, q < (mgK a i).length → row (mgK a i) q ≠ row a i) : mgI a i = (mgK a i).length ∧ mgK a (i + 1) = mgK a i ++ [row a i] := by
  have hn : row a i ∉ mgK a i := fun h => by
    obtain ⟨q, h1, h2⟩ := mem_row h
    exact hq q h1 h2
  exact ⟨List.idxOf_eq_length hn, by rw [mgK, if_neg hn]⟩
theorem mgK_rows {a : List (List Int)} : ∀ i, i ≤ a.length → ∀ x ∈ mgK a i, ∃ q, q < a.length ∧ row a q = x
  | 0, _, x, h => by simp [mgK] at h
  | i + 1, hi, x, h => by
    rw [mgK] at h
    split at h
    · exact mgK_rows i (by omega) x h
    · rcases List.mem_append.1 h with h | h
      · exact mgK_rows i (by omega) x h
      · exact ⟨i, by omega, (List.mem_singleton.1 h).symm⟩

/-- Rows kept and numbers in new memory, no row in the numbers' block. -/
structure Mg (B : Nat) (w : World) (v u : Value) (X : List (List Int)) (N : List Int) : Prop where
  ex : ∃ vs : List Value, w.ownsRow B 34 1 v X.length vs ∧ (∀ j, j < X.length → ∃ x, vs[j]? = some x ∧ NewInts B w x (row X j) ∧ (x.ownBlock = none ∨ x.ownBlock ≠ u.ownBlock)) ∧ ∀ x ∈ vs, x.oneCell' = true
  num : NewInts B w u N

theorem Mg.nil (B : Nat) (w : World) : Mg B w (.slice none 0 0) (.slice none 0 0) [] [] :=
  ⟨⟨[], World.ownsRow_nil _ _ _ _, fun j hj => absurd hj (by simp), fun u hu => by cases hu⟩, NewInts.nil _ _⟩
theorem Mg.rows {B : Nat} {w : World} {v u : Value} {X : List (List Int)} {N : List Int} (h : Mg B w v u X N) : NewRows B w v X :=
  let ⟨vs, h1, h2, h3⟩ := h.ex; ⟨vs, h1, fun j hj => let ⟨x, a, b, _⟩ := h2 j hj; ⟨x, a, b⟩, h3⟩
theorem Mg.below {B M : Nat} {w w' : World} {v u : Value} {X : List (List Int)} {N : List Int} (h : Mg B w v u X N) (hb : Below M w w') (hM : w.heap.size ≤ M) : Mg B w' v u X N := by
  obtain ⟨vs, h1, h2, h3⟩ := h.ex
  exact ⟨⟨vs, ownsRow_below h1 hb hM, fun j hj => let ⟨x, a, b, c⟩ := h2 j hj; ⟨x, a, b.below hb hM, c⟩, h3⟩, h.num.below hb hM⟩
/-- A number is added. -/
theorem Mg.number {B : Nat} {w w' : World} {v u u' : Value} {X : List (List Int)} {N : List Int} {n : Int} (h : Mg B w v u X N) (hw : w'.ownsRow B 3 1 u' (N.length + 1) (N.map (Value.int .i64) ++ [.int .i64 n])) (hg : w.grownBy w' u.ownBlock)
    (hloc : u'.ownBlock = u.ownBlock ∨ u'.ownBlock = some w.heap.size) (hn : -9223372036854775808 ≤ n ∧ n ≤ 9223372036854775807) (hl : N.length ≤ 100) : Mg B w' v u' X (N ++ [n]) := by
  obtain ⟨vs, h1, h2, h3⟩ := h.ex
  have hv : v.ownBlock = none ∨ v.ownBlock ≠ u.ownBlock := by
    rcases own_apart h.num h1 with e | e
    · by_cases q : v.ownBlock = none
      · exact .inl q
      · right; rw [e]; exact q
    · exact .inr fun q => e q.symm
  refine ⟨⟨vs, h1.kept hg hv, fun j hj => ?_, h3⟩, ⟨by simpa using hw, fun i => ?_, by simp; omega⟩⟩
  · obtain ⟨x, a, b, c⟩ := h2 j hj
    refine ⟨x, a, b.kept hg c, ?_⟩
    rcases hloc with e | e
    · rw [e]; exact c
    · rcases b.own.2 with ⟨rfl, -⟩ | ⟨g, cp, cur, rfl, -, hh, -⟩
      · exact .inl rfl
      · right
        rw [e]
        have := lt_of_block hh
        simp [Value.ownBlock]
        omega
  · by_cases e : i < N.length
    · rw [show nth (N ++ [n]) i = nth N i by simp [nth, List.getD_eq_getElem?_getD, List.getElem?_append, e]]; exact h.num.wf i
    · by_cases e2 : i = N.length
      · rw [e2, show nth (N ++ [n]) N.length = n by simp [nth, List.getD_eq_getElem?_getD]]; exact hn
      · rw [nth_out (by simp; omega)]; omega

end Go.Proofs.Ytjibdolhipddbaa

/- The program's Merge. -/
namespace Go.Proofs.Ytjibdolhipddbaa
open Go.RowKit Go.Maps

theorem Mg.push {B : Nat} {w1 w' : World} {v v' u x : Value} {X : List (List Int)} {N y : List Int} {vs : List Value} (h1 : w1.ownsRow B 34 1 v X.length vs)
    (h2 : ∀ j, j < X.length → ∃ x, vs[j]? = some x ∧ NewInts B w1 x (row X j) ∧ (x.ownBlock = none ∨ x.ownBlock ≠ u.ownBlock)) (h3 : ∀ x ∈ vs, x.oneCell' = true) (hn : NewInts B w1 u N)
    (hx : NewInts B w1 x y) (hxu : x.ownBlock = none ∨ x.ownBlock ≠ u.ownBlock) (hown : w'.ownsRow B 34 1 v' (X.length + 1) (vs ++ [x])) (hg : w1.grownBy w' v.ownBlock) : Mg B w' v' u (X ++ [y]) N := by
  have hl : vs.length = X.length := by have := h1.1; omega
  refine ⟨⟨vs ++ [x], by simpa using hown, fun j hj => ?_, fun z hz => ?_⟩, hn.kept hg (own_apart hn h1)⟩
  · by_cases e : j < X.length
    · obtain ⟨z, a, b, c⟩ := h2 j e
      exact ⟨z, by rw [List.getElem?_append_left (by omega)]; exact a, by rw [row_append_lt e]; exact b.kept hg (own_apart b h1), c⟩
    · have : j = X.length := by simp at hj; omega
      subst this
      exact ⟨x, by rw [← hl]; simp, by rw [row_append_eq]; exact hx.kept hg (own_apart hx h1), hxu⟩
  · rcases List.mem_append.1 hz with hz | hz
    · exact h3 z hz
    · rw [List.mem_singleton.1 hz]; exact hx.oneCell

set_option maxHeartbeats 4000000 in
set_option maxRecDepth 100000 in
theorem merge_bad (a : List (List Int)) (ao : Option Addr) (b o cap : Nat) (A : Nat → Option Addr) (B O C : Nat → Nat) (w : World) (H : RowsAt w ao b o a A B O C) (hn : isPlan a = false) :
    Calls Try.prog 24 #[.slice ao a.length cap] w fun e w' => e = .returned (.tuple #[.slice none 0 0, .slice none 0 0, .int .i64 2]) ∧ Below w.heap.size w w' := by
  have HT := Lib.hid (toPlan_any a ao b o cap A B O C w H)
  rw [planR_no hn] at HT
  clear hn H
  go_enter Try.func24, Try.ntmps24
  go_wp2_with fail
  go_step3
  go_wp2_with fail
  refine HT.out.mono ?_
  rintro e w1 ⟨rfl, hb⟩
  have HB := Lib.hid hb
  clear hb
  rw [zeroP]
  go_wp2
  rw [Exit.noGoto_ret]
  go_ret3
  exact ⟨rfl, HB.out.alloc HB.out.size _⟩

set_option maxHeartbeats 4000000 in
set_option maxRecDepth 100000 in
theorem merge_ok (a : List (List Int)) (ao : Option Addr) (b o cap : Nat) (A : Nat → Option Addr) (B O C : Nat → Nat) (w : World) (H : RowsAt w ao b o a A B O C) (hC : ∀ i, i < a.length → (row a i).length ≤ C i) (hp : IsPlan a) :
    Calls Try.prog 24 #[.slice ao a.length cap] w fun e w' => ∃ v u, e = .returned (.tuple #[v, u, .int .i64 0]) ∧ NewRows w.heap.size w' v (mgK a a.length) ∧ NewInts w.heap.size w' u (mgN a a.length) ∧ Below w.heap.size w w' := by
  have HT := Lib.hid (toPlan_any a ao b o cap A B O C w H)
  rw [planR_yes (decide_eq_true hp), planV] at HT
  have ha6 := hp.le
  have ha1 := hp.pos
  have HLEN := Lib.hid (show ∀ i, i < a.length → 1 ≤ (row a i).length ∧ (row a i).length ≤ 6 from fun i hi => by rw [hp.len i hi]; exact ⟨hp.pos0, hp.le0⟩)
  have HA := Lib.hid H
  have HCC := Lib.hid hC
  obtain ⟨i0, hi0, hz0, hz1, hz2⟩ := info_parts Try.info3
  obtain ⟨j0, hj0, jz0, jz1, jz2⟩ := info_parts Try.info34
  clear H hp hC
  go_enter Try.func24, Try.ntmps24
  obtain ⟨PC, hPC⟩ : ∃ PC, planC a.length (row a 0).length (mt a) = PC := ⟨_, rfl⟩
  have hpall : PC.all (·.oneCell') = true := by rw [← hPC]; simp [Value.oneCell', planC, sv]
  have hpsz : (Try.prog.info? 63).map (·.size) = some PC.size := by rw [← hPC]; kernel_rfl
  have hp3 : (#[Value.int .i64 0, .int .i64 0, .int .u64 0] : Array Value).size = PC.size := by rw [← hPC]; rfl
  rw [hPC] at HT
  have HPA := Lib.hid (And.intro hpall (And.intro hpsz hp3))
  clear hPC hpall hpsz hp3
  go_wp2_with fail
  go_step3
  go_wp2_with fail
  refine HT.out.mono ?_
  rintro e w1 ⟨rfl, hb⟩
  have HB1 := Lib.hid (below_setRow (hb.alloc hb.size (.cells #[.int .i64 0, .int .i64 0, .int .u64 0] 63)) hb.size PC (g := w1.heap.size))
  clear hb
  go_wp2_with (first
    | (refine wpList_store_row rfl 63 (.tmp 5) (.tmp 16) rfl w1.heap.size _ rfl rfl 63 _ (heap_alloc_new _ _) HPA.out.2.1 HPA.out.2.2 HPA.out.1 ?_)
    | (fail))
  go_step3
  go_wp2
  clear HPA HT
  go_loopg [7, 8, 10, 11, 12, 22] a.length (fun g s7 s8 _ _ _ x wr => ∃ i : Nat, i + g = a.length ∧ x = .int .i64 i ∧ Mg w.heap.size wr s7 s8 (mgK a i) (mgN a i) ∧ Below w.heap.size w wr)
  case atStart => exact ⟨0, by omega, rfl, Mg.nil _ _, HB1.out⟩
  case round =>
    clear HB1
    obtain ⟨i, hi, rfl, hmg, hb⟩ := hrel
    obtain ⟨gm, rfl⟩ : ∃ x, x = gk := ⟨_, rfl⟩
    obtain ⟨su, rfl⟩ : ∃ x, x = u8 := ⟨_, rfl⟩
    have hkl := mgK_len a i
    obtain ⟨vo, vb, vc, VA, VB, VO, VC, rfl, hat⟩ := hmg.rows.at (by omega)
    have HM := Lib.hid hmg
    have HB := Lib.hid hb
    have HK := Lib.hid hat
    clear hmg hb hat
    by_cases hlt : i < a.length
    · have ha := HA.out.below HB.out (Nat.le_refl _)
      obtain ⟨rfl, -⟩ := ha.ptr (by omega)
      have c0 := ha.cell i hlt
      have HRW := Lib.hid (HA.out.rows i hlt)
      have HR := Lib.hid (ha.rows i hlt)
      clear ha
      obtain ⟨hAi, -⟩ := HR.out.ptr (HLEN.out i hlt).1
      rw [hAi] at c0 HR HRW
      clear hAi
      obtain ⟨ws, rfl⟩ : ∃ ws : World, ws = wr := ⟨_, rfl⟩
      go_wp2
      clear c0
      go_loopg [8, 11, 12, 28] (mgK a i).length (fun g s8 _ _ x wr => ∃ k : Nat, k + g = (mgK a i).length ∧ x = .int .i64 k ∧ s8 = su ∧ (∀ q, q < k → row (mgK a i) q ≠ row a i) ∧ ∃ m, wr = ws.drewN m)
      case atStart => exact ⟨0, by omega, rfl, rfl, fun q hq => absurd hq (by omega), 0, rfl⟩
      case round =>
        obtain ⟨k, hk, rfl, rfl, hq, md, hmd⟩ := hrel
        have HQ := Lib.hid hq
        have HBM := Lib.hid (show Below ws.heap.size ws wr by rw [hmd]; exact below_drewN (Below.refl _ _) _)
        have HMD := Lib.hid (show ∀ n, ∃ m, wr.drewN n = ws.drewN m from fun n => ⟨_, by rw [hmd]; exact World.drewN_drewN _ _ _⟩)
        clear hq hmd
        by_cases hkk : k < (mgK a i).length
        · have hk2 := HK.out.below HBM.out (Nat.le_refl _)
          obtain ⟨rfl, -⟩ := hk2.ptr (by omega)
          have c1 := hk2.cell k hkk
          rw [Nat.zero_add] at c1
          have HR1 := Lib.hid (HR.out.below HBM.out (Nat.le_refl _))
          have HR2 := Lib.hid (hk2.rows k hkk)
          clear hk2
          have HEQ := Lib.hid (equal_any (row a i) (row (mgK a i) k) _ _ _ _ (C i) _ _ (VC k) wr HR1.out HR2.out)
          by_cases e : row (mgK a i) k = row a i
          · have HE := Lib.hid (mg_at hkk e HQ.out)
            have hd : decide (row a i = row (mgK a i) k) = true := decide_eq_true e.symm
            unfold Hid at HEQ
            simp only [hd] at HEQ
            have HEQ := Lib.hid HEQ
            clear e hd
            go_wp2_with fail
            refine HEQ.out.mono ?_
            rintro e w2 ⟨rfl, hm2⟩
            have HB2 := Lib.hid (show Below ws.heap.size ws w2 by obtain ⟨m, rfl⟩ := hm2; exact below_drewN HBM.out _)
            clear c1 hm2 HEQ
            have HML := Lib.hid (show (mgN a i).length = i from mgN_len a i)
            have HMA := Lib.hid (HM.out.below (HB2.out.alloc HB2.out.size (.cells #[.int .i64 k] 3)) (Nat.le_refl _))
            go_wp2_with (first
              | (at_builtin; refine wpList_append_own_at _ rfl (.tmp 36) (.tmp 38) 34 rfl w.heap.size 3 i0 (.int .i64 0) 1 8 Try.underlying34 hi0 hz0 hz1 hz2 rfl (by decide) u8 (mgN a i).length ((mgN a i).map (Value.int .i64)) rfl HMA.out.num.own ⟨w2.heap.size, 0, none⟩ 1 1 [.int .i64 k] rfl rfl (cell_one_new _ _ _) (by simp [Value.oneCell']) ?q2 ?q3 ?q4 ?_)
              | (fail))
            case q2 => have := HML.out; unfold maxLen; omega
            case q3 => have := HML.out; omega
            case q4 => have := HB.out.size; have := HB2.out.size; simp; omega
            intro u' w9 hown hgrow _ hloc
            have HM9 := Lib.hid (HMA.out.number hown hgrow (by rw [World.size_alloc]; exact hloc) (by have := hkk; omega) (by rw [HML.out]; omega))
            have HB9 := Lib.hid ((HB.out.trans (HB2.out.mono HB.out.size)).alloc (Nat.le_trans HB.out.size HB2.out.size) (.cells #[.int .i64 k] 3) |>.grown hgrow (by have := HB.out.size; have := HB2.out.size; simp; omega) (fun r hr => (HMA.out.num.own.lt r hr).1))
            clear hown hgrow hloc HMA
            go_wp2
            go_roundg (gm - 1)
            case measure => omega
            case rel => exact ⟨i + 1, by omega, by go_num, by rw [HE.out.2, mgN, HE.out.1]; exact HM9.out, HB9.out⟩
          · have HQ2 := Lib.hid (show ∀ q, q < k + 1 → row (mgK a i) q ≠ row a i from fun q hq => by
              by_cases eq : q = k
              · subst eq; exact e
              · exact HQ.out q (by omega))
            have hd : decide (row a i = row (mgK a i) k) = false := decide_eq_false fun q => e q.symm
            unfold Hid at HEQ
            simp only [hd] at HEQ
            have HEQ := Lib.hid HEQ
            clear e hd
            go_wp2_with fail
            refine HEQ.out.mono ?_
            rintro e w2 ⟨rfl, m2, rfl⟩
            clear c1 HEQ
            go_wp2
            go_roundg (gk - 1)
            case measure => omega
            case rel => exact ⟨k + 1, by omega, by go_num, rfl, HQ2.out, HMD.out m2⟩
        · have hkn : k = (mgK a i).length := by omega
          have HE := Lib.hid (mg_new (a := a) (i := i) (by rw [← hkn]; exact HQ.out))
          have HML := Lib.hid (show (mgN a i).length = i from mgN_len a i)
          have HMA := Lib.hid (HM.out.below (HBM.out.alloc HBM.out.size (.cells #[.int .i64 (mgK a i).length] 3)) (Nat.le_refl _))
          clear HQ HMD
          go_wp2_with (first
              | (at_builtin; refine wpList_append_own_at _ rfl (.tmp 41) (.tmp 44) 34 rfl w.heap.size 3 i0 (.int .i64 0) 1 8 Try.underlying34 hi0 hz0 hz1 hz2 rfl (by decide) u8 (mgN a i).length ((mgN a i).map (Value.int .i64)) rfl HMA.out.num.own ⟨wr.heap.size, 0, none⟩ 1 1 [.int .i64 (mgK a i).length] rfl rfl (cell_one_new _ _ _) (by simp [Value.oneCell']) ?q2 ?q3 ?q4 ?_)
              | (fail))
          case q2 => have := HML.out; unfold maxLen; omega
          case q3 => have := HML.out; omega
          case q4 => have := HB.out.size; have := HBM.out.size; simp; omega
          intro u' w9 hown hgrow _ hloc
          have HM9 := Lib.hid (HMA.out.number hown hgrow (by rw [World.size_alloc]; exact hloc) (by omega) (by rw [HML.out]; omega))
          have HBB := Lib.hid ((HB.out.trans (HBM.out.mono HB.out.size)).alloc (Nat.le_trans HB.out.size HBM.out.size) (.cells #[.int .i64 (mgK a i).length] 3) |>.grown hgrow (by have := HB.out.size; have := HBM.out.size; simp; omega) (fun r hr => (HMA.out.num.own.lt r hr).1))
          clear hown hgrow hloc HMA
          go_wp2_with fail
          refine (clone_any (row a i) (B i) (O i) (C i) w9 (HRW.out.below HBB.out (Nat.le_refl _)) (HLEN.out i hlt).1 (HLEN.out i hlt).2 (HCC.out i hlt)).mono ?_
          rintro e w10 ⟨x, rfl, hx, hb10⟩
          have HM10 := HM9.out.below hb10 (Nat.le_refl _)
          obtain ⟨vs, e1, e2, e3⟩ := HM10.ex
          have hxu : x.ownBlock = none ∨ x.ownBlock ≠ u'.ownBlock := by
            rcases hxb : x.ownBlock with _ | r
            · exact .inl rfl
            · right
              intro q
              have q1 := (hx.own.lt r hxb).1
              have q2 := (HM9.out.num.own.lt r q.symm).2
              omega
          obtain ⟨xo, xb, xc, rfl, -, -⟩ := hx.at
          have hx1 := hx.oneCell
          have HBC := Lib.hid (HBB.out.trans (hb10.mono HBB.out.size))
          have HX := Lib.hid ((hx.mono HBB.out.size).below ((Below.refl _ w10).alloc (Nat.le_refl _) (.cells #[.slice xo (row a i).length xc] 34)) (Nat.le_refl _))
          have HXU := Lib.hid hxu
          have HM11 := Lib.hid (HM10.num.below ((Below.refl _ w10).alloc (Nat.le_refl _) (.cells #[.slice xo (row a i).length xc] 34)) (Nat.le_refl _))
          have HE2 := Lib.hid (show ∀ j, j < (mgK a i).length → ∃ z, vs[j]? = some z ∧ NewInts w.heap.size (w10.alloc (.cells #[.slice xo (row a i).length xc] 34)) z (row (mgK a i) j) ∧ (z.ownBlock = none ∨ z.ownBlock ≠ u'.ownBlock) from fun j hj => let ⟨z, q1, q2, q3⟩ := e2 j hj; ⟨z, q1, q2.below ((Below.refl _ _).alloc (Nat.le_refl _) _) (Nat.le_refl _), q3⟩)
          have HE3 := Lib.hid e3
          have HE1 := Lib.hid (ownsRow_below e1 ((Below.refl _ w10).alloc (Nat.le_refl _) (.cells #[.slice xo (row a i).length xc] 34)) (Nat.le_refl _))
          clear hb10 HM10 e1 e2 e3 hx hxu HM9 HBB HRW
          go_wp2_with (first
              | (at_builtin; refine wpList_append_own_at _ rfl (.tmp 46) (.tmp 49) 22 rfl w.heap.size 34 j0 (.slice none 0 0) 1 24 Try.underlying22 hj0 jz0 jz1 jz2 rfl (by decide) (.slice vo (mgK a i).length vc) (mgK a i).length vs rfl HE1.out ⟨w10.heap.size, 0, none⟩ 1 1 [.slice xo (row a i).length xc] rfl rfl (cell_one_new _ _ _) (by simp [oneCell_slice]) ?q2 ?q3 ?q4 ?_)
              | (fail))
          case q2 => unfold maxLen; omega
          case q3 => omega
          case q4 => have := HBC.out.size; simp; omega
          intro v' w12 hown hgrow _ _
          have HP := Lib.hid (Mg.push HE1.out HE2.out HE3.out HM11.out HX.out HXU.out hown hgrow)
          have HBD := Lib.hid ((HBC.out.alloc HBC.out.size (.cells #[.slice xo (row a i).length xc] 34)).grown hgrow (by have := HBC.out.size; simp; omega) (fun r hr => (HE1.out.lt r hr).1))
          clear hown hgrow
          go_wp2
          go_roundg (gm - 1)
          case measure => omega
          case rel => exact ⟨i + 1, by omega, by go_num, by rw [HE.out.2, mgN, HE.out.1]; exact HP.out, HBD.out⟩
    · have hia : i = a.length := by omega
      subst hia
      go_wp2
      rw [Exit.noGoto_ret]
      go_ret3
      exact ⟨_, _, rfl, HM.out.rows, HM.out.num, HB.out⟩

end Go.Proofs.Ytjibdolhipddbaa

/- The reference's Merge. -/
namespace Go.Proofs.Ytjibdolhipddbaa
open Go.RowKit Go.Maps

set_option maxHeartbeats 4000000 in
set_option maxRecDepth 100000 in
theorem refMerge_any (a : List (List Int)) (ao : Option Addr) (b o cap : Nat) (A : Nat → Option Addr) (B O C : Nat → Nat) (w : World) (H : RowsAt w ao b o a A B O C) (hC : ∀ i, i < a.length → (row a i).length ≤ C i) (hp : IsPlan a) :
    Calls Try.prog 25 #[.slice ao a.length cap] w fun e w' => ∃ v u, e = .returned (.tuple #[v, u]) ∧ NewRows w.heap.size w' v (mgK a a.length) ∧ NewInts w.heap.size w' u (mgN a a.length) ∧ Below w.heap.size w w' := by
  have ha6 := hp.le
  have ha1 := hp.pos
  have HLEN := Lib.hid (show ∀ i, i < a.length → 1 ≤ (row a i).length ∧ (row a i).length ≤ 6 from fun i hi => by rw [hp.len i hi]; exact ⟨hp.pos0, hp.le0⟩)
  have HSL := Lib.hid (show ∀ i k, i < a.length → k < (mgK a i).length → (row (mgK a i) k).length = (row a i).length from fun i k hi hk => by
    obtain ⟨q, hq, e⟩ := mgK_rows i (by omega) _ (row_mem hk)
    rw [← e, hp.len q hq, hp.len i hi])
  have HA := Lib.hid H
  have HCC := Lib.hid hC
  obtain ⟨i0, hi0, hz0, hz1, hz2⟩ := info_parts Try.info3
  obtain ⟨j0, hj0, jz0, jz1, jz2⟩ := info_parts Try.info34
  clear H hp hC
  go_enter Try.func25, Try.ntmps25
  go_wp2
  go_loopw [4, 5, 6, 7, 8] (fun s4 s5 x _ _ wr => ∃ i : Nat, i ≤ a.length ∧ x = .int .i64 i ∧ Mg w.heap.size wr s4 s5 (mgK a i) (mgN a i) ∧ Below w.heap.size w wr) (fun _ _ x _ _ _ => a.length - (intOf x).toNat)
  case atStart => exact ⟨0, by omega, rfl, Mg.nil _ _, Below.refl _ _⟩
  case round =>
    obtain ⟨i, hi, rfl, hmg, hb⟩ := hrel
    have hkl := mgK_len a i
    obtain ⟨vo, vb, vc, VA, VB, VO, VC, rfl, hat⟩ := hmg.rows.at (by omega)
    obtain ⟨uo, ub, uc, rfl, -, -⟩ := hmg.num.at
    have HM := Lib.hid hmg
    have HB := Lib.hid hb
    have HK := Lib.hid hat
    clear hmg hb hat
    by_cases hlt : i < a.length
    · have ha := HA.out.below HB.out (Nat.le_refl _)
      obtain ⟨rfl, -⟩ := ha.ptr (by omega)
      have HC0 := Lib.hid (ha.cell i hlt)
      have HRW := Lib.hid (HA.out.rows i hlt)
      have HR := Lib.hid (ha.rows i hlt)
      clear ha
      obtain ⟨hAi, -⟩ := HR.out.ptr (HLEN.out i hlt).1
      rw [hAi] at HC0 HR HRW
      clear hAi
      have hab := (HA.out.ptr (by omega)).2
      have HAS := Lib.hid (show b < wr.heap.size from Nat.lt_of_lt_of_le hab HB.out.size)
      clear hab
      obtain ⟨ws, rfl⟩ : ∃ ws : World, ws = wr := ⟨_, rfl⟩
      go_wp2
      go_loopw [7] (fun x wr => ∃ k : Nat, k ≤ (mgK a i).length ∧ x = .int .i64 k ∧ (∀ q, q < k → row (mgK a i) q ≠ row a i) ∧ ∃ m, wr = ws.drewN m) (fun x _ => (mgK a i).length - (intOf x).toNat)
      case atStart => exact ⟨0, by omega, rfl, fun q hq => absurd hq (by omega), 0, rfl⟩
      case round =>
        obtain ⟨k, hk, rfl, hq, md, hmd⟩ := hrel
        have HQ := Lib.hid hq
        have HBM := Lib.hid (show Below ws.heap.size ws wr by rw [hmd]; exact below_drewN (Below.refl _ _) _)
        have HMD := Lib.hid (show ∀ n, ∃ m, wr.drewN n = ws.drewN m from fun n => ⟨_, by rw [hmd]; exact World.drewN_drewN _ _ _⟩)
        clear hq hmd
        by_cases hkk : k < (mgK a i).length
        · have hk2 := HK.out.below HBM.out (Nat.le_refl _)
          obtain ⟨rfl, -⟩ := hk2.ptr (by omega)
          have c1 := hk2.cell k hkk
          rw [Nat.zero_add] at c1
          have c0 := (HBM.out.cell (p := ⟨b, o + i, none⟩) HAS.out).trans HC0.out
          have HR1 := Lib.hid (HR.out.below HBM.out (Nat.le_refl _))
          have HR2 := Lib.hid (hk2.rows k hkk)
          clear hk2
          have HEQ := Lib.hid (fun n => refSame_any (row (mgK a i) k) (row a i) _ _ _ _ (VC k) _ _ (C i) (wr.drewN n) (HR2.out.below (below_drewN (Below.refl _ _) n) (Nat.le_refl _)) (HR1.out.below (below_drewN (Below.refl _ _) n) (Nat.le_refl _)) (HSL.out i k hlt hkk))
          by_cases e : row (mgK a i) k = row a i
          · have HE := Lib.hid (mg_at hkk e HQ.out)
            have hd : decide (row (mgK a i) k = row a i) = true := decide_eq_true e
            unfold Hid at HEQ
            simp only [hd] at HEQ
            have HEQ := Lib.hid HEQ
            have ht : ((k : Int) == ((mgK a i).length : Int)) = false := beq_eq_false_iff_ne.2 (by omega)
            clear e hd
            go_wp2
            go_quiet (exact Calls.quiet_of (HEQ.out _))
            obtain ⟨w2, hw2⟩ : ∃ w2, wr.drewN nq = w2 := ⟨_, rfl⟩
            have HB2 := Lib.hid (show Below ws.heap.size ws w2 by rw [← hw2]; exact below_drewN HBM.out _)
            rw [hw2]
            clear c0 c1 hw2 HEQ HMD HBM
            have HML := Lib.hid (show (mgN a i).length = i from mgN_len a i)
            have HMA := Lib.hid (HM.out.below (HB2.out.alloc HB2.out.size (.cells #[.int .i64 k] 3)) (Nat.le_refl _))
            go_wp2_with (first
              | (at_builtin; refine wpList_append_own_at _ rfl (.tmp 46) (.tmp 48) 34 rfl w.heap.size 3 i0 (.int .i64 0) 1 8 Try.underlying34 hi0 hz0 hz1 hz2 rfl (by decide) (.slice uo (mgN a i).length uc) (mgN a i).length ((mgN a i).map (Value.int .i64)) rfl HMA.out.num.own ⟨w2.heap.size, 0, none⟩ 1 1 [.int .i64 k] rfl rfl (cell_one_new _ _ _) (by simp [Value.oneCell']) ?q2 ?q3 ?q4 ?_)
              | (fail))
            case q2 => have := HML.out; unfold maxLen; omega
            case q3 => have := HML.out; omega
            case q4 => have := HB.out.size; have := HB2.out.size; simp; omega
            intro u' w9 hown hgrow _ hloc
            have HM9 := Lib.hid (HMA.out.number hown hgrow (by rw [World.size_alloc]; exact hloc) (by have := hkk; omega) (by rw [HML.out]; omega))
            have HB9 := Lib.hid ((HB.out.trans (HB2.out.mono HB.out.size)).alloc (Nat.le_trans HB.out.size HB2.out.size) (.cells #[.int .i64 k] 3) |>.grown hgrow (by have := HB.out.size; have := HB2.out.size; simp; omega) (fun r hr => (HMA.out.num.own.lt r hr).1))
            clear hown hgrow hloc HMA
            go_wp2
            go_roundw
            case measure => simp [intOf]; omega
            case rel => exact ⟨i + 1, by omega, by go_num, by rw [HE.out.2, mgN, HE.out.1]; exact HM9.out, HB9.out⟩
          · have HQ2 := Lib.hid (show ∀ q, q < k + 1 → row (mgK a i) q ≠ row a i from fun q hq => by
              by_cases eq : q = k
              · subst eq; exact e
              · exact HQ.out q (by omega))
            have hd : decide (row (mgK a i) k = row a i) = false := decide_eq_false e
            unfold Hid at HEQ
            simp only [hd] at HEQ
            have HEQ := Lib.hid HEQ
            clear e hd
            go_wp2
            go_quiet (exact Calls.quiet_of (HEQ.out _))
            clear c0 c1 HEQ
            go_wp2
            go_roundw
            case measure => simp [intOf]; omega
            case rel => exact ⟨k + 1, by omega, by go_num, HQ2.out, HMD.out _⟩
        · have hkn : k = (mgK a i).length := by omega
          have HE := Lib.hid (mg_new (a := a) (i := i) (by rw [← hkn]; exact HQ.out))
          subst hkn
          go_wp2
          go_quiet (fail)
          obtain ⟨w2, hw2⟩ : ∃ w2, wr.drewN nq = w2 := ⟨_, rfl⟩
          have HB2 := Lib.hid (show Below ws.heap.size ws w2 by rw [← hw2]; exact below_drewN HBM.out _)
          rw [hw2]
          clear hw2 HMD HBM
          have c0 := (HB2.out.cell (p := ⟨b, o + i, none⟩) HAS.out).trans HC0.out
          have HXW := Lib.hid (HR.out.below HB2.out (Nat.le_refl _))
          have HNA := Lib.hid (show ∀ (j : Nat) (u : Value), ((row a i).map (Value.int .i64))[j]? = some u → w2.cell? ((⟨B i, O i, none⟩ : Addr).add j) = some u from fun j u hj => by
            have := news_at HXW.out ⟨B i, O i, none⟩ rfl (row a i).length j u
            rw [List.take_length] at this
            exact this hj)
          have hl6 := (HLEN.out i hlt).2
          have hcc := HCC.out i hlt
          go_wp2_with (first
              | (at_builtin; refine wpList_append_own _ rfl (.tmp 38) (.tmp 42) 34 rfl w2.heap.size 3 i0 (.int .i64 0) 1 8 Try.underlying34 hi0 hz0 hz1 hz2 rfl (by decide) (.slice none 0 0) 0 [] rfl (own_nil _ _) ⟨B i, O i, none⟩ (row a i).length (C i) ((row a i).map (Value.int .i64)) rfl ?qc1 HNA.out ?qc3 ?qc4 ?qc5 ?qc6 ?_)
              | (fail))
          case qc1 => simp
          case qc3 => exact oneCell_ints _
          case qc4 => unfold maxLen; omega
          case qc5 => omega
          case qc6 => first | omega | simp
          intro x w10 hown hgrow _
          have hx : NewInts w2.heap.size w10 x (row a i) := ⟨by simpa using hown, HXW.out.wf, HXW.out.len⟩
          have hb10 : Below w2.heap.size w2 w10 := (Below.refl _ w2).grown hgrow (Nat.le_refl _) (fun r hr => by simp [Value.ownBlock] at hr)
          have HM9 := HM.out.below HB2.out (Nat.le_refl _)
          have HM10 := HM9.below hb10 (Nat.le_refl _)
          have hxu : x.ownBlock = none ∨ x.ownBlock ≠ (Value.slice uo (mgN a i).length uc).ownBlock := by
            rcases hxb : x.ownBlock with _ | r
            · exact .inl rfl
            · right
              intro q
              have q1 := (hx.own.lt r hxb).1
              have q2 := (HM9.num.own.lt r q.symm).2
              omega
          obtain ⟨xo, xb, xc, rfl, -, -⟩ := hx.at
          obtain ⟨vs, e1, e2, e3⟩ := HM10.ex
          have HBB := Lib.hid (HB.out.trans (HB2.out.mono HB.out.size))
          have HBC := Lib.hid (HBB.out.trans (hb10.mono HBB.out.size))
          have HX := Lib.hid ((hx.mono HBB.out.size).below ((Below.refl _ w10).alloc (Nat.le_refl _) (.cells #[.slice xo (row a i).length xc] 34)) (Nat.le_refl _))
          have HXU := Lib.hid hxu
          have HM11 := Lib.hid (HM10.num.below ((Below.refl _ w10).alloc (Nat.le_refl _) (.cells #[.slice xo (row a i).length xc] 34)) (Nat.le_refl _))
          have HE2 := Lib.hid (show ∀ j, j < (mgK a i).length → ∃ z, vs[j]? = some z ∧ NewInts w.heap.size (w10.alloc (.cells #[.slice xo (row a i).length xc] 34)) z (row (mgK a i) j) ∧ (z.ownBlock = none ∨ z.ownBlock ≠ (Value.slice uo (mgN a i).length uc).ownBlock) from fun j hj => let ⟨z, q1, q2, q3⟩ := e2 j hj; ⟨z, q1, q2.below ((Below.refl _ _).alloc (Nat.le_refl _) _) (Nat.le_refl _), q3⟩)
          have HE3 := Lib.hid e3
          have HE1 := Lib.hid (ownsRow_below e1 ((Below.refl _ w10).alloc (Nat.le_refl _) (.cells #[.slice xo (row a i).length xc] 34)) (Nat.le_refl _))
          clear hown hgrow hb10 HM10 e1 e2 e3 hx hxu HM9 HBB c0
          go_wp2_with (first
              | (at_builtin; refine wpList_append_own_at _ rfl (.tmp 37) (.tmp 44) 22 rfl w.heap.size 34 j0 (.slice none 0 0) 1 24 Try.underlying22 hj0 jz0 jz1 jz2 rfl (by decide) (.slice vo (mgK a i).length vc) (mgK a i).length vs rfl HE1.out ⟨w10.heap.size, 0, none⟩ 1 1 [.slice xo (row a i).length xc] rfl rfl (cell_one_new _ _ _) (by simp [oneCell_slice]) ?q2 ?q3 ?q4 ?_)
              | (fail))
          case q2 => unfold maxLen; omega
          case q3 => omega
          case q4 => have := HBC.out.size; simp; omega
          intro v' w12 hown hgrow _ _
          have HP := Lib.hid (Mg.push HE1.out HE2.out HE3.out HM11.out HX.out HXU.out hown hgrow)
          have HBD := Lib.hid ((HBC.out.alloc HBC.out.size (.cells #[.slice xo (row a i).length xc] 34)).grown hgrow (by have := HBC.out.size; simp; omega) (fun r hr => (HE1.out.lt r hr).1))
          clear hown hgrow HE1 HE2 HE3 HM11 HX HXU HBC
          have HML := Lib.hid (show (mgN a i).length = i from mgN_len a i)
          have HMA := Lib.hid (HP.out.below ((Below.refl _ w12).alloc (Nat.le_refl _) (.cells #[.int .i64 (mgK a i).length] 3)) (Nat.le_refl _))
          go_wp2_with (first
              | (at_builtin; refine wpList_append_own_at _ rfl (.tmp 46) (.tmp 48) 34 rfl w.heap.size 3 i0 (.int .i64 0) 1 8 Try.underlying34 hi0 hz0 hz1 hz2 rfl (by decide) (.slice uo (mgN a i).length uc) (mgN a i).length ((mgN a i).map (Value.int .i64)) rfl HMA.out.num.own ⟨w12.heap.size, 0, none⟩ 1 1 [.int .i64 (mgK a i).length] rfl rfl (cell_one_new _ _ _) (by simp [Value.oneCell']) ?q2 ?q3 ?q4 ?_)
              | (fail))
          case q2 => have := HML.out; unfold maxLen; omega
          case q3 => have := HML.out; omega
          case q4 => have := HBD.out.size; simp; omega
          intro u' w13 hown hgrow _ hloc
          have HM13 := Lib.hid (HMA.out.number hown hgrow (by rw [World.size_alloc]; exact hloc) (by omega) (by rw [HML.out]; omega))
          have HBE := Lib.hid ((HBD.out.alloc HBD.out.size (.cells #[.int .i64 (mgK a i).length] 3)).grown hgrow (by have := HBD.out.size; simp; omega) (fun r hr => (HMA.out.num.own.lt r hr).1))
          clear hown hgrow hloc HMA
          go_wp2
          go_roundw
          case measure => simp [intOf]; omega
          case rel => exact ⟨i + 1, by omega, by go_num, by rw [HE.out.2, mgN, HE.out.1]; exact HM13.out, HBE.out⟩
    · have hia : i = a.length := by omega
      subst hia
      go_wp2
      go_ret2
      exact ⟨_, _, rfl, HM.out.rows, HM.out.num, HB.out⟩

end Go.Proofs.Ytjibdolhipddbaa

/- LocksMerges, walked. -/
namespace Go.Proofs.Ytjibdolhipddbaa
open Go.RowKit Go.Maps

theorem NewRows.at2 {B : Nat} {w : World} {v : Value} {xss : List (List Int)} (h : NewRows B w v xss) (hl : xss.length ≤ 140737488351232) :
    ∃ ao b cap A B' O C, v = .slice ao xss.length cap ∧ RowsAt w ao b 0 xss A B' O C ∧ ∀ i, i < xss.length → (row xss i).length ≤ C i := by
  obtain ⟨vs, h1, h2, _⟩ := h.ex
  obtain ⟨ao, b, cap, A, B', O, C, rfl, hr⟩ := h.at hl
  refine ⟨ao, b, cap, A, B', O, C, rfl, hr, fun i hi => ?_⟩
  obtain ⟨u, e, hu⟩ := h2 i hi
  have hc := hr.cell i hi
  rcases h1.2 with ⟨_, h0⟩ | ⟨g, cap', cur, hs, hg, hh, hcap, hm, hcs, htk⟩
  · omega
  · obtain ⟨rfl, -⟩ := hr.ptr (by omega)
    obtain ⟨rfl, -⟩ : b = g ∧ cap = cap' := by simpa using hs
    have e' : cur[i]? = vs[i]? := by
      rw [← htk, List.getElem?_take, if_pos (by omega)]; simp
    have e2 : w.cell? ⟨b, 0 + i, none⟩ = some u := by simp [World.cell?, hh, e', e]
    rw [hc] at e2
    have e3 := Option.some.inj e2
    rcases hu.own.2 with ⟨q, h0⟩ | ⟨g', cp, cur', q, -, -, hcp, -⟩
    · omega
    · rw [q] at e3
      have : C i = cp := by injection e3
      omega

set_option maxHeartbeats 4000000 in
set_option maxRecDepth 100000 in
theorem merges_any (L : List (List Int)) (ao : Option Addr) (b o cap : Nat) (A : Nat → Option Addr) (B O C : Nat → Nat) (w : World) (H : RowsAt w ao b o L A B O C) (hc : CapsOk L A C) :
    Calls Try.prog 5 #[.slice ao L.length cap] w fun e w' => e = .returned (.bool true) ∧ Below w.heap.size w w' := by
  have HT := Lib.hid (table_any L ao b o cap A B O C w H hc)
  clear H hc
  go_enter Try.func5, Try.ntmps5
  go_wp2_with fail
  refine HT.out.mono ?_
  rintro e w1 ⟨⟨v, rfl, hr⟩, hb⟩
  obtain ⟨X, hX⟩ : ∃ X, trim8 L = X := ⟨_, rfl⟩
  have hX8 : X.length ≤ 8 := by rw [← hX, trim8, List.length_map, List.length_take]; omega
  rw [hX] at hr
  obtain ⟨xo, xb, xc, XA, XB, XO, XC, rfl, hat, hcap⟩ := hr.at2 (by omega)
  have HX := Lib.hid hat
  have HCAP := Lib.hid hcap
  have HB1 := Lib.hid hb
  clear hX HT hr hat hcap hb
  by_cases hp : IsPlan X
  · have HM := Lib.hid (merge_ok X xo xb 0 xc XA XB XO XC w1 HX.out HCAP.out hp)
    have HP := Lib.hid hp
    have HK := Lib.hid (mgK_len X X.length)
    have HN := Lib.hid (mgN_len X X.length)
    have hpt : isPlan X = true := decide_eq_true hp
    have HPT := Lib.hid hpt
    clear hp hpt
    go_wp2_with fail
    refine HM.out.mono ?_
    rintro e w2 ⟨m, l, rfl, hm, hl, hb2⟩
    obtain ⟨mo, mb, mc, MA, MB, MO, MC, rfl, hmat⟩ := hm.at (by have := HK.out; omega)
    obtain ⟨lo, lb, lc, rfl, hlat, -⟩ := hl.at
    have HB2 := Lib.hid hb2
    have HMA := Lib.hid hmat
    have HLA := Lib.hid hlat
    have HA2 := Lib.hid (access_any X xo xb 0 xc XA XB XO XC w2 (HX.out.below hb2 (Nat.le_refl _)))
    rw [HPT.out] at HA2
    clear hm hl hb2 hmat hlat HM
    go_wp2_with fail
    refine HA2.out.mono ?_
    rintro e w3 ⟨rfl, hb3⟩
    have HB3 := Lib.hid hb3
    clear hb3 HA2
    go_wp2_with fail
    have HBX := Lib.hid (Below.trans HB2.out (HB3.out.mono HB2.out.size))
    have HR := Lib.hid (refMerge_any X xo xb 0 xc XA XB XO XC w3 (HX.out.below HBX.out (Nat.le_refl _)) HCAP.out HP.out)
    refine HR.out.mono ?_
    rintro e w4 ⟨m2, l2, rfl, hm2, hl2, hb4⟩
    obtain ⟨no, nb, nc, NA, NB, NO, NC, rfl, hnat⟩ := hm2.at (by have := HK.out; omega)
    obtain ⟨ko, kb, kc, rfl, hkat, -⟩ := hl2.at
    have HB4 := Lib.hid hb4
    have HS := Lib.hid (same_any (mgK X X.length) (mgK X X.length) mo no mb 0 mc nb 0 nc MA MB MO MC NA NB NO NC w4 ((HMA.out.below HB3.out (Nat.le_refl _)).below hb4 (Nat.le_refl _)) hnat)
    have HS2 := Lib.hid (fun n => ints_any (mgN X X.length) (mgN X X.length) lo ko lb 0 lc kb 0 kc (w4.drewN n) (((HLA.out.below HB3.out (Nat.le_refl _)).below hb4 (Nat.le_refl _)).below (below_drewN (Below.refl _ _) n) (Nat.le_refl _)) (hkat.below (below_drewN (Below.refl _ _) n) (Nat.le_refl _)))
    clear hm2 hl2 hb4 hnat hkat HR HMA HLA
    go_wp2_with fail
    refine HS.out.mono ?_
    rintro e w5 ⟨rfl, n5, rfl⟩
    rw [decide_true]
    go_wp2_with fail
    refine (HS2.out n5).mono ?_
    rintro e w6 ⟨rfl, n6, rfl⟩
    rw [decide_true]
    go_wp2_with fail
    refine (awake_any _).mono ?_
    rintro e w7 ⟨rfl, hb7⟩
    have HB7 := Lib.hid (Below.mono ((below_drewN HB4.out (n5 + n6)).trans (hb7.mono (below_drewN HB4.out (n5 + n6)).size)) HBX.out.size)
    clear hb7
    go_wp2
    go_ret
    exact ⟨rfl, HB1.out.trans ((HBX.out.trans HB7.out).mono HB1.out.size)⟩
  · have hpf := not_plan hp
    have HM := Lib.hid (merge_bad X xo xb 0 xc XA XB XO XC w1 HX.out hpf)
    have HPF := Lib.hid hpf
    clear hp hpf
    go_wp2_with fail
    refine HM.out.mono ?_
    rintro e w2 ⟨rfl, hb2⟩
    have HB2 := Lib.hid hb2
    have HA2 := Lib.hid (access_any X xo xb 0 xc XA XB XO XC w2 (HX.out.below hb2 (Nat.le_refl _)))
    rw [HPF.out] at HA2
    clear hb2 HM
    go_wp2_with fail
    refine HA2.out.mono ?_
    rintro e w3 ⟨rfl, hb3⟩
    have HB3 := Lib.hid hb3
    clear hb3 HA2
    go_wp2_with fail
    refine (awake_any w3).mono ?_
    rintro e w4 ⟨rfl, hb4⟩
    have HB4 := Lib.hid hb4
    clear hb4
    go_wp2
    go_ret
    exact ⟨rfl, HB1.out.trans (((HB2.out.trans (HB3.out.mono HB2.out.size)).trans (HB4.out.mono (Nat.le_trans HB2.out.size HB3.out.size))).mono HB1.out.size)⟩

end Go.Proofs.Ytjibdolhipddbaa
