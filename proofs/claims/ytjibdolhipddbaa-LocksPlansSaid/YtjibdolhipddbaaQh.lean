/- C3 C4 -/
import Derived.Test.YtjibdolhipddbaaQg
/- Plan. -/
namespace Go.Proofs.Ytjibdolhipddbaa
open Go.RowKit

/-- The colourings, and the pairs, that a plan's search is about. -/
def CovA (a : List (List Int)) (d c : Nat) (Y : List (List Int)) : Prop := Cov a.length (row a 0).length (mt a) (clsL a.length d) (fbF a.length (row a 0).length (mt a)) c Y

theorem SearchAt.drew {w : World} {v : Value} {k l d : Nat} {f : Nat → Bool} (h : SearchAt w v k l d f) : SearchAt w.drew v k l d f := h.below (below_dr (Below.refl _ _)) (Nat.le_refl _)

set_option maxHeartbeats 4000000 in
set_option maxRecDepth 100000 in
theorem plan_bad (a : List (List Int)) (c d : Int) (ao : Option Addr) (b o cap : Nat) (A : Nat → Option Addr) (B O C : Nat → Nat) (w : World) (H : RowsAt w ao b o a A B O C) (hn : isPlan a = false ∨ ¬ (1 ≤ c ∧ c ≤ 4) ∨ ¬ (1 ≤ d ∧ d ≤ 4)) :
    Calls Try.prog 12 #[.slice ao a.length cap, .int .i64 c, .int .i64 d] w fun e w' => e = .returned (.tuple #[.slice none 0 0, .int .i64 2]) ∧ Below w.heap.size w w' := by
  have HT := Lib.hid (toPlan_any a ao b o cap A B O C w H)
  have HC := Lib.hid (fun w => oneTo_any 4 c w)
  have HD := Lib.hid (fun w => oneTo_any 4 d w)
  cases hp : isPlan a
  · rw [planR_no hp] at HT
    clear hn hp HC HD H
    go_enter Try.func12, Try.ntmps12
    go_wp2_with fail
    refine HT.out.mono ?_
    rintro e w1 ⟨rfl, hb⟩
    have HB := Lib.hid hb
    clear hb
    rw [zeroP]
    go_wp2
    go_ret2
    exact ⟨rfl, HB.out.alloc HB.out.size _⟩
  · rw [planR_yes hp, planV] at HT
    by_cases hc : 1 ≤ c ∧ c ≤ 4
    · have hd : ¬ (1 ≤ d ∧ d ≤ 4) := by
        rcases hn with h | h | h
        · rw [hp] at h; cases h
        · exact absurd hc h
        · exact h
      rw [show decide (1 ≤ c ∧ c ≤ 4) = true from decide_eq_true hc] at HC
      rw [show decide (1 ≤ d ∧ d ≤ 4) = false from decide_eq_false hd] at HD
      clear hn hp hc hd H
      go_enter Try.func12, Try.ntmps12
      go_wp2_with fail
      refine HT.out.mono ?_
      rintro e w1 ⟨rfl, hb⟩
      have HB := Lib.hid hb
      clear hb
      go_wp2_with (first
        | (refine wpList_store_row rfl 63 (.tmp 8) (.tmp 14) rfl w1.heap.size _ rfl rfl 63 _ (heap_alloc_new _ _) (by kernel_rfl) rfl (by simp [Value.oneCell', planC, sv]) ?_)
        | (fail))
      refine (HC.out _).mono ?_
      rintro e w2 ⟨rfl, rfl⟩
      go_wp2_with fail
      refine (HD.out _).mono ?_
      rintro e w2 ⟨rfl, rfl⟩
      go_wp2
      go_ret2
      exact ⟨rfl, below_setRow (HB.out.alloc HB.out.size _) HB.out.size _⟩
    · rw [show decide (1 ≤ c ∧ c ≤ 4) = false from decide_eq_false hc] at HC
      clear hn hp hc H HD
      go_enter Try.func12, Try.ntmps12
      go_wp2_with fail
      refine HT.out.mono ?_
      rintro e w1 ⟨rfl, hb⟩
      have HB := Lib.hid hb
      clear hb
      go_wp2_with (first
        | (refine wpList_store_row rfl 63 (.tmp 8) (.tmp 14) rfl w1.heap.size _ rfl rfl 63 _ (heap_alloc_new _ _) (by kernel_rfl) rfl (by simp [Value.oneCell', planC, sv]) ?_)
        | (fail))
      refine (HC.out _).mono ?_
      rintro e w2 ⟨rfl, rfl⟩
      go_wp2
      go_ret2
      exact ⟨rfl, below_setRow (HB.out.alloc HB.out.size _) HB.out.size _⟩

set_option maxHeartbeats 4000000 in
set_option maxRecDepth 100000 in
theorem plan_ok (a : List (List Int)) (c d : Nat) (ao : Option Addr) (b o cap : Nat) (A : Nat → Option Addr) (B O C : Nat → Nat) (w : World) (H : RowsAt w ao b o a A B O C) (hp : IsPlan a) (hc : 1 ≤ c ∧ c ≤ 4) (hd : 1 ≤ d ∧ d ≤ 4) :
    Calls Try.prog 12 #[.slice ao a.length cap, .int .i64 c, .int .i64 d] w fun e w' =>
      ((e = .returned (.tuple #[.slice none 0 0, .int .i64 6]) ∧ ¬ ∃ Y, CovA a d c Y) ∨ ∃ v Y, e = .returned (.tuple #[v, .int .i64 0]) ∧ CovA a d c Y ∧ NewRows w.heap.size w' v (cutsL Y c a.length)) ∧ Below w.heap.size w w' := by
  have HT := Lib.hid (toPlan_any a ao b o cap A B O C w H)
  rw [planR_yes (decide_eq_true hp), planV] at HT
  have HC := Lib.hid (fun w => oneTo_any 4 c w)
  have HD := Lib.hid (fun w => oneTo_any 4 d w)
  rw [show decide (1 ≤ (c : Int) ∧ (c : Int) ≤ 4) = true from decide_eq_true (by omega)] at HC
  rw [show decide (1 ≤ (d : Int) ∧ (d : Int) ≤ 4) = true from decide_eq_true (by omega)] at HD
  have hk6 := hp.le
  have hl6 := hp.le0
  have HG := Lib.hid (clsL_good hk6 hd.1 hd.2)
  unfold CovA
  obtain ⟨k, hk⟩ : ∃ k, a.length = k := ⟨_, rfl⟩
  obtain ⟨l, hl⟩ : ∃ l, (row a 0).length = l := ⟨_, rfl⟩
  obtain ⟨f, hf⟩ : ∃ f, mt a = f := ⟨_, rfl⟩
  rw [hk, hl, hf] at HT
  rw [hk] at HG
  rw [hk] at hk6
  rw [hl] at hl6
  rw [hk, hl, hf]
  have hc4 := hc.2
  have hc1 := hc.1
  clear hk hl hf H hp
  go_enter Try.func12, Try.ntmps12
  go_wp2_with fail
  refine HT.out.mono ?_
  rintro e w1 ⟨rfl, hb⟩
  obtain ⟨zb, hzb⟩ : ∃ zb, w1.heap.size = zb := ⟨_, rfl⟩
  obtain ⟨wz, hwz⟩ : ∃ wz, (w1.alloc (.cells #[.int .i64 0, .int .i64 0, .int .u64 0] 63)).setRow zb (planC k l f) = wz := ⟨_, rfl⟩
  have HB := Lib.hid (show Below w.heap.size w wz by rw [← hwz]; exact below_setRow (hb.alloc hb.size _) (by rw [← hzb]; exact hb.size) _)
  have HP := Lib.hid (show wz.heap[zb]? = some (.cells (planC k l f) 63 (0, 0)) by rw [← hwz, ← hzb]; exact setRow_heap _ w1.heap.size _ _ _ _ (heap_alloc_new w1 _))
  have HWZ := Lib.hid hwz
  have HNEW := Lib.hid (show (w1.alloc (.cells #[.int .i64 0, .int .i64 0, .int .u64 0] 63)).heap[zb]? = some (.cells #[.int .i64 0, .int .i64 0, .int .u64 0] 63 (0, 0)) by rw [← hzb]; exact heap_alloc_new _ _)
  clear hb hwz HT
  go_wp2_with (first
    | (refine wpList_store_row rfl 63 (.tmp 8) (.tmp 14) rfl zb _ rfl rfl 63 _ HNEW.out (by kernel_rfl) rfl (by simp [Value.oneCell', planC, sv]) ?_; rw [HWZ.out])
    | (fail))
  refine (HC.out _).mono ?_
  rintro e w2 ⟨rfl, rfl⟩
  go_wp2_with fail
  refine (HD.out _).mono ?_
  rintro e wz ⟨rfl, rfl⟩
  have HDR := Lib.hid (below_dr (Below.refl wz.heap.size wz))
  have HNS := Lib.hid (show ∀ W, Below wz.heap.size wz W → Calls Try.prog 34 #[.agg #[.int .i64 k, .int .i64 l, .int .u64 (S36 f : Nat)], .int .i64 d] W fun e w' => ∃ v, e = .returned v ∧ SearchAt w' v k l d f ∧ Below wz.heap.size wz w' from
    fun W hW => (newSearch_any k l d f W hk6 hl6 hd.1 hd.2).mono fun e w' ⟨v, h1, h2, h3⟩ => ⟨v, h1, h2, hW.trans (h3.mono hW.size)⟩)
  have HFB := Lib.hid (show ∀ W, Below wz.heap.size wz W → Calls Try.prog 36 #[.agg #[.int .i64 k, .int .i64 l, .int .u64 (S36 f : Nat)]] W fun e w' => e = .returned (.int .u64 (S36 (fbF k l f) : Nat)) ∧ Below wz.heap.size wz w' ∧ Below W.heap.size W w' from
    fun W hW => (forbidden_any k l f W hk6 hl6).mono fun e w' ⟨h1, h3⟩ => ⟨h1, hW.trans (h3.mono hW.size), h3⟩)
  have HCV := Lib.hid (show ∀ W v, Below wz.heap.size wz W → SearchAt W v k l d f → Calls Try.prog 35 #[v, .int .u64 (S36 (fbF k l f) : Nat), .int .i64 c] W fun e w' => (∃ v ok Y, e = .returned (.tuple #[v, .bool ok]) ∧ NewCols wz.heap.size w' v Y ∧ (ok = true → Cov k l f (clsL k d) (fbF k l f) c Y) ∧ (ok = false → ¬ ∃ Y, Cov k l f (clsL k d) (fbF k l f) c Y)) ∧ Below wz.heap.size wz w' from
    fun W v hW hv => (cover_any k l d f hk6 hd.1 hd.2 c v (fbF k l f) W hc4 hv).mono fun e w' ⟨v, ok, Y, h1, h2, h3, h4, h5⟩ => ⟨⟨v, ok, Y, h1, h2.mono hW.size, h3, h4⟩, hW.trans (h5.mono hW.size)⟩)
  have HKE := Lib.hid (show ∀ W, Below wz.heap.size wz W → W.cell? ⟨zb, 0, none⟩ = some (.int .i64 k) ∧ W.cell? ⟨zb, 1, none⟩ = some (.int .i64 l) ∧ W.cell? ⟨zb, 2, none⟩ = some (.int .u64 (S36 f : Nat)) from fun W hW => cells_of3 ((hW.block _ (lt_of_block HP.out)).trans HP.out))
  have HBk := Lib.hid (Below.refl wz.heap.size wz)
  clear HC HD hc hd hzb
  go_wp2_with fail
  go_region_held3 (fun W => W.cell? ⟨zb, 0, none⟩ = some (.int .i64 k) ∧ W.cell? ⟨zb, 1, none⟩ = some (.int .i64 l) ∧ W.cell? ⟨zb, 2, none⟩ = some (.int .u64 (S36 f : Nat)))
    (first | exact HKE.out _ HBk.out | exact HKE.out _ (below_dr HBk.out))
    (first
      | (go_simp; go_at_call 34; (with_reducible refine (HNS.out _ ?_).mono ?_); (focus (first | exact HBk.out | exact below_dr HBk.out | exact below_dr (below_dr HBk.out))); rintro e8 w8 ⟨v8, rfl, hs8, hb8⟩; have HBk := Lib.hid hb8; have HSk := Lib.hid hs8; clear hb8 hs8)
      | (go_simp; go_at_call 36; (with_reducible refine (HFB.out _ ?_).mono ?_); (focus (first | exact HBk.out | exact below_dr HBk.out | exact below_dr (below_dr HBk.out))); rintro e9 w9 ⟨rfl, hb9, hbw⟩; have HBk := Lib.hid hb9; (try have HSk := Lib.hid (SearchAt.below HSk.out hbw (Nat.le_refl _))); (try have HSk := Lib.hid (SearchAt.below HSk.out.drew hbw (Nat.le_refl _))); clear hb9 hbw)
      | (go_simp; go_at_call 35; (with_reducible refine (HCV.out _ _ ?_ ?_).mono ?_); (focus (first | exact HBk.out | exact below_dr HBk.out | exact below_dr (below_dr HBk.out))); (focus (first | exact HSk.out | exact HSk.out.drew | exact HSk.out.drew.drew)); rintro e7 w7 ⟨⟨v7, ok7, Y7, rfl, hn7, hy7, hz7⟩, hb7⟩; have HBk := Lib.hid hb7; have HN7 := Lib.hid hn7; have HY7 := Lib.hid hy7; have HZ7 := Lib.hid hz7; clear hb7 hn7 hy7 hz7)
      | (fail))
  all_goals
    have HBW := Lib.hid (HB.out.trans (HBk.out.mono HB.out.size))
    cases ok7
    · have HZ := Lib.hid (HZ7.out rfl)
      go_wp2
      go_ret2
      exact ⟨.inl ⟨rfl, fun Y h => HZ.out ⟨Y, h⟩⟩, HBW.out⟩
    · have HY := Lib.hid (HY7.out rfl)
      have hyl := (HY7.out rfl).len
      obtain ⟨ao7, b7, cap7, rfl, hat7, -⟩ := HN7.out.at
      have HP7 := Lib.hid ((HBk.out.block _ (lt_of_block HP.out)).trans HP.out)
      have HM7 := Lib.hid (show ∀ q, q < Y7.length → ∀ i, i < 6 → 0 ≤ nth (row Y7 q) i ∧ nth (row Y7 q) i ≤ 4 from fun q hq => by
        have hm : row Y7 q ∈ Y7 := by unfold row; rw [List.getD_eq_getElem?_getD, List.getElem?_eq_getElem hq]; exact List.getElem_mem hq
        obtain ⟨j, hj, e⟩ := List.getElem_of_mem (HY.out.mem _ hm)
        have := HG.out.2 j hj
        rwa [show row (clsL k d) j = row Y7 q by rw [← e]; simp [row, List.getD_eq_getElem?_getD, hj]] at this)
      have HCT := Lib.hid (cuts_any k l f Y7 ao7 b7 0 cap7 c w7 hk6 ⟨hc1, hc4⟩ hyl HM7.out hat7)
      clear hat7
      go_wp2_with (first
        | (refine wpList_load_row rfl 63 (.tmp 8) rfl zb rfl 63 _ _ _ HP7.out Try.underlying63 rfl (by kernel_rfl) ?_)
        | (fail))
      refine (HCT.out).mono ?_
      rintro e w6 ⟨v6, rfl, hn6, hb6⟩
      have HN6 := Lib.hid (hn6.mono HBW.out.size)
      have HB6 := Lib.hid (HBW.out.trans (hb6.mono HBW.out.size))
      clear hn6 hb6
      go_wp2
      go_ret2
      exact ⟨.inr ⟨v6, Y7, rfl, HY.out, HN6.out⟩, HB6.out⟩

end Go.Proofs.Ytjibdolhipddbaa

/- Least. -/
namespace Go.Proofs.Ytjibdolhipddbaa
open Go.RowKit

set_option maxHeartbeats 4000000 in
set_option maxRecDepth 100000 in
theorem least_bad (a : List (List Int)) (d : Int) (ao : Option Addr) (b o cap : Nat) (A : Nat → Option Addr) (B O C : Nat → Nat) (w : World) (H : RowsAt w ao b o a A B O C) (hn : isPlan a = false ∨ ¬ (1 ≤ d ∧ d ≤ 4)) :
    Calls Try.prog 13 #[.slice ao a.length cap, .int .i64 d] w fun e w' => e = .returned (.tuple #[.int .i64 0, .int .i64 2]) ∧ Below w.heap.size w w' := by
  have HT := Lib.hid (toPlan_any a ao b o cap A B O C w H)
  have HD := Lib.hid (fun w => oneTo_any 4 d w)
  cases hp : isPlan a
  · rw [planR_no hp] at HT
    clear hn hp HD H
    go_enter Try.func13, Try.ntmps13
    go_wp2_with fail
    refine HT.out.mono ?_
    rintro e w1 ⟨rfl, hb⟩
    have HB := Lib.hid hb
    clear hb
    rw [zeroP]
    go_wp2
    go_ret2
    exact ⟨rfl, HB.out.alloc HB.out.size _⟩
  · rw [planR_yes hp, planV] at HT
    have hd : ¬ (1 ≤ d ∧ d ≤ 4) := by
      rcases hn with h | h
      · rw [hp] at h; cases h
      · exact h
    rw [show decide (1 ≤ d ∧ d ≤ 4) = false from decide_eq_false hd] at HD
    clear hn hp hd H
    go_enter Try.func13, Try.ntmps13
    go_wp2_with fail
    refine HT.out.mono ?_
    rintro e w1 ⟨rfl, hb⟩
    have HB := Lib.hid hb
    clear hb
    go_wp2_with (first
      | (refine wpList_store_row rfl 63 (.tmp 6) (.tmp 15) rfl w1.heap.size _ rfl rfl 63 _ (heap_alloc_new _ _) (by kernel_rfl) rfl (by simp [Value.oneCell', planC, sv]) ?_)
      | (fail))
    refine (HD.out _).mono ?_
    rintro e w2 ⟨rfl, rfl⟩
    go_wp2
    go_ret2
    exact ⟨rfl, below_setRow (HB.out.alloc HB.out.size _) HB.out.size _⟩

/-- n is the least number of chambers, or 0. -/
def IsLeast (a : List (List Int)) (d n : Nat) : Prop := (n = 0 ∧ ∀ c, c ≤ 4 → ¬ ∃ Y, CovA a d c Y) ∨ (1 ≤ n ∧ n ≤ 4 ∧ (∃ Y, CovA a d n Y) ∧ ∀ c, c < n → ¬ ∃ Y, CovA a d c Y) ∨ (n = 1 ∧ ∃ Y, CovA a d 1 Y)

set_option maxHeartbeats 4000000 in
set_option maxRecDepth 100000 in
theorem least_ok (a : List (List Int)) (d : Nat) (ao : Option Addr) (b o cap : Nat) (A : Nat → Option Addr) (B O C : Nat → Nat) (w : World) (H : RowsAt w ao b o a A B O C) (hp : IsPlan a) (hd : 1 ≤ d ∧ d ≤ 4) :
    Calls Try.prog 13 #[.slice ao a.length cap, .int .i64 d] w fun e w' =>
      (∃ n : Nat, e = .returned (.tuple #[.int .i64 n, .int .i64 0]) ∧ ((n = 0 ∧ ∀ c, 1 ≤ c → c ≤ 4 → ¬ ∃ Y, CovA a d c Y) ∨ (1 ≤ n ∧ n ≤ 4 ∧ (∃ Y, CovA a d n Y) ∧ ∀ c, 1 ≤ c → c < n → ¬ ∃ Y, CovA a d c Y))) ∧ Below w.heap.size w w' := by
  have HT := Lib.hid (toPlan_any a ao b o cap A B O C w H)
  rw [planR_yes (decide_eq_true hp), planV] at HT
  have HD := Lib.hid (fun w => oneTo_any 4 d w)
  rw [show decide (1 ≤ (d : Int) ∧ (d : Int) ≤ 4) = true from decide_eq_true (by omega)] at HD
  have hk6 := hp.le
  have hl6 := hp.le0
  unfold CovA
  obtain ⟨k, hk⟩ : ∃ k, a.length = k := ⟨_, rfl⟩
  obtain ⟨l, hl⟩ : ∃ l, (row a 0).length = l := ⟨_, rfl⟩
  obtain ⟨f, hf⟩ : ∃ f, mt a = f := ⟨_, rfl⟩
  rw [hk, hl, hf] at HT
  rw [hk] at hk6
  rw [hl] at hl6
  rw [hk, hl, hf]
  obtain ⟨Good, hG⟩ : ∃ Good : Nat → Prop, Good = fun c => ∃ Y, Cov k l f (clsL k d) (fbF k l f) c Y := ⟨_, rfl⟩
  have HGD := Lib.hid (show ∀ c, Good c ↔ ∃ Y, Cov k l f (clsL k d) (fbF k l f) c Y from fun c => by rw [hG])
  have HFIN := Lib.hid (show ∀ n : Nat, ((n = 0 ∧ ∀ c, 1 ≤ c → c ≤ 4 → ¬ Good c) ∨ (1 ≤ n ∧ n ≤ 4 ∧ Good n ∧ ∀ c, 1 ≤ c → c < n → ¬ Good c)) → ((n = 0 ∧ ∀ c, 1 ≤ c → c ≤ 4 → ¬ ∃ Y, Cov k l f (clsL k d) (fbF k l f) c Y) ∨ (1 ≤ n ∧ n ≤ 4 ∧ (∃ Y, Cov k l f (clsL k d) (fbF k l f) n Y) ∧ ∀ c, 1 ≤ c → c < n → ¬ ∃ Y, Cov k l f (clsL k d) (fbF k l f) c Y)) from fun n h => by rw [hG] at h; exact h)
  have HCVR := Lib.hid (show ∀ (c : Nat) (v : Value) (w : World), c ≤ 4 → SearchAt w v k l d f → Calls Try.prog 35 #[v, .int .u64 (S36 (fbF k l f) : Nat), .int .i64 c] w fun e w' => (∃ v ok, e = .returned (.tuple #[v, .bool ok]) ∧ (ok = true ↔ Good c)) ∧ Below w.heap.size w w' from
    fun c v w hc hv => by
      have h := cover_any k l d f hk6 hd.1 hd.2 c v (fbF k l f) w hc hv
      rw [sv] at h
      refine h.mono ?_
      rintro e w' ⟨v, ok, Y, h1, h2, h3, h4, h5⟩
      refine ⟨⟨v, ok, h1, ?_⟩, h5⟩
      have hg := HGD.out c
      rw [hg]
      constructor
      · intro q; exact ⟨Y, h3 q⟩
      · intro q
        rcases Bool.eq_false_or_eq_true ok with h | h
        · exact h
        · exact absurd q (h4 h))
  refine Calls.mono (R := fun e w' => (∃ n : Nat, e = .returned (.tuple #[.int .i64 n, .int .i64 0]) ∧ ((n = 0 ∧ ∀ c, 1 ≤ c → c ≤ 4 → ¬ Good c) ∨ (1 ≤ n ∧ n ≤ 4 ∧ Good n ∧ ∀ c, 1 ≤ c → c < n → ¬ Good c))) ∧ Below w.heap.size w w') ?_ fun e w' h => ⟨let ⟨n, h1, h2⟩ := h.1; ⟨n, h1, HFIN.out n h2⟩, h.2⟩
  clear hk hl hf H hp hG HFIN HGD
  go_enter Try.func13, Try.ntmps13
  go_wp2_with fail
  refine HT.out.mono ?_
  rintro e w1 ⟨rfl, hb⟩
  obtain ⟨zb, hzb⟩ : ∃ zb, w1.heap.size = zb := ⟨_, rfl⟩
  obtain ⟨wz, hwz⟩ : ∃ wz, (w1.alloc (.cells #[.int .i64 0, .int .i64 0, .int .u64 0] 63)).setRow zb (planC k l f) = wz := ⟨_, rfl⟩
  have HB := Lib.hid (show Below w.heap.size w wz by rw [← hwz]; exact below_setRow (hb.alloc hb.size _) (by rw [← hzb]; exact hb.size) _)
  have HP := Lib.hid (show wz.heap[zb]? = some (.cells (planC k l f) 63 (0, 0)) by rw [← hwz, ← hzb]; exact setRow_heap _ w1.heap.size _ _ _ _ (heap_alloc_new w1 _))
  have HWZ := Lib.hid hwz
  have HNEW := Lib.hid (show (w1.alloc (.cells #[.int .i64 0, .int .i64 0, .int .u64 0] 63)).heap[zb]? = some (.cells #[.int .i64 0, .int .i64 0, .int .u64 0] 63 (0, 0)) by rw [← hzb]; exact heap_alloc_new _ _)
  clear hb hwz HT
  go_wp2_with (first
    | (refine wpList_store_row rfl 63 (.tmp 6) (.tmp 15) rfl zb _ rfl rfl 63 _ HNEW.out (by kernel_rfl) rfl (by simp [Value.oneCell', planC, sv]) ?_; rw [HWZ.out])
    | (fail))
  refine (HD.out _).mono ?_
  rintro e wz ⟨rfl, rfl⟩
  have HNS := Lib.hid (newSearch_any k l d f wz hk6 hl6 hd.1 hd.2)
  go_wp2_with (first
    | (refine wpList_load_row rfl 63 (.tmp 6) rfl zb rfl 63 _ _ _ HP.out Try.underlying63 rfl (by kernel_rfl) ?_)
    | (fail))
  refine (HNS.out).mono ?_
  rintro e w2 ⟨v, rfl, hs, hb2⟩
  obtain ⟨sa, sb, scap, mb, D, rfl, -⟩ := hs.ex
  have HS := Lib.hid hs
  have HB2 := Lib.hid (HB.out.trans (hb2.mono HB.out.size))
  have HP2 := Lib.hid ((hb2.block _ (lt_of_block HP.out)).trans HP.out)
  clear hs hb2 HB HP HNS HD hd hzb
  obtain ⟨n0, hn0⟩ : ∃ n0, (clsL k d).length = n0 := ⟨_, rfl⟩
  rw [hn0] at HS ⊢
  clear hn0
  have HBA := Lib.hid (HB2.out.alloc HB2.out.size (.cells #[.slice sa n0 scap, .map (some mb)] 71))
  have HSA := Lib.hid (HS.out.below ((Below.refl _ w2).alloc (Nat.le_refl _) (.cells #[.slice sa n0 scap, .map (some mb)] 71)) (Nat.le_refl _))
  have HPA := Lib.hid (show (w2.alloc (.cells #[.slice sa n0 scap, .map (some mb)] 71)).heap[zb]? = some (.cells (planC k l f) 63 (0, 0)) by rw [Below.heap_alloc _ _ _ (lt_of_block HP2.out)]; exact HP2.out)
  have HQA := Lib.hid (heap_alloc_new w2 (.cells #[.slice sa n0 scap, .map (some mb)] 71))
  obtain ⟨qb, hqb⟩ : ∃ qb, w2.heap.size = qb := ⟨_, rfl⟩
  rw [hqb] at HQA
  go_wp2
  clear hqb
  go_loopw [9, 10, 11] (fun y _ _ wr => ∃ c : Nat, 1 ≤ c ∧ c ≤ 5 ∧ y = .int .i64 c ∧ Below w.heap.size w wr ∧ wr.heap[zb]? = some (.cells (planC k l f) 63 (0, 0)) ∧ wr.heap[qb]? = some (.cells #[.slice sa n0 scap, .map (some mb)] 71 (0, 0)) ∧
    SearchAt wr (.agg #[.slice sa n0 scap, .map (some mb)]) k l d f ∧ ∀ c', 1 ≤ c' → c' < c → ¬ Good c') (fun y _ _ _ => 5 - (intOf y).toNat)
  case atStart => exact ⟨1, by omega, by omega, rfl, HBA.out, HPA.out, HQA.out, HSA.out, fun c' h1 h2 => by omega⟩
  case round =>
    obtain ⟨c, hc1, hc5, rfl, hb, hp, hq, hs, hno⟩ := hrel
    have HB := Lib.hid hb
    have HP := Lib.hid hp
    have HQ := Lib.hid hq
    have HS := Lib.hid hs
    have HNO := Lib.hid hno
    clear hb hp hq hs hno HBA HPA HQA HSA
    by_cases hc4 : c ≤ 4
    · have t1 : decide ((c : Int) ≤ 4) = true := decide_eq_true (by omega)
      obtain ⟨wz, rfl⟩ : ∃ wz : World, wz = wr := ⟨_, rfl⟩
      have HDR := Lib.hid (below_dr (Below.refl wz.heap.size wz))
      have HFB := Lib.hid (show ∀ W, Below wz.heap.size wz W → Calls Try.prog 36 #[.agg #[.int .i64 k, .int .i64 l, .int .u64 (S36 f : Nat)]] W fun e w' => e = .returned (.int .u64 (S36 (fbF k l f) : Nat)) ∧ Below wz.heap.size wz w' from
        fun W hW => (forbidden_any k l f W hk6 hl6).mono fun e w' ⟨h1, h3⟩ => ⟨h1, hW.trans (h3.mono hW.size)⟩)
      have HCV := Lib.hid (show ∀ W, Below wz.heap.size wz W → Calls Try.prog 35 #[.agg #[.slice sa n0 scap, .map (some mb)], .int .u64 (S36 (fbF k l f) : Nat), .int .i64 c] W fun e w' => (∃ v ok, e = .returned (.tuple #[v, .bool ok]) ∧ (ok = true ↔ Good c)) ∧ Below wz.heap.size wz w' from
        fun W hW => (HCVR.out c _ W hc4 (HS.out.below hW (Nat.le_refl _))).mono fun e w' ⟨h1, h3⟩ => ⟨h1, hW.trans (h3.mono hW.size)⟩)
      have HKE := Lib.hid (show ∀ W, Below wz.heap.size wz W → (W.cell? ⟨zb, 0, none⟩ = some (.int .i64 k) ∧ W.cell? ⟨zb, 1, none⟩ = some (.int .i64 l) ∧ W.cell? ⟨zb, 2, none⟩ = some (.int .u64 (S36 f : Nat))) ∧ W.cell? ⟨qb, 0, none⟩ = some (.slice sa n0 scap) ∧ W.cell? ⟨qb, 1, none⟩ = some (.map (some mb)) from fun W hW => by
        obtain ⟨q0, q1, -, -⟩ := cells_of2 ((hW.block _ (lt_of_block HQ.out)).trans HQ.out)
        exact ⟨cells_of3 ((hW.block _ (lt_of_block HP.out)).trans HP.out), q0, q1⟩)
      have HBk := Lib.hid (Below.refl wz.heap.size wz)
      go_wp2_with fail
      go_region_held3 (fun W => (W.cell? ⟨zb, 0, none⟩ = some (.int .i64 k) ∧ W.cell? ⟨zb, 1, none⟩ = some (.int .i64 l) ∧ W.cell? ⟨zb, 2, none⟩ = some (.int .u64 (S36 f : Nat))) ∧ W.cell? ⟨qb, 0, none⟩ = some (.slice sa n0 scap) ∧ W.cell? ⟨qb, 1, none⟩ = some (.map (some mb)))
        (first | exact HKE.out _ HBk.out | exact HKE.out _ (below_dr HBk.out))
        (first
          | (go_simp; go_at_call 36; (with_reducible refine (HFB.out _ ?_).mono ?_); (focus (first | exact HBk.out | exact below_dr HBk.out | exact below_dr (below_dr HBk.out))); rintro e9 w9 ⟨rfl, hb9⟩; have HBk := Lib.hid hb9; clear hb9)
          | (go_simp; go_at_call 35; (with_reducible refine (HCV.out _ ?_).mono ?_); (focus (first | exact HBk.out | exact below_dr HBk.out | exact below_dr (below_dr HBk.out))); rintro e7 w7 ⟨⟨v7, ok7, rfl, hy7⟩, hb7⟩; have HBk := Lib.hid hb7; have HY7 := Lib.hid hy7; clear hb7 hy7)
          | (fail))
      all_goals
        have HBW := Lib.hid (HB.out.trans (HBk.out.mono HB.out.size))
        have HPW := Lib.hid ((HBk.out.block _ (lt_of_block HP.out)).trans HP.out)
        have HQW := Lib.hid ((HBk.out.block _ (lt_of_block HQ.out)).trans HQ.out)
        have HSW := Lib.hid (HS.out.below HBk.out (Nat.le_refl _))
        cases ok7
        · have HN1 := Lib.hid (show ∀ c', 1 ≤ c' → c' < c + 1 → ¬ Good c' from fun c' h1 h2 => by
            by_cases e : c' = c
            · rw [e]; intro q; have := HY7.out.2 q; cases this
            · exact HNO.out c' h1 (by omega))
          go_wp2
          go_roundw
          case rel => exact ⟨c + 1, by omega, by omega, by go_num, HBW.out, HPW.out, HQW.out, HSW.out, HN1.out⟩
          case measure => simp [intOf]; omega
        · have HG1 := Lib.hid (HY7.out.1 rfl)
          go_wp2
          go_ret2
          exact ⟨⟨c, rfl, .inr ⟨hc1, hc4, HG1.out, HNO.out⟩⟩, HBW.out⟩
    · have t1 : decide ((c : Int) ≤ 4) = false := decide_eq_false (by omega)
      go_wp2
      go_ret2
      exact ⟨⟨0, rfl, .inl ⟨rfl, fun c' h1 h2 => HNO.out c' h1 (by omega)⟩⟩, HB.out⟩

end Go.Proofs.Ytjibdolhipddbaa
