/- H9: Lb Mb Nb Ob -/
import Derived.Test.YtghffnjnpgiicaaH2
import Derived.Deep.RegionHeld3
import Derived.Deep.Cut
import Derived.Deep.CutRange
/- Copies of lists of rows. -/
namespace Go.Proofs.Ytghffnjnpgiicaa
open Go.RowKit

theorem news_whole {w : World} {ad : Addr} {b o : Nat} {xs : List Int} (h : IntsAt w (some ad) b o xs) : ∀ j u, (xs.map (Value.int .i64))[j]? = some u → w.cell? (ad.add j) = some u := by
  have := news_at h ad rfl xs.length
  rw [List.take_length] at this
  exact this

theorem addr_plain (b o j : Nat) : (⟨b, o, none⟩ : Addr).add j = ⟨b, o + j, none⟩ := by unfold Addr.add; split <;> simp_all

theorem made_copy (xs : List Int) : splice (madeCells #[Value.int .i64 0] xs.length).toList 0 (xs.map (Value.int .i64)) = xs.map (Value.int .i64) := by
  unfold splice
  rw [List.take_zero, List.nil_append, List.drop_eq_nil_of_le (by simp [size_madeCells]), List.append_nil]

/-- The rows of a slice of slices that was made. -/
theorem newRows_of_row {B g : Nat} {w : World} {xss : List (List Int)} {S : Nat → Value} (h : w.rowIs g 25 xss.length S) (hB : B ≤ g) (hl : xss.length ≤ 140737488351232) (hr : ∀ j, j < xss.length → NewInts B w (S j) (row xss j)) :
    NewRows B w (.slice (some ⟨g, 0, none⟩) xss.length xss.length) xss := by
  obtain ⟨c, hc, hs, he⟩ := h
  refine ⟨(List.range xss.length).map S, ⟨by simp, .inr ⟨g, xss.length, c, rfl, hB, hc, Nat.le_refl _, by unfold maxLen; omega, by omega, ?_⟩⟩, fun j hj => ⟨S j, by simp [hj], hr j hj⟩, fun u hu => ?_⟩
  · refine List.ext_getElem? fun i => ?_
    rw [List.getElem?_take]
    by_cases hi : i < xss.length
    · rw [if_pos (by omega), Array.getElem?_toList, he i hi]; simp [hi]
    · rw [if_neg (by omega)]; simp [show ¬ i < xss.length from hi]
  · obtain ⟨j, hj, rfl⟩ := List.mem_map.1 hu
    exact (hr j (by simpa using hj)).oneCell

set_option maxHeartbeats 4000000 in
set_option maxRecDepth 100000 in
theorem copied_any (xss : List (List Int)) (ao : Option Addr) (b o cap : Nat) (A : Nat → Option Addr) (B O C : Nat → Nat) (w : World) (h : RowsAt w ao b o xss A B O C) (hn : xss.length ≤ 1000) (hr : ∀ i, i < xss.length → (row xss i).length ≤ 1000) :
    Calls Try.prog 80 #[.slice ao xss.length cap] w fun e w' => (∃ u, e = .returned u ∧ NewRows w.heap.size w' u xss) ∧ Below w.heap.size w w' := by
  have H := Lib.hid h
  have HR := Lib.hid hr
  clear h hr
  have hmk := run_make_row' (P := Try.prog) 22 25 (.slice none 0 0) 24 Try.underlying22 Try.info25 rfl .i64 .i64 xss.length (by omega) (by omega)
  go_enter Try.func80, Try.ntmps80
  go_wp2
  clear hmk
  go_loopw [4, 5, 11] (fun _ _ i wr => ∃ (k : Nat) (S : Nat → Value), k ≤ xss.length ∧ i = .int .i64 k ∧ Below w.heap.size w wr ∧ wr.rowIs w.heap.size 25 xss.length (fun j => if j < k then S j else .slice none 0 0) ∧
      ∀ j, j < k → NewInts (w.heap.size + 1) wr (S j) (row xss j)) (fun _ _ i _ => xss.length - (intOf i).toNat)
  case atStart => exact ⟨0, fun _ => .slice none 0 0, by omega, rfl, (Below.refl _ _).alloc (Nat.le_refl _) _, (World.rowIs_made _ _ _ _).congr (fun j hj => by rw [if_neg (by omega)]), fun j hj => absurd hj (by omega)⟩
  case round =>
    obtain ⟨k, S, hk, rfl, hb, hrow, hnew⟩ := hrel
    have HB := Lib.hid hb
    have HROW := Lib.hid hrow
    have HNEW := Lib.hid hnew
    have s0 := hrow.lt
    clear hb hrow hnew
    by_cases hlt : k < xss.length
    · have hX := H.out.below HB.out (Nat.le_refl _)
      obtain ⟨rfl, -⟩ := hX.ptr (by omega)
      have hc := hX.cell k hlt
      have HX := Lib.hid (hX.rows k hlt)
      have hl := HR.out k hlt
      have hmk := run_make_row' (P := Try.prog) 25 3 (.int .i64 0) 8 Try.underlying25 Try.info3 rfl .i64 .i64 (row xss k).length (by omega) (by omega)
      have c0 := HROW.out.cell hlt
      have f0 := HROW.out.frozen k
      obtain ⟨xs, hxs⟩ : ∃ xs, row xss k = xs := ⟨_, rfl⟩
      have HXS := Lib.hid hxs
      rw [hxs] at hc hl hmk HX
      obtain ⟨m, hm⟩ : ∃ m, wr.heap.size = m := ⟨_, rfl⟩
      have HM := Lib.hid hm
      rw [if_neg (Nat.lt_irrefl k)] at c0
      have hnb := heap_alloc_new (wr.setCell ⟨w.heap.size, k, none⟩ (.slice (some ⟨wr.heap.size, 0, none⟩) xs.length xs.length)) (.cells (madeCells #[Value.int .i64 0] xs.length) 3)
      rw [show (wr.setCell ⟨w.heap.size, k, none⟩ (.slice (some ⟨wr.heap.size, 0, none⟩) xs.length xs.length)).heap.size = wr.heap.size by simp] at hnb
      have HNB : Hid (((wr.setCell ⟨w.heap.size, k, none⟩ (.slice (some ⟨wr.heap.size, 0, none⟩) xs.length xs.length)).alloc (.cells (madeCells #[Value.int .i64 0] xs.length) 3)).heap[wr.heap.size]? = some (.cells ((madeCells #[Value.int .i64 0] xs.length).toList).toArray 3 (0, 0))) := hnb
      have HPOS : Hid (0 < (xs.map (Value.int .i64)).length → ∃ ad, A k = some ad ∧ ∀ j v, (xs.map (Value.int .i64))[j]? = some v → ((wr.setCell ⟨w.heap.size, k, none⟩ (.slice (some ⟨wr.heap.size, 0, none⟩) xs.length xs.length)).alloc (.cells (madeCells #[Value.int .i64 0] xs.length) 3)).cell? (ad.add j) = some v) := by
        intro hp
        rw [List.length_map] at hp
        obtain ⟨h1, h2⟩ := HX.out.ptr hp
        refine ⟨⟨B k, O k, none⟩, h1, fun j v hj => ?_⟩
        have := news_whole (h1 ▸ HX.out) j v hj
        rw [addr_plain] at this ⊢
        have hbw := ((H.out.rows k hlt).ptr (by rw [HXS.out]; exact hp)).2
        have hbk : B k ≠ w.heap.size := by omega
        rw [World.cell?_alloc_old _ _ _ (by show B k ≠ (wr.setCell _ _).heap.size; simp; omega), World.cell?_setCell_other _ _ _ _ (by intro e; exact hbk (congrArg Addr.block e).symm)]
        exact this
      clear hX hxs hm hnb
      go_wp2_with ((refine wpList_copy_splice rfl (.tmp 25) (.tmp 26) 25 25 rfl 3 Try.underlying25 (by kernel_rfl) (some ⟨wr.heap.size, 0, none⟩) (A k) xs.length xs.length xs.length (C k) rfl rfl wr.heap.size 0 (madeCells #[Value.int .i64 0] xs.length).toList 3 HNB.out (xs.map (Value.int .i64)) (by rw [List.length_map]; exact (Nat.min_self _).symm) (fun hp => ⟨rfl, HPOS.out hp⟩) (by simp [size_madeCells]) (oneCell_ints _) wr.heap.size ((wr.setCell ⟨w.heap.size, k, none⟩ (.slice (some ⟨wr.heap.size, 0, none⟩) xs.length xs.length)).alloc (.cells (madeCells #[Value.int .i64 0] xs.length) 3)) (Below.refl _ _) (Nat.le_refl _) ?_))
      intro w3 hg3 hb3
      have hg3' : w3.heap[wr.heap.size]? = some (.cells ((xs.map (Value.int .i64)).toArray) 3 (0, 0)) := by rw [← made_copy]; exact hg3
      have HBA : Hid (Below wr.heap.size ((wr.setCell ⟨w.heap.size, k, none⟩ (.slice (some ⟨wr.heap.size, 0, none⟩) xs.length xs.length)).alloc (.cells (madeCells #[Value.int .i64 0] xs.length) 3)) w3) := hb3
      have HG3 := Lib.hid hg3'
      have hwf := HX.out.wf
      have HWF := Lib.hid hwf
      clear hg3 hg3' hb3 hwf
      go_wp2
      go_roundw
      case rel =>
        have hsz : wr.heap.size < w3.heap.size := lt_of_block HG3.out
        refine ⟨k + 1, fun j => if j = k then .slice (some ⟨wr.heap.size, 0, none⟩) xs.length xs.length else S j, by omega, by go_num, ?_, ?_, ?_⟩
        · exact ((HB.out.setCell (Nat.le_refl _) _).alloc (by simpa using HB.out.size) _).trans (HBA.out.mono HB.out.size)
        · have h1 : ((wr.setCell ⟨w.heap.size, k, none⟩ (.slice (some ⟨wr.heap.size, 0, none⟩) xs.length xs.length)).alloc (.cells (madeCells #[Value.int .i64 0] xs.length) 3)).rowIs w.heap.size 25 xss.length _ := (HROW.out.set k _).alloc _
          refine (h1.of_block (HBA.out.block _ s0)).congr (fun j hj => ?_)
          by_cases e : j = k
          · rw [if_pos e, if_pos (by omega)]; exact (if_pos e).symm
          · rw [if_neg e]
            by_cases e2 : j < k
            · rw [if_pos e2, if_pos (by omega)]; exact (if_neg e).symm
            · rw [if_neg e2, if_neg (by omega)]
        · intro j hj
          by_cases e : j = k
          · subst e
            simp only [if_true]
            rw [HXS.out]
            exact newInts_of_cells HG3.out (by omega) (by omega) HWF.out
          · simp only [if_neg e]
            refine (HNEW.out j (by omega)).blocks (fun g h1 h2 => ?_)
            rw [HBA.out.block g h2, Below.heap_alloc _ _ _ (by simpa using h2), heap_setCell_other _ _ _ _ (by show g ≠ w.heap.size; omega)]
      case measure => simp [intOf]; omega
    · have hkl : k = xss.length := by omega
      subst hkl
      go_wp2
      go_ret
      exact ⟨⟨_, rfl, newRows_of_row (HROW.out.congr (fun j hj => by rw [if_pos hj])) (Nat.le_refl _) (by omega) (fun j hj => (HNEW.out j hj).mono (by omega))⟩, HB.out⟩

end Go.Proofs.Ytghffnjnpgiicaa

/- forced: the walk. -/
namespace Go.Proofs.Ytghffnjnpgiicaa
open Go.RowKit

theorem below_dr {B : Nat} {w0 w : World} (h : Below B w0 w) : Below B w0 w.drew := h.trans ⟨rfl, rfl, rfl, Nat.le_refl _, fun _ _ => rfl⟩

theorem row_set {xss : List (List Int)} {k j : Nat} {xs : List Int} (hk : k < xss.length) : row (xss.set k xs) j = if j = k then xs else row xss j := by
  unfold row
  simp only [List.getD_eq_getElem?_getD, List.getElem?_set]
  by_cases e : j = k
  · subst e; simp [hk]
  · rw [if_neg (fun q => e q.symm), if_neg e]

theorem NewInts.except {B : Nat} {w w' : World} {u : Value} {xs : List Int} (a : Nat) (h : NewInts B w u xs) (hh : ∀ g, g ≠ a → B ≤ g → g < w.heap.size → w'.heap[g]? = w.heap[g]?) (ht : ∀ cs fr, w.heap[a]? ≠ some (.cells cs 3 fr)) : NewInts B w' u xs := by
  refine ⟨⟨h.own.1, ?_⟩, h.wf, h.len⟩
  rcases h.own.2 with h2 | ⟨g, cap, cur, h1, h2, h3, h4⟩
  · exact .inl h2
  · exact .inr ⟨g, cap, cur, h1, h2, (hh g (fun e => ht _ _ (e ▸ h3)) h2 (lt_of_block h3)).trans h3, h4⟩

theorem NewRows.except {B : Nat} {w w' : World} {v : Value} {xss : List (List Int)} (a : Nat) (h : NewRows B w v xss) (hh : ∀ g, g ≠ a → B ≤ g → g < w.heap.size → w'.heap[g]? = w.heap[g]?) (hv : v.ownBlock ≠ some a) (ht : ∀ cs fr, w.heap[a]? ≠ some (.cells cs 3 fr)) : NewRows B w' v xss := by
  obtain ⟨vs, h1, h2, h3⟩ := h.ex
  refine ⟨vs, ⟨h1.1, ?_⟩, fun j hj => let ⟨u, e, hu⟩ := h2 j hj; ⟨u, e, hu.except a hh ht⟩, h3⟩
  rcases h1.2 with q | ⟨g, cap, cur, q1, q2, q3, q4⟩
  · exact .inl q
  · refine .inr ⟨g, cap, cur, q1, q2, (hh g (fun e => hv ?_) q2 (lt_of_block q3)).trans q3, q4⟩
    rw [q1]; simp [Value.ownBlock, e]

theorem NewRows.put {B : Nat} {w : World} {g cap k : Nat} {xss : List (List Int)} {u : Value} {xs : List Int} (h : NewRows B w (.slice (some ⟨g, 0, none⟩) xss.length cap) xss) (hk : k < xss.length) (hu : NewInts B w u xs) :
    NewRows B (w.setCell ⟨g, k, none⟩ u) (.slice (some ⟨g, 0, none⟩) xss.length cap) (xss.set k xs) := by
  obtain ⟨vs, h1, h2, h3⟩ := h.ex
  rcases h1.2 with ⟨q, _⟩ | ⟨g', cap', cur, q1, q2, q3, q4, q5, q6, q7⟩
  · simp at q
  · simp at q1
    obtain ⟨rfl, rfl⟩ := q1
    have hl : vs.length = xss.length := by have := h1.1; omega
    have ht : ∀ cs fr, w.heap[g]? ≠ some (.cells cs 3 fr) := fun cs fr e => by rw [q3] at e; simp at e
    have hh : ∀ g', g' ≠ g → B ≤ g' → g' < w.heap.size → (w.setCell ⟨g, k, none⟩ u).heap[g']? = w.heap[g']? := fun g' e _ _ => heap_setCell_other _ _ _ _ e
    refine ⟨vs.set k u, ⟨by simp; omega, .inr ⟨g, cap, cur.setIfInBounds k u, by simp, q2, heap_setCell_same _ _ _ _ _ _ q3, by simpa using q4, q5, by simpa using q6, ?_⟩⟩, fun j hj => ?_, fun x hx => ?_⟩
    · refine List.ext_getElem? fun i => ?_
      have := congrArg (fun l : List Value => l[i]?) q7
      simp only [List.getElem?_take] at this ⊢
      simp only [List.length_set, Nat.mul_one, Array.toList_setIfInBounds, List.getElem?_set] at this ⊢
      by_cases hi : i < xss.length
      · rw [if_pos hi] at this ⊢
        by_cases e : k = i
        · subst e
          simp [hl, hk]; omega
        · rw [if_neg e, if_neg e]; exact this
      · rw [if_neg hi] at this ⊢
        rw [if_neg (by omega)]; exact this
    · rw [List.length_set] at hj
      rw [row_set hk]
      by_cases e : j = k
      · subst e
        rw [if_pos rfl]
        exact ⟨u, by simp [hl, hk], hu.except g hh ht⟩
      · rw [if_neg e]
        obtain ⟨u', e1, e2⟩ := h2 j hj
        exact ⟨u', by rw [List.getElem?_set, if_neg (fun q => e q.symm)]; exact e1, e2.except g hh ht⟩
    · rcases List.mem_or_eq_of_mem_set hx with hx | hx
      · exact h3 x hx
      · rw [hx]; exact hu.oneCell

/-- What the first statement of forced leaves. -/
structure FGot (w wx : World) (P T : List (List Int)) (p : Value) : Prop where
  ex : ∃ nb g1 c1 g2 c2, p = .pointer (some ⟨nb, 0, none⟩) ∧ w.heap.size + 2 ≤ nb ∧ wx.heap[nb]? = some (.cells #[.slice (some ⟨g1, 0, none⟩) P.length c1, .slice (some ⟨g2, 0, none⟩) T.length c2] 24 (0, 0)) ∧
    NewRows (w.heap.size + 2) wx (.slice (some ⟨g1, 0, none⟩) P.length c1) P ∧ NewRows (w.heap.size + 2) wx (.slice (some ⟨g2, 0, none⟩) T.length c2) T ∧ g1 ≠ g2
  below : Below w.heap.size w wx
  res : wx.heap[w.heap.size + 1]? = some (.cells #[.slice none 0 0, .slice none 0 0] 24 (0, 0))

theorem rows_slice {B : Nat} {w : World} {v : Value} {xss : List (List Int)} (h : NewRows B w v xss) (hp : 0 < xss.length) : ∃ g cap, v = .slice (some ⟨g, 0, none⟩) xss.length cap ∧ B ≤ g ∧ g < w.heap.size := by
  obtain ⟨vs, h1, _⟩ := h.ex
  rcases h1.2 with ⟨_, h2⟩ | ⟨g, cap, cur, h1, h2, h3, _⟩
  · omega
  · exact ⟨g, cap, h1, h2, lt_of_block h3⟩

theorem FGot.mk' {w wx w1 w2 : World} {P T : List (List Int)} {v1 v2 : Value} {B1 B2 nb : Nat} (hp : 0 < P.length) (ht : 0 < T.length) (n1 : NewRows B1 w1 v1 P) (n2 : NewRows B2 w2 v2 T)
    (h12 : Below w1.heap.size w1 w2) (hB1 : w.heap.size + 2 ≤ B1) (hB2 : w1.heap.size ≤ B2) (k : ∀ g, g < w2.heap.size → g ≠ nb → wx.heap[g]? = w2.heap[g]?) (d1 : nb < B1 ∨ w1.heap.size ≤ nb) (d2 : nb < B2 ∨ w2.heap.size ≤ nb) (hnb : w.heap.size + 2 ≤ nb)
    (hn : wx.heap[nb]? = some (.cells #[v1, v2] 24 (0, 0))) (hb : Below w.heap.size w wx) (hr : wx.heap[w.heap.size + 1]? = some (.cells #[.slice none 0 0, .slice none 0 0] 24 (0, 0))) :
    FGot w wx P T (.pointer (some ⟨nb, 0, none⟩)) := by
  have s12 := h12.size
  obtain ⟨g1, c1, rfl, k1, k2⟩ := rows_slice n1 hp
  obtain ⟨g2, c2, rfl, k3, k4⟩ := rows_slice n2 ht
  exact ⟨⟨nb, g1, c1, g2, c2, rfl, hnb, hn, (n1.blocks fun g h1 h2 => by rw [k g (by omega) (by omega), h12.block g h2]).mono hB1, (n2.blocks fun g h1 h2 => k g h2 (by omega)).mono (by omega), by omega⟩, hb, hr⟩

/-- A cell of an outer list. -/
theorem rows_cell {B : Nat} {w : World} {g cap k : Nat} {xss : List (List Int)} (h : NewRows B w (.slice (some ⟨g, 0, none⟩) xss.length cap) xss) (hk : k < xss.length) : g < w.heap.size ∧ B ≤ g ∧ (∃ u, w.cell? ⟨g, k, none⟩ = some u) ∧ w.frozen? ⟨g, k, none⟩ = false ∧ ∀ cs fr, w.heap[g]? ≠ some (.cells cs 3 fr) := by
  obtain ⟨vs, h1, h2, h3⟩ := h.ex
  rcases h1.2 with ⟨q, _⟩ | ⟨g', cap', cur, q1, q2, q3, q4, q5, q6, q7⟩
  · simp at q
  · simp at q1
    obtain ⟨rfl, rfl⟩ := q1
    refine ⟨lt_of_block q3, q2, ⟨cur[k]'(by omega), ?_⟩, frozen_of_row _ _ _ _ _ q3, fun cs fr e => by rw [q3] at e; simp at e⟩
    rw [cell_of_row _ _ _ _ _ _ q3, Array.getElem?_eq_getElem (by omega)]

set_option maxHeartbeats 4000000 in
set_option maxRecDepth 100000 in
theorem forced_any (P T : List (List Int)) (v : Value) (x : Nat) (val : Int) (w : World) (h : NetAt w v P T) (hn : IsNet P T) (hx : x < P.length) (hv : val = 0 ∨ val = 1) :
    Calls Try.prog 67 #[v, .int .i64 x, .int .i64 val] w fun e w' => (∃ v1 v2, e = .returned (.agg #[v1, v2]) ∧ NewRows w.heap.size w' v1 (P.set x []) ∧ NewRows w.heap.size w' v2 (T.set x [16 * val])) ∧ Below w.heap.size w w' := by
  have HN := Lib.hid hn
  obtain ⟨pa, b, o, pc, A, B, O, C, ta, b', o', tc, A', B', O', C', rfl, hP, hT⟩ := h.ex
  have h10 := hn.le
  have htab := hn.tab
  have HTAB := Lib.hid htab
  obtain ⟨wa, hwa⟩ : ∃ wa, (w.alloc (.cells #[.slice pa P.length pc, .slice ta T.length tc] 24)).alloc (.cells #[.slice none 0 0, .slice none 0 0] 24) = wa := ⟨_, rfl⟩
  have HWA := Lib.hid hwa
  have hs : wa.heap.size = w.heap.size + 2 := by rw [← hwa]; simp
  have HS := Lib.hid hs
  have hb0 : Below w.heap.size w wa := by rw [← hwa]; exact ((Below.refl _ _).alloc (Nat.le_refl _) _).alloc (by simp) _
  have HB0 := Lib.hid hb0
  have HT2 := Lib.hid (show ∀ w', Below wa.heap.size wa w' → w'.heap[w.heap.size]? = some (.cells #[.slice pa P.length pc, .slice ta T.length tc] 24 (0, 0)) ∧ w'.heap[w.heap.size + 1]? = some (.cells #[.slice none 0 0, .slice none 0 0] 24 (0, 0)) from
    fun w' h => two2 (by rw [hwa]; exact h.mono (by omega)) (Nat.le_refl _))
  have HTC := Lib.hid (show ∀ w', Below wa.heap.size wa w' → w'.cell? ⟨w.heap.size, 0, none⟩ = some (.slice pa P.length pc) ∧ w'.cell? ⟨w.heap.size, 1, none⟩ = some (.slice ta T.length tc) from
    fun w' h => by obtain ⟨c0, c1, -, -⟩ := cells_of2 (HT2.out w' h).1; exact ⟨c0, c1⟩)
  have HPa := Lib.hid (hP.below hb0 (Nat.le_refl _))
  have HTa := Lib.hid (hT.below hb0 (Nat.le_refl _))
  have HLP := Lib.hid (show ∀ i, i < P.length → (row P i).length ≤ 1000 from fun i hi => by have := (hn.par i hi).1; omega)
  have HLT := Lib.hid (show ∀ i, i < T.length → (row T i).length ≤ 1000 from fun i hi => by
    have h1 := (hn.ok i (by omega)).1
    have h2 := (hn.par i (by omega)).1
    have h3 : 2 ^ (row P i).length ≤ 2 ^ 3 := Nat.pow_le_pow_right (by omega) h2
    omega)
  have HD := Lib.hid (below_dr (Below.refl wa.heap.size wa))
  have HDA := Lib.hid (below_dr ((Below.refl wa.heap.size wa).alloc (Nat.le_refl _) (.cells #[.slice none 0 0, .slice none 0 0] 24)))
  have HHA : Hid ((wa.alloc (.cells #[.slice none 0 0, .slice none 0 0] 24)).drew.heap[wa.heap.size]? = some (.cells #[.slice none 0 0, .slice none 0 0] 24 (0, 0))) := heap_alloc_new wa _
  have HCp := Lib.hid (show ∀ W, Below wa.heap.size wa W → Calls Try.prog 80 #[.slice pa P.length pc] W fun e w' => ∃ u, e = .returned u ∧ NewRows W.heap.size w' u P ∧ Below W.heap.size W w' ∧ Below wa.heap.size wa w' from
    fun W hW => (copied_any P pa b o pc A B O C W (HPa.out.below hW (Nat.le_refl _)) (by omega) HLP.out).mono fun e w' ⟨⟨u, h1, h2⟩, h3⟩ => ⟨u, h1, h2, h3, hW.trans (h3.mono hW.size)⟩)
  have HCt := Lib.hid (show ∀ W, Below wa.heap.size wa W → Calls Try.prog 80 #[.slice ta T.length tc] W fun e w' => ∃ u, e = .returned u ∧ NewRows W.heap.size w' u T ∧ Below W.heap.size W w' ∧ Below wa.heap.size wa w' from
    fun W hW => (copied_any T ta b' o' tc A' B' O' C' W (HTa.out.below hW (Nat.le_refl _)) (by omega) HLT.out).mono fun e w' ⟨⟨u, h1, h2⟩, h3⟩ => ⟨u, h1, h2, h3, hW.trans (h3.mono hW.size)⟩)
  have hpos : 0 < P.length := by omega
  have htos : 0 < T.length := by omega
  clear h hP hT hn hwa hs hb0 htab
  go_enter Try.func67, Try.ntmps67
  go_upto_region 1 with fail
  rw [HWA.out]
  go_cut [7] from 8 to 27 (fun p wx => FGot w wx P T p)
  case first =>
    go_region_held3 (fun w' => w'.cell? ⟨w.heap.size, 0, none⟩ = some (.slice pa P.length pc) ∧ w'.cell? ⟨w.heap.size, 1, none⟩ = some (.slice ta T.length tc))
      (first | exact HTC.out _ HB2.out | exact HTC.out _ (HB2.out.alloc HB2.out.size _) | exact HTC.out _ HB1.out | exact HTC.out _ (HB1.out.alloc HB1.out.size _) | exact HTC.out _ HD.out | exact HTC.out _ (HD.out.alloc HD.out.size _) | exact HTC.out _ ((HB2.out.setCell (p := ⟨_, 0, none⟩) (by first | exact HB1.out.size | exact HD.out.size) _).setCell (p := ⟨_, 1, none⟩) (by first | exact HB1.out.size | exact HD.out.size) _))
      (first
        | (go_simp; go_at_call 80; with_reducible refine (HCp.out _ HD.out).mono ?_; rintro e w1 ⟨v1, rfl, n1, -, hb1⟩; obtain ⟨g1, c1, rfl, -, -⟩ := rows_slice n1 hpos; have HB1 := Lib.hid hb1; have HN1 := Lib.hid n1; clear hb1 n1)
        | (go_simp; go_at_call 80; with_reducible refine (HCt.out _ HB1.out).mono ?_; rintro e w2 ⟨v2, rfl, n2, hb, hb2⟩; obtain ⟨g2, c2, rfl, -, -⟩ := rows_slice n2 htos; have HB12 := Lib.hid hb; have HB2 := Lib.hid hb2; have HN2 := Lib.hid n2; first | (have HH2 := Lib.hid ((HB12.out.block _ (lt_of_block HH1.out)).trans HH1.out); obtain ⟨z0, z1, z2, z3⟩ := cells_of2 HH2.out) | skip; clear hb hb2 n2)
        | (go_simp; go_at_call 80; with_reducible refine (HCt.out _ (HB1.out.alloc HB1.out.size _)).mono ?_; rintro e w2 ⟨v2, rfl, n2, hb, hb2⟩; obtain ⟨g2, c2, rfl, -, -⟩ := rows_slice n2 htos; have HH2 := Lib.hid ((hb.block w1.heap.size (by simp)).trans (heap_alloc_new w1 _)); have HB12 := Lib.hid (((Below.refl _ w1).alloc (Nat.le_refl _) _).trans (hb.mono (by simp))); have HB2 := Lib.hid hb2; have HN2 := Lib.hid n2; obtain ⟨z0, z1, z2, z3⟩ := cells_of2 HH2.out; clear hb hb2 n2)
        | (go_simp; go_at_call 80; with_reducible refine (HCp.out _ HDA.out).mono ?_; rintro e w1 ⟨v1, rfl, n1, hb, hb1⟩; obtain ⟨g1, c1, rfl, -, -⟩ := rows_slice n1 hpos; have HH1 := Lib.hid ((hb.block _ (lt_of_block HHA.out)).trans HHA.out); have HB1 := Lib.hid hb1; have HN1 := Lib.hid n1; clear hb hb1 n1))
    all_goals (go_wp2_with fail; go_meet)
    all_goals
      have s1 := HB12.out.size
      have s3 := HB1.out.size
      have s4 := HS.out
      try have s6 := lt_of_block HH2.out
      try have s7 := lt_of_block HH1.out
      have hres := (HT2.out _ HB2.out).2
      have hdr : ∀ z : World, z.drew.heap.size = z.heap.size := fun _ => rfl
    · refine FGot.mk' hpos htos HN1.out HN2.out HB12.out ?_ ?_ (fun g h1 h2 => Below.heap_alloc _ _ _ h1) ?_ ?_ ?_ (heap_alloc_new _ _) (HB0.out.trans ((HB2.out.alloc HB2.out.size _).mono (by omega))) ((Below.heap_alloc _ _ _ (by have := lt_of_block hres; omega)).trans hres)
      all_goals first | omega | (simp only [hdr]; omega)
    all_goals
      refine FGot.mk' hpos htos HN1.out HN2.out HB12.out ?_ ?_ (fun g h1 h2 => by rw [heap_setCell_other _ _ _ _ h2, heap_setCell_other _ _ _ _ h2]) ?_ ?_ ?_ (heap_setCell_same _ _ _ _ _ _ (heap_setCell_same _ _ _ _ _ _ HH2.out)) (HB0.out.trans (((HB2.out.setCell (p := ⟨_, 0, none⟩) ?_ _).setCell (p := ⟨_, 1, none⟩) ?_ _).mono (by omega))) ?_
      all_goals first | omega | (simp only [hdr, World.size_alloc]; omega) | (refine (heap_setCell_other _ _ _ _ ?_).trans ((heap_setCell_other _ _ _ _ ?_).trans hres) <;> (show w.heap.size + 1 ≠ _; first | omega | (simp only; omega)))
  case rest =>
    obtain ⟨⟨nb, g1, c1, g2, c2, rfl, hnb, hblk, r1, r2, hne⟩, hbw, hres⟩ := hcut
    have hxT : x < T.length := by have := HTAB.out; omega
    obtain ⟨l1, l1', ⟨u1, k1⟩, f1, t1⟩ := rows_cell r1 hx
    obtain ⟨l2, l2', ⟨u2, k2⟩, f2, t2⟩ := rows_cell r2 hxT
    obtain ⟨d0, d1, -, -⟩ := cells_of2 hblk
    obtain ⟨e0, e1, fe0, fe1⟩ := cells_of2 hres
    have hlnb := lt_of_block hblk
    have hlres := lt_of_block hres
    have hng1 : nb ≠ g1 := fun e => by
      subst e
      rcases r1.ex with ⟨vs, q, _⟩
      rcases q.2 with ⟨q, _⟩ | ⟨g', cap', cur, q1, q2, q3, _⟩
      · simp at q
      · simp at q1; obtain ⟨rfl, rfl⟩ := q1; rw [hblk] at q3; simp at q3
    have hng2 : nb ≠ g2 := fun e => by
      subst e
      rcases r2.ex with ⟨vs, q, _⟩
      rcases q.2 with ⟨q, _⟩ | ⟨g', cap', cur, q1, q2, q3, _⟩
      · simp at q
      · simp at q1; obtain ⟨rfl, rfl⟩ := q1; rw [hblk] at q3; simp at q3
    have HBLK := Lib.hid hblk
    have HR1 := Lib.hid r1
    have HR2 := Lib.hid r2
    have HT1 := Lib.hid t1
    have HTT2 := Lib.hid t2
    have HBW := Lib.hid hbw
    have HRES := Lib.hid hres
    have hng1' := hng1.symm
    have hng2' := hng2.symm
    have hne' := hne.symm
    have hr1 : w.heap.size + 1 ≠ g1 := by omega
    have hr2 : w.heap.size + 1 ≠ g2 := by omega
    have hr3 : w.heap.size + 1 ≠ nb := by omega
    clear hblk r1 r2 t1 t2 hbw hres HCp HCt HPa HTa HD HDA HHA HT2 HTC HWA HB0
    have hv0 : 0 ≤ val := by omega
    have hv1 : val ≤ 1 := by omega
    obtain ⟨W4, hW4⟩ : ∃ W4, (((wc.setCell ⟨g1, x, none⟩ (.slice (some ⟨wc.heap.size, 0, none⟩) 0 0)).setCell ⟨g2, x, none⟩ (.slice (some ⟨wc.heap.size + 1, 0, none⟩) 1 1)).alloc (.cells #[] 3)).alloc (.cells #[.int .i64 (val * 16)] 3) = W4 := ⟨_, rfl⟩
    have HW4 := Lib.hid hW4
    have hres4 : W4.heap[w.heap.size + 1]? = some (.cells #[.slice none 0 0, .slice none 0 0] 24 (0, 0)) := by
      rw [← hW4, Below.heap_alloc _ _ _ (by simp; omega), Below.heap_alloc _ _ _ (by simpa using hlres), heap_setCell_other _ _ _ _ hr2, heap_setCell_other _ _ _ _ hr1]; exact HRES.out
    have HR4 := Lib.hid hres4
    have hb4 : Below w.heap.size w W4 := by
      rw [← hW4]
      exact (((HBW.out.setCell (show w.heap.size ≤ g1 by omega) _).setCell (show w.heap.size ≤ g2 by omega) _).alloc (by simp; omega) _).alloc (by simp; omega) _
    have HB4 := Lib.hid hb4
    have hnew : NewRows (w.heap.size + 2) W4 (.slice (some ⟨g1, 0, none⟩) P.length c1) (P.set x []) ∧ NewRows (w.heap.size + 2) W4 (.slice (some ⟨g2, 0, none⟩) T.length c2) (T.set x [16 * val]) := by
      have hA := heap_alloc_new wc (.cells #[] 3)
      have p1 := (HR1.out.below ((Below.refl _ _).alloc (Nat.le_refl _) (.cells #[] 3)) (Nat.le_refl _)).put hx (newInts_of_cells (B := w.heap.size + 2) (xs := []) hA (by omega) (by simp) (fun i => by simp [nth]))
      have q1 := (HR2.out.below ((Below.refl _ _).alloc (Nat.le_refl _) (.cells #[] 3)) (Nat.le_refl _)).except g1 (w' := (wc.alloc (.cells #[] 3)).setCell ⟨g1, x, none⟩ (.slice (some ⟨wc.heap.size, 0, none⟩) 0 0)) (fun g e _ _ => heap_setCell_other _ _ _ _ e) (by simp [Value.ownBlock]; omega) (fun cs fr => by rw [Below.heap_alloc _ _ _ l1]; exact HT1.out cs fr)
      rw [World.setCell_alloc_past _ _ _ _ l1] at q1
      have p1' := p1
      rw [show ((([] : List Int).length) = 0) from rfl, World.setCell_alloc_past _ _ _ _ l1] at p1'
      obtain ⟨wd, hwd⟩ : ∃ wd, (wc.setCell ⟨g1, x, none⟩ (.slice (some ⟨wc.heap.size, 0, none⟩) 0 0)).alloc (.cells #[] 3) = wd := ⟨_, rfl⟩
      have hsd : wd.heap.size = wc.heap.size + 1 := by rw [← hwd]; simp
      rw [hwd] at p1' q1
      have hA2 := heap_alloc_new wd (.cells #[.int .i64 (val * 16)] 3)
      have htt : ∀ cs fr, (wd.alloc (.cells #[.int .i64 (val * 16)] 3)).heap[g2]? ≠ some (.cells cs 3 fr) := fun cs fr => by
        rw [Below.heap_alloc _ _ _ (by omega), ← hwd, Below.heap_alloc _ _ _ (by simpa using l2), heap_setCell_other _ _ _ _ (Ne.symm hne)]; exact HTT2.out cs fr
      have q2 := (q1.below ((Below.refl _ _).alloc (Nat.le_refl _) (.cells #[.int .i64 (val * 16)] 3)) (Nat.le_refl _)).put hxT (newInts_of_cells (B := w.heap.size + 2) (xs := [val * 16]) hA2 (by omega) (by simp) (fun i => by
        match i with
        | 0 => simp [nth]; omega
        | i + 1 => simp [nth]))
      have p2 := (p1'.below ((Below.refl _ _).alloc (Nat.le_refl _) (.cells #[.int .i64 (val * 16)] 3)) (Nat.le_refl _)).except g2 (w' := (wd.alloc (.cells #[.int .i64 (val * 16)] 3)).setCell ⟨g2, x, none⟩ (.slice (some ⟨wd.heap.size, 0, none⟩) 1 1)) (fun g e _ _ => heap_setCell_other _ _ _ _ e) (by simp [Value.ownBlock]; omega) htt
      have e4 : (wd.alloc (.cells #[.int .i64 (val * 16)] 3)).setCell ⟨g2, x, none⟩ (.slice (some ⟨wd.heap.size, 0, none⟩) 1 1) = W4 := by
        rw [World.setCell_alloc_past _ _ _ _ (by omega), ← hW4, hsd, ← hwd, World.setCell_alloc_past _ _ _ _ (by simpa using l2)]
      rw [show (([val * 16] : List Int).length) = 1 from rfl, e4, Int.mul_comm] at q2
      rw [e4] at p2
      exact ⟨p2, q2⟩
    have HNEW := Lib.hid hnew
    have HR4s := hres4
    rw [← hW4] at HR4s
    replace HR4s := Lib.hid HR4s
    clear hW4 hres4 hb4 hnew
    go_wp2_with ((refine wpList_store_row rfl 24 (.tmp 6) (.tmp 27) rfl (w.heap.size + 1) _ rfl rfl 24 _ HR4s.out (by kernel_rfl) rfl (by simp [Value.oneCell']) ?_))
    rw [HW4.out]
    refine bodyPost_ret (v := .agg #[.slice (some ⟨g1, 0, none⟩) P.length c1, .slice (some ⟨g2, 0, none⟩) T.length c2]) ?_ rfl ⟨⟨_, _, rfl, ?_, ?_⟩, ?_⟩
    · rw [results_cell_row (ty := 24) (p := 6) rfl _ _ (w.heap.size + 1) 24 _ (0, 0) _ rfl (setRow_heap _ _ _ _ _ _ HR4.out) Try.underlying24 rfl (by kernel_rfl)]
    · exact (HNEW.out.1.blocks (fun g h1 h2 => Go.setRow_other _ _ _ _ (by omega))).mono (by omega)
    · exact (HNEW.out.2.blocks (fun g h1 h2 => Go.setRow_other _ _ _ _ (by omega))).mono (by omega)
    · exact below_setRow HB4.out (by omega) _

end Go.Proofs.Ytghffnjnpgiicaa

/- Force. -/
namespace Go.Proofs.Ytghffnjnpgiicaa
open Go.RowKit

/-- The arguments of Force are right. -/
def okFrc (P T : List (List Int)) (x val : Int) : Bool := isNet P T && isVar x P.length && isVal val
def frcP (P T : List (List Int)) (x val : Int) : List (List Int) := if okFrc P T x val = true then P.set x.toNat [] else []
def frcT (P T : List (List Int)) (x val : Int) : List (List Int) := if okFrc P T x val = true then T.set x.toNat [16 * val] else []
def frcE (P T : List (List Int)) (x val : Int) : Int := if okFrc P T x val = true then 0 else 2
theorem frc_no {P T : List (List Int)} {x val : Int} (h : okFrc P T x val = false) : frcP P T x val = [] ∧ frcT P T x val = [] ∧ frcE P T x val = 2 := by
  unfold frcP frcT frcE; rw [h]; exact ⟨rfl, rfl, rfl⟩
theorem frc_yes {P T : List (List Int)} {x val : Int} (h : okFrc P T x val = true) : frcP P T x val = P.set x.toNat [] ∧ frcT P T x val = T.set x.toNat [16 * val] ∧ frcE P T x val = 0 := by
  unfold frcP frcT frcE; rw [h]; exact ⟨rfl, rfl, rfl⟩

/-- What Force answers. -/
def ForceSays (P T : List (List Int)) (x val : Int) (w : World) (e : Ending) (w' : World) : Prop :=
  ∃ v1 v2, e = .returned (.tuple #[.agg #[v1, v2], .int .i64 (frcE P T x val)]) ∧ NewRows w.heap.size w' v1 (frcP P T x val) ∧ NewRows w.heap.size w' v2 (frcT P T x val) ∧ Below w.heap.size w w'

theorem force_refused {P T : List (List Int)} {x val : Int} {w w' : World} (h : okFrc P T x val = false) (hb : Below w.heap.size w w') :
    ForceSays P T x val w (.returned (.tuple #[.agg #[.slice none 0 0, .slice none 0 0], .int .i64 2])) w' := by
  obtain ⟨h1, h2, h3⟩ := frc_no h
  refine ⟨.slice none 0 0, .slice none 0 0, by rw [h3], ?_, ?_, hb⟩
  · rw [h1]; exact NewRows.nil _ _
  · rw [h2]; exact NewRows.nil _ _

set_option maxHeartbeats 4000000 in
set_option maxRecDepth 100000 in
theorem force_any (P T : List (List Int)) (v : Value) (x val : Int) (w : World) (h : NetAt w v P T) :
    Calls Try.prog 33 #[v, .int .i64 x, .int .i64 val] w (ForceSays P T x val w) := by
  have HNet := Lib.hid h
  obtain ⟨pa, b, o, pc, A, B, O, C, ta, b', o', tc, A', B', O', C', rfl, hP, hT⟩ := h.ex
  have W0b : Below w.heap.size w ((w.alloc (.cells #[.slice pa P.length pc, .slice ta T.length tc] 24)).alloc (.cells #[.slice none 0 0, .slice none 0 0] 24)) := ((Below.refl _ _).alloc (Nat.le_refl _) _).alloc (by simp) _
  have HW0b := Lib.hid W0b
  have hv1 := fun w => isVariable_any x P.length w
  have hv2 := fun w => isValue_any val w
  have HV1 := Lib.hid hv1
  have HV2 := Lib.hid hv2
  clear h hP hT W0b hv1 hv2
  obtain ⟨ok, hok⟩ : ∃ ok, isNet P T = ok := ⟨_, rfl⟩
  have HOK := Lib.hid hok
  clear hok
  go_enter Try.func33, Try.ntmps33
  go_wp2_with fail
  refine (isNetwork_any P T _ _ ((HNet.out.alloc _).alloc _)).mono ?_
  rw [HOK.out]
  rintro e w1 ⟨rfl, hb1⟩
  have HB1 : Hid (Below (w.heap.size + 2) _ w1) := hb1.mono (by simp)
  have HBW := Lib.hid (HW0b.out.trans (HB1.out.mono (by omega)))
  obtain ⟨k0, k1⟩ := two2 HB1.out (Nat.le_refl _)
  obtain ⟨c0, c1, -, -⟩ := cells_of2 k0
  have K1 := Lib.hid k1
  clear k0 k1 hb1
  have hone : (#[Value.slice none 0 0, Value.slice none 0 0] : Array Value).all (·.oneCell') = true := by simp [Value.oneCell']
  have HONE := Lib.hid hone
  clear hone
  cases ok
  · have HNO := Lib.hid (show okFrc P T x val = false by unfold okFrc; rw [HOK.out]; rfl)
    go_wp2_with (refine wpList_store_row rfl 24 (.tmp 6) (.tmp 24) rfl (w.heap.size + 1) _ rfl rfl 24 _ K1.out (by kernel_rfl) rfl HONE.out ?_)
    refine bodyPost_ret (v := .tuple #[.agg #[.slice none 0 0, .slice none 0 0], .int .i64 2]) ?_ rfl (force_refused HNO.out (below_setRow HBW.out (by omega) _))
    exact results_cell_row2 (ty := 24) (p := 6) (u := 7) rfl _ _ (w.heap.size + 1) 24 _ (0, 0) _ rfl (setRow_heap _ _ _ _ _ _ K1.out) Try.underlying24 rfl (by kernel_rfl)
  · have HN := Lib.hid (of_decide_eq_true HOK.out : IsNet P T)
    have h10 := HN.out.le
    cases e1 : isVar x P.length
    · have HNO := Lib.hid (show okFrc P T x val = false by unfold okFrc; rw [e1]; simp)
      have HC := HV1.out w1
      rw [e1] at HC
      replace HC := Lib.hid HC
      clear e1
      go_wp2_with (first
        | (go_at_call 58; with_reducible refine HC.out.mono ?_; rintro e w' ⟨rfl, rfl⟩)
        | (refine wpList_store_row rfl 24 (.tmp 6) (.tmp 24) rfl (w.heap.size + 1) _ rfl rfl 24 _ K1.out (by kernel_rfl) rfl HONE.out ?_))
      refine bodyPost_ret (v := .tuple #[.agg #[.slice none 0 0, .slice none 0 0], .int .i64 2]) ?_ rfl (force_refused HNO.out (below_setRow HBW.out (by omega) _))
      exact results_cell_row2 (ty := 24) (p := 6) (u := 7) rfl _ _ (w.heap.size + 1) 24 _ (0, 0) _ rfl (setRow_heap _ _ _ _ _ _ K1.out) Try.underlying24 rfl (by kernel_rfl)
    · have hx := of_decide_eq_true e1
      have E1 := Lib.hid e1
      have HC := HV1.out w1
      rw [e1] at HC
      replace HC := Lib.hid HC
      clear e1
      cases e2 : isVal val
      · have HNO := Lib.hid (show okFrc P T x val = false by unfold okFrc; rw [e2]; simp)
        have HC2 := HV2.out w1
        rw [e2] at HC2
        replace HC2 := Lib.hid HC2
        clear e2 hx
        go_wp2_with (first
          | (go_at_call 58; with_reducible refine HC.out.mono ?_; rintro e w' ⟨rfl, rfl⟩)
          | (go_at_call 66; with_reducible refine HC2.out.mono ?_; rintro e w' ⟨rfl, rfl⟩)
          | (refine wpList_store_row rfl 24 (.tmp 6) (.tmp 24) rfl (w.heap.size + 1) _ rfl rfl 24 _ K1.out (by kernel_rfl) rfl HONE.out ?_))
        refine bodyPost_ret (v := .tuple #[.agg #[.slice none 0 0, .slice none 0 0], .int .i64 2]) ?_ rfl (force_refused HNO.out (below_setRow HBW.out (by omega) _))
        exact results_cell_row2 (ty := 24) (p := 6) (u := 7) rfl _ _ (w.heap.size + 1) 24 _ (0, 0) _ rfl (setRow_heap _ _ _ _ _ _ K1.out) Try.underlying24 rfl (by kernel_rfl)
      · have HYES := Lib.hid (frc_yes (show okFrc P T x val = true by unfold okFrc; rw [HOK.out, E1.out, e2]; rfl))
        have hval := of_decide_eq_true e2
        have HVAL := Lib.hid hval
        have HC2 := HV2.out w1
        rw [e2] at HC2
        replace HC2 := Lib.hid HC2
        obtain ⟨x, rfl⟩ := Int.eq_ofNat_of_zero_le hx.1
        have hxP : x < P.length := by omega
        clear e2 hval
        go_wp2_with (first
          | (go_at_call 58; with_reducible refine HC.out.mono ?_; rintro e w' ⟨rfl, rfl⟩)
          | (go_at_call 66; with_reducible refine HC2.out.mono ?_; rintro e w' ⟨rfl, rfl⟩))
        refine (forced_any P T _ x val _ (((HNet.out.alloc _).alloc _).below HB1.out (by simp)) HN.out hxP HVAL.out).mono ?_
        rintro e w2 ⟨⟨v1, v2, rfl, n1, n2⟩, hb2⟩
        have HB2 := Lib.hid (HBW.out.trans (hb2.mono HBW.out.size))
        have K2 := Lib.hid ((hb2.block _ (lt_of_block K1.out)).trans K1.out)
        have HN1 := Lib.hid n1
        have HN2 := Lib.hid n2
        have s1 := HBW.out.size
        have s2 := lt_of_block K1.out
        have hone2 : (#[v1, v2] : Array Value).all (·.oneCell') = true := by simp [n1.oneCell, n2.oneCell]
        have HONE2 := Lib.hid hone2
        clear n1 n2 hb2 hone2 c0 c1
        go_wp2_with (refine wpList_store_row rfl 24 (.tmp 6) (.tmp 28) rfl (w.heap.size + 1) _ rfl rfl 24 _ K2.out (by kernel_rfl) rfl HONE2.out ?_)
        refine bodyPost_ret (v := .tuple #[.agg #[v1, v2], .int .i64 0]) ?_ rfl ⟨v1, v2, by rw [HYES.out.2.2], ?_, ?_, below_setRow HB2.out (by omega) _⟩
        · exact results_cell_row2 (ty := 24) (p := 6) (u := 7) rfl _ _ (w.heap.size + 1) 24 _ (0, 0) _ rfl (setRow_heap _ _ _ _ _ _ K2.out) Try.underlying24 rfl (by kernel_rfl)
        · rw [HYES.out.1]; exact (HN1.out.blocks (fun g h1 h2 => Go.setRow_other _ _ _ _ (by omega))).mono s1
        · rw [HYES.out.2.1]; exact (HN2.out.blocks (fun g h1 h2 => Go.setRow_other _ _ _ _ (by omega))).mono s1

end Go.Proofs.Ytghffnjnpgiicaa

/- Forced networks, and facts of one variable: plain words. -/
namespace Go.Proofs.Ytghffnjnpgiicaa
open Go.RowKit Go.Maps

theorem net_of_rows {B1 B2 : Nat} {w : World} {v1 v2 : Value} {P T : List (List Int)} (h1 : NewRows B1 w v1 P) (h2 : NewRows B2 w v2 T) (l1 : P.length ≤ 1000) (l2 : T.length ≤ 1000) :
    ∃ pa pc ta tc, v1 = .slice pa P.length pc ∧ v2 = .slice ta T.length tc ∧ NetAt w (.agg #[.slice pa P.length pc, .slice ta T.length tc]) P T := by
  obtain ⟨pa, pb, pc, A, B1, O, C, rfl, r1⟩ := h1.at (by omega)
  obtain ⟨ta, tb, tc, A', B1', O', C', rfl, r2⟩ := h2.at (by omega)
  exact ⟨pa, pc, ta, tc, rfl, rfl, ⟨pa, pb, 0, pc, A, B1, O, C, ta, tb, 0, tc, A', B1', O', C', rfl, r1, r2⟩⟩

theorem isNet_forced {P T : List (List Int)} (h : IsNet P T) {x : Nat} (hx : x < P.length) {val : Int} (hv : val = 0 ∨ val = 1) : IsNet (P.set x []) (T.set x [16 * val]) := by
  have hxT : x < T.length := by rw [h.tab]; exact hx
  refine ⟨by simpa using h.pos, by simpa using h.le, by simp [h.tab], fun v hvl => ?_, fun v hvl => ?_⟩
  · rw [List.length_set] at hvl
    rw [row_set hx]
    by_cases e : v = x
    · rw [if_pos e]; exact ⟨by simp, fun j hj => by simp at hj, fun j hj => by simp at hj⟩
    · rw [if_neg e]; exact h.par v hvl
  · rw [List.length_set] at hvl
    rw [row_set hx, row_set hxT]
    by_cases e : v = x
    · rw [if_pos e, if_pos e]
      refine ⟨by simp, fun j hj => ?_⟩
      have : j = 0 := by simpa using hj
      subst this
      show 0 ≤ 16 * val ∧ 16 * val ≤ 16
      omega
    · rw [if_neg e, if_neg e]; exact h.ok v hvl

/-- One fact. -/
def oneF (y : Nat) (z : Int) : Option Int := if z = (y : Int) then some 1 else none
theorem oneF_dom {y : Nat} (hy : y < 10) : Dom (oneF y) := fun x c h => by
  unfold oneF at h
  by_cases e : x = (y : Int)
  · omega
  · rw [if_neg e] at h; cases h

theorem wpList_insert_own {H : Type} {P : Program} (w : World) {ops : Array Oper} {rest : List Oper} {o : Oper} {a : Act} {Q : Exit → Act → World → Prop}
    (hg : o.guard = none) (m x v : Operand) (t : TypeId) (hop : o.op = Op.insert t m x v)
    (k e : TypeId) (K : Keyed P k) (ht : P.underlying t = some (.map k e)) (R : Value → Option (DataW H × List MemPlace)) (b n : Nat) (D : DataW H)
    (hm : a.eval m = .map (some b)) (hown : w.ownsMap P k R b n D) (hn : n < maxLen) (key val : Value) (kl : Lit) (hx : a.eval x = key) (hv : a.eval v = val) (hkey : keyOf P k key = some kl)
    (d : DataW H) (ps : List MemPlace) (hval : R val = some (d, ps))
    (hK : ∀ w', w'.ownsMap P k R b (n + 1) (D.put kl d) → w.grownBy w' (some b) → wpList P ops Q rest (a.put o.dst undef) w') :
    wpList P ops Q (o :: rest) a w := by
  refine wpList_plain hg fun K' hK' => ?_
  obtain ⟨w', hrun, r1, r2⟩ := hown.update K ht hn hkey hval
  unfold Oper.wp
  simp [execOp, hop, hm, hx, hv, hrun, Result.andThen]
  exact hK' _ _ (hK w' r1 r2)

theorem facts_one {w : World} {g : Nat} {y : Nat} (h : w.ownsMap Try.prog 3 (plainElem Try.prog 3) g 1 ((DataW.map [] : DataW Unit).put (kl (y : Int)) (.lit (.int .i64 1)))) : FactsAt 1000 w g (oneF y) :=
  ⟨1, _, h, by omega, says_empty.put (by simp [IsMap]) (y : Int) 1⟩

end Go.Proofs.Ytghffnjnpgiicaa

