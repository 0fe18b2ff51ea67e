/- Copies of lists of rows. -/
import Derived.Test.YtaphmjccdokiiaaQa
namespace Go.Proofs.Ytaphmjccdokiiaa
open Go.RowKit

theorem news_whole {w : World} {ad : Addr} {b o : Nat} {xs : List Int} (h : IntsAt w (some ad) b o xs) : ∀ j u, (xs.map (Value.int .i64))[j]? = some u → w.cell? (ad.add j) = some u := by
  have := news_at h ad rfl xs.length
  rw [List.take_length] at this
  exact this

theorem addr_plain (b o j : Nat) : (⟨b, o, none⟩ : Addr).add j = ⟨b, o + j, none⟩ := by unfold Addr.add; split <;> simp_all

theorem made_copy (xs : List Int) : splice (madeCells #[Value.int .i64 0] xs.length).toList 0 (xs.map (Value.int .i64)) = xs.map (Value.int .i64) := by
  unfold splice
  rw [List.take_zero, List.nil_append, List.drop_eq_nil_of_le (by simp [size_madeCells]), List.append_nil]

/-- The rows of a slice of slices that was made. -/
theorem newRows_of_row {B g : Nat} {w : World} {xss : List (List Int)} {S : Nat → Value} (h : w.rowIs g 25 xss.length S) (hB : B ≤ g) (hl : xss.length ≤ 140737488351232) (hr : ∀ j, j < xss.length → NewInts B w (S j) (row xss j)) :
    NewRows B w (.slice (some ⟨g, 0, none⟩) xss.length xss.length) xss := by
  obtain ⟨c, hc, hs, he⟩ := h
  refine ⟨(List.range xss.length).map S, ⟨by simp, .inr ⟨g, xss.length, c, rfl, hB, hc, Nat.le_refl _, by unfold maxLen; omega, by omega, ?_⟩⟩, fun j hj => ⟨S j, by simp [hj], hr j hj⟩, fun u hu => ?_⟩
  · refine List.ext_getElem? fun i => ?_
    rw [List.getElem?_take]
    by_cases hi : i < xss.length
    · rw [if_pos (by omega), Array.getElem?_toList, he i hi]; simp [hi]
    · rw [if_neg (by omega)]; simp [show ¬ i < xss.length from hi]
  · obtain ⟨j, hj, rfl⟩ := List.mem_map.1 hu
    exact (hr j (by simpa using hj)).oneCell

set_option maxHeartbeats 4000000 in
set_option maxRecDepth 100000 in
theorem copied_any (xss : List (List Int)) (ao : Option Addr) (b o cap : Nat) (A : Nat → Option Addr) (B O C : Nat → Nat) (w : World) (h : RowsAt w ao b o xss A B O C) (hn : xss.length ≤ 1000) (hr : ∀ i, i < xss.length → (row xss i).length ≤ 1000) :
    Calls Try.prog 80 #[.slice ao xss.length cap] w fun e w' => (∃ u, e = .returned u ∧ NewRows w.heap.size w' u xss) ∧ Below w.heap.size w w' := by
  have H := Lib.hid h
  have HR := Lib.hid hr
  clear h hr
  have hmk := run_make_row' (P := Try.prog) 22 25 (.slice none 0 0) 24 Try.underlying22 Try.info25 rfl .i64 .i64 xss.length (by omega) (by omega)
  go_enter Try.func80, Try.ntmps80
  go_wp2
  clear hmk
  go_loopw [4, 5, 11] (fun _ _ i wr => ∃ (k : Nat) (S : Nat → Value), k ≤ xss.length ∧ i = .int .i64 k ∧ Below w.heap.size w wr ∧ wr.rowIs w.heap.size 25 xss.length (fun j => if j < k then S j else .slice none 0 0) ∧
      ∀ j, j < k → NewInts (w.heap.size + 1) wr (S j) (row xss j)) (fun _ _ i _ => xss.length - (intOf i).toNat)
  case atStart => exact ⟨0, fun _ => .slice none 0 0, by omega, rfl, (Below.refl _ _).alloc (Nat.le_refl _) _, (World.rowIs_made _ _ _ _).congr (fun j hj => by rw [if_neg (by omega)]), fun j hj => absurd hj (by omega)⟩
  case round =>
    obtain ⟨k, S, hk, rfl, hb, hrow, hnew⟩ := hrel
    have HB := Lib.hid hb
    have HROW := Lib.hid hrow
    have HNEW := Lib.hid hnew
    have s0 := hrow.lt
    clear hb hrow hnew
    by_cases hlt : k < xss.length
    · have hX := H.out.below HB.out (Nat.le_refl _)
      obtain ⟨rfl, -⟩ := hX.ptr (by omega)
      have hc := hX.cell k hlt
      have HX := Lib.hid (hX.rows k hlt)
      have hl := HR.out k hlt
      have hmk := run_make_row' (P := Try.prog) 25 3 (.int .i64 0) 8 Try.underlying25 Try.info3 rfl .i64 .i64 (row xss k).length (by omega) (by omega)
      have c0 := HROW.out.cell hlt
      have f0 := HROW.out.frozen k
      obtain ⟨xs, hxs⟩ : ∃ xs, row xss k = xs := ⟨_, rfl⟩
      have HXS := Lib.hid hxs
      rw [hxs] at hc hl hmk HX
      obtain ⟨m, hm⟩ : ∃ m, wr.heap.size = m := ⟨_, rfl⟩
      have HM := Lib.hid hm
      rw [if_neg (Nat.lt_irrefl k)] at c0
      have hnb := heap_alloc_new (wr.setCell ⟨w.heap.size, k, none⟩ (.slice (some ⟨wr.heap.size, 0, none⟩) xs.length xs.length)) (.cells (madeCells #[Value.int .i64 0] xs.length) 3)
      rw [show (wr.setCell ⟨w.heap.size, k, none⟩ (.slice (some ⟨wr.heap.size, 0, none⟩) xs.length xs.length)).heap.size = wr.heap.size by simp] at hnb
      have HNB : Hid (((wr.setCell ⟨w.heap.size, k, none⟩ (.slice (some ⟨wr.heap.size, 0, none⟩) xs.length xs.length)).alloc (.cells (madeCells #[Value.int .i64 0] xs.length) 3)).heap[wr.heap.size]? = some (.cells ((madeCells #[Value.int .i64 0] xs.length).toList).toArray 3 (0, 0))) := hnb
      have HPOS : Hid (0 < (xs.map (Value.int .i64)).length → ∃ ad, A k = some ad ∧ ∀ j v, (xs.map (Value.int .i64))[j]? = some v → ((wr.setCell ⟨w.heap.size, k, none⟩ (.slice (some ⟨wr.heap.size, 0, none⟩) xs.length xs.length)).alloc (.cells (madeCells #[Value.int .i64 0] xs.length) 3)).cell? (ad.add j) = some v) := by
        intro hp
        rw [List.length_map] at hp
        obtain ⟨h1, h2⟩ := HX.out.ptr hp
        refine ⟨⟨B k, O k, none⟩, h1, fun j v hj => ?_⟩
        have := news_whole (h1 ▸ HX.out) j v hj
        rw [addr_plain] at this ⊢
        have hbw := ((H.out.rows k hlt).ptr (by rw [HXS.out]; exact hp)).2
        have hbk : B k ≠ w.heap.size := by omega
        rw [World.cell?_alloc_old _ _ _ (by show B k ≠ (wr.setCell _ _).heap.size; simp; omega), World.cell?_setCell_other _ _ _ _ (by intro e; exact hbk (congrArg Addr.block e).symm)]
        exact this
      clear hX hxs hm hnb
      go_wp2_with ((refine wpList_copy_splice rfl (.tmp 25) (.tmp 26) 25 25 rfl 3 Try.underlying25 (by kernel_rfl) (some ⟨wr.heap.size, 0, none⟩) (A k) xs.length xs.length xs.length (C k) rfl rfl wr.heap.size 0 (madeCells #[Value.int .i64 0] xs.length).toList 3 HNB.out (xs.map (Value.int .i64)) (by rw [List.length_map]; exact (Nat.min_self _).symm) (fun hp => ⟨rfl, HPOS.out hp⟩) (by simp [size_madeCells]) (oneCell_ints _) wr.heap.size ((wr.setCell ⟨w.heap.size, k, none⟩ (.slice (some ⟨wr.heap.size, 0, none⟩) xs.length xs.length)).alloc (.cells (madeCells #[Value.int .i64 0] xs.length) 3)) (Below.refl _ _) (Nat.le_refl _) ?_))
      intro w3 hg3 hb3
      have hg3' : w3.heap[wr.heap.size]? = some (.cells ((xs.map (Value.int .i64)).toArray) 3 (0, 0)) := by rw [← made_copy]; exact hg3
      have HBA : Hid (Below wr.heap.size ((wr.setCell ⟨w.heap.size, k, none⟩ (.slice (some ⟨wr.heap.size, 0, none⟩) xs.length xs.length)).alloc (.cells (madeCells #[Value.int .i64 0] xs.length) 3)) w3) := hb3
      have HG3 := Lib.hid hg3'
      have hwf := HX.out.wf
      have HWF := Lib.hid hwf
      clear hg3 hg3' hb3 hwf
      go_wp2
      go_roundw
      case rel =>
        have hsz : wr.heap.size < w3.heap.size := lt_of_block HG3.out
        refine ⟨k + 1, fun j => if j = k then .slice (some ⟨wr.heap.size, 0, none⟩) xs.length xs.length else S j, by omega, by go_num, ?_, ?_, ?_⟩
        · exact ((HB.out.setCell (Nat.le_refl _) _).alloc (by simpa using HB.out.size) _).trans (HBA.out.mono HB.out.size)
        · have h1 : ((wr.setCell ⟨w.heap.size, k, none⟩ (.slice (some ⟨wr.heap.size, 0, none⟩) xs.length xs.length)).alloc (.cells (madeCells #[Value.int .i64 0] xs.length) 3)).rowIs w.heap.size 25 xss.length _ := (HROW.out.set k _).alloc _
          refine (h1.of_block (HBA.out.block _ s0)).congr (fun j hj => ?_)
          by_cases e : j = k
          · rw [if_pos e, if_pos (by omega)]; exact (if_pos e).symm
          · rw [if_neg e]
            by_cases e2 : j < k
            · rw [if_pos e2, if_pos (by omega)]; exact (if_neg e).symm
            · rw [if_neg e2, if_neg (by omega)]
        · intro j hj
          by_cases e : j = k
          · subst e
            simp only [if_true]
            rw [HXS.out]
            exact newInts_of_cells HG3.out (by omega) (by omega) HWF.out
          · simp only [if_neg e]
            refine (HNEW.out j (by omega)).blocks (fun g h1 h2 => ?_)
            rw [HBA.out.block g h2, Below.heap_alloc _ _ _ (by simpa using h2), heap_setCell_other _ _ _ _ (by show g ≠ w.heap.size; omega)]
      case measure => simp [intOf]; omega
    · have hkl : k = xss.length := by omega
      subst hkl
      go_wp2
      go_ret
      exact ⟨⟨_, rfl, newRows_of_row (HROW.out.congr (fun j hj => by rw [if_pos hj])) (Nat.le_refl _) (by omega) (fun j hj => (HNEW.out j hj).mono (by omega))⟩, HB.out⟩

end Go.Proofs.Ytaphmjccdokiiaa
