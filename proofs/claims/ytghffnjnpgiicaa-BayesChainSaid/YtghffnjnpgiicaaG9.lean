/- G9: Ka Fa Ma Fb -/
import Derived.Test.YtghffnjnpgiicaaG4
import Derived.Test.YtghffnjnpgiicaaG2
import Derived.Test.YtghffnjnpgiicaaG3
import Derived.Test.YtghffnjnpgiicaaRows
import Derived.ProofKit
import Derived.SizedLaws
import Derived.Deep.Matrix
import Derived.Lib.SmallJoins
/- The statements' copy of a list of pairs. -/
namespace Go.Proofs.Ytghffnjnpgiicaa
open Go.RowKit Go.Maps

theorem Try.info52 : (Try.prog.info? 52).map (fun i => (i.zero, i.size, i.bytes)) = some (some (.agg #[.int .i64 0, .int .i64 0]), 2, 16) := by kernel_rfl

/-- The cells of pairs, one behind the other. -/
def cells2 : List (Int × Int) → List Value
  | [] => []
  | p :: l => .int .i64 p.1 :: .int .i64 p.2 :: cells2 l
theorem cells2_length : ∀ ps : List (Int × Int), (cells2 ps).length = ps.length * 2
  | [] => rfl
  | p :: l => by simp [cells2, cells2_length l]; omega
theorem cells2_get : ∀ (ps : List (Int × Int)) (i : Nat), i < ps.length → (cells2 ps)[i * 2]? = some (.int .i64 (pf ps i)) ∧ (cells2 ps)[i * 2 + 1]? = some (.int .i64 (pv ps i))
  | [], i, h => by simp at h
  | p :: l, 0, h => ⟨rfl, rfl⟩
  | p :: l, i + 1, h => by
    have := cells2_get l i (by simpa using h)
    rw [show (i + 1) * 2 = i * 2 + 1 + 1 by omega]
    simpa [cells2, pf, pv] using this
theorem cells2_one : ∀ (ps : List (Int × Int)), ∀ u ∈ cells2 ps, u.oneCell' = true
  | [], u, h => by simp [cells2] at h
  | p :: l, u, h => by
    simp only [cells2, List.mem_cons] at h
    rcases h with rfl | rfl | h
    · rfl
    · rfl
    · exact cells2_one l u h

/-- A slice of pairs in memory that is new since the heap had B blocks. -/
structure NewPairs (B : Nat) (w : World) (v : Value) (ps : List (Int × Int)) : Prop where
  own : w.ownsRow B 52 2 v ps.length (cells2 ps)
  wf : ∀ i, (-9223372036854775808 ≤ pf ps i ∧ pf ps i ≤ 9223372036854775807) ∧ -9223372036854775808 ≤ pv ps i ∧ pv ps i ≤ 9223372036854775807
  len : ps.length ≤ 140737488351232

theorem NewPairs.at {B : Nat} {w : World} {v : Value} {ps : List (Int × Int)} (h : NewPairs B w v ps) : ∃ ao b cap, v = .slice ao ps.length cap ∧ PairsAt w ao b 0 ps := by
  obtain ⟨⟨hl, h1⟩, hwf, hlen⟩ := h
  rcases h1 with ⟨rfl, h0⟩ | ⟨g, cap, cur, rfl, hg, hh, hcap, hm, hcs, htk⟩
  · have : ps = [] := List.length_eq_zero_iff.1 h0
    subst this
    exact ⟨none, 0, 0, rfl, ⟨fun h => by simp at h, fun i hi => by simp at hi, fun i hi => by simp at hi, by simp, hwf⟩⟩
  · have hget : ∀ j, j < ps.length * 2 → cur[j]? = (cells2 ps)[j]? := fun j hj => by
      rw [← htk, List.getElem?_take, if_pos (by omega)]; simp
    refine ⟨some ⟨g, 0, none⟩, g, cap, rfl, ⟨fun _ => ⟨rfl, lt_of_block hh⟩, fun i hi => ?_, fun i hi => ?_, hlen, hwf⟩⟩
    · rw [cell_of_row _ _ _ _ _ _ hh, Nat.zero_add, hget _ (by omega)]; exact (cells2_get ps i hi).1
    · rw [cell_of_row _ _ _ _ _ _ hh, Nat.zero_add, hget _ (by omega)]; exact (cells2_get ps i hi).2

theorem NewPairs.nil (B : Nat) (w : World) : NewPairs B w (.slice none 0 0) [] := ⟨⟨rfl, .inl ⟨rfl, rfl⟩⟩, fun i => by simp [pf, pv], by simp⟩

theorem pf_take {ps : List (Int × Int)} {n i : Nat} (h : i < n) : pf (ps.take n) i = pf ps i ∧ pv (ps.take n) i = pv ps i := by
  simp [pf, pv, List.getD_eq_getElem?_getD, h]
theorem pf_out {ps : List (Int × Int)} {i : Nat} (h : ps.length ≤ i) : pf ps i = 0 ∧ pv ps i = 0 := by
  simp [pf, pv, List.getD_eq_getElem?_getD, List.getElem?_eq_none h]
theorem pwf_take {ps : List (Int × Int)} {n : Nat} (h : ∀ i, (-9223372036854775808 ≤ pf ps i ∧ pf ps i ≤ 9223372036854775807) ∧ -9223372036854775808 ≤ pv ps i ∧ pv ps i ≤ 9223372036854775807) :
    ∀ i, (-9223372036854775808 ≤ pf (ps.take n) i ∧ pf (ps.take n) i ≤ 9223372036854775807) ∧ -9223372036854775808 ≤ pv (ps.take n) i ∧ pv (ps.take n) i ≤ 9223372036854775807 := by
  intro i
  by_cases hi : i < n
  · rw [(pf_take hi).1, (pf_take hi).2]; exact h i
  · have : (ps.take n).length ≤ i := by rw [List.length_take]; omega
    rw [(pf_out this).1, (pf_out this).2]; omega

theorem news2_at {w : World} {ao : Option Addr} {b o : Nat} {ps : List (Int × Int)} (h : PairsAt w ao b o ps) (ad : Addr) (had : ao = some ad) (n : Nat) :
    ∀ j u, (cells2 (ps.take n))[j]? = some u → w.cell? (ad.add j) = some u := by
  intro j u hj
  have hlt : j < (cells2 (ps.take n)).length := (List.getElem?_eq_some_iff.1 hj).1
  rw [cells2_length, List.length_take] at hlt
  have h0 := (h.ptr (by omega)).1
  rw [had] at h0
  obtain rfl : ad = ⟨b, o, none⟩ := Option.some.inj h0
  have hadd : (⟨b, o, none⟩ : Addr).add j = ⟨b, o + j, none⟩ := by unfold Addr.add; split <;> simp_all
  rw [hadd]
  have hi : j / 2 < (ps.take n).length := by rw [List.length_take]; omega
  have hg := cells2_get (ps.take n) (j / 2) hi
  rw [(pf_take (by omega)).1, (pf_take (by omega)).2] at hg
  rcases Nat.mod_two_eq_zero_or_one j with e | e
  · have ej : j = j / 2 * 2 := by omega
    rw [ej, hg.1] at hj
    rw [ej, ← hj]
    exact h.cell0 (j / 2) (by omega)
  · have ej : j = j / 2 * 2 + 1 := by omega
    rw [ej, hg.2] at hj
    rw [ej, ← hj]
    exact h.cell1 (j / 2) (by omega)

theorem own2_nil (w : World) (B : Nat) : w.ownsRow B 52 2 (.slice none 0 0) 0 [] := ⟨rfl, .inl ⟨rfl, rfl⟩⟩

set_option maxHeartbeats 400000 in
set_option maxRecDepth 100000 in
theorem facts_any (ps : List (Int × Int)) (ao : Option Addr) (b o cap : Nat) (w : World) (h : PairsAt w ao b o ps) (hcap : ps.length ≤ cap) (hnil : ao = none → cap = 0) :
    Calls Try.prog 21 #[.slice ao ps.length cap] w fun e w' => ∃ v, e = .returned v ∧ NewPairs w.heap.size w' v (ps.take 20) ∧ Below w.heap.size w w' := by
  obtain ⟨i0, hi, hz0, hz1, hz2⟩ := info_parts Try.info52
  have hl := h.len
  have hwf := pwf_take (n := 20) h.wf
  cases ao with
  | none =>
    have hx : ps = [] := by
      cases ps with
      | nil => rfl
      | cons x l => exact absurd (h.ptr (by simp)).1 (by simp)
    subst hx
    obtain rfl := hnil rfl
    clear h hcap hnil
    go_enter Try.func21, Try.ntmps21
    go_wp2_with (at_builtin; (refine wpList_append_own_none rfl (.tmp 4) (.tmp 9) 38 rfl w.heap.size 52 i0 2 Try.underlying38 hi _ 0 [] rfl (own2_nil _ _) rfl ?_))
    go_ret
    exact ⟨_, rfl, NewPairs.nil _ _, Below.refl _ _⟩
  | some ad =>
    have HN := Lib.hid (news2_at h ad rfl 20)
    have HW := Lib.hid hwf
    clear h hnil hwf
    have HE := Lib.hid (show (ps.take 20).length = min 20 ps.length from List.length_take)
    by_cases h20 : ps.length ≤ 20
    · have hm : (ps.take 20).length = ps.length := by rw [HE.out]; omega
      have HM := Lib.hid hm
      clear hm
      go_enter Try.func21, Try.ntmps21
      go_wp2_with (at_builtin; (refine wpList_append_own _ rfl (.tmp 4) (.tmp 9) 38 rfl w.heap.size 52 i0 (.agg #[.int .i64 0, .int .i64 0]) 2 16 Try.underlying38 hi hz0 hz1 hz2 rfl (by decide) _ 0 [] rfl (own2_nil _ _) ad ps.length cap (cells2 (ps.take 20)) rfl ?c1 HN.out (cells2_one _) ?c3 ?c4 (Nat.le_refl _) ?_))
      case c1 => rw [cells2_length, HM.out]
      case c3 => unfold maxLen; omega
      case c4 => omega
      intro v' w1 hown hg _
      go_wp2
      go_ret
      exact ⟨_, rfl, ⟨by rw [HM.out]; simpa using hown, HW.out, by rw [HM.out]; omega⟩, (Below.refl _ _).grown hg (Nat.le_refl _) (fun k hk => by simp [Value.ownBlock] at hk)⟩
    · have hm : (ps.take 20).length = 20 := by rw [HE.out]; omega
      have HM := Lib.hid hm
      clear hm
      go_enter Try.func21, Try.ntmps21
      go_wp2_with (at_builtin; (refine wpList_append_own _ rfl (.tmp 4) (.tmp 9) 38 rfl w.heap.size 52 i0 (.agg #[.int .i64 0, .int .i64 0]) 2 16 Try.underlying38 hi hz0 hz1 hz2 rfl (by decide) _ 0 [] rfl (own2_nil _ _) ad 20 cap (cells2 (ps.take 20)) rfl ?c1 HN.out (cells2_one _) ?c3 ?c4 (Nat.le_refl _) ?_))
      case c1 => rw [cells2_length, HM.out]
      case c3 => unfold maxLen; omega
      case c4 => omega
      intro v' w1 hown hg _
      go_wp2
      go_ret
      exact ⟨_, rfl, ⟨by rw [HM.out]; simpa using hown, HW.out, by rw [HM.out]; omega⟩, (Below.refl _ _).grown hg (Nat.le_refl _) (fun k hk => by simp [Value.ownBlock] at hk)⟩

end Go.Proofs.Ytghffnjnpgiicaa

/- A statement's arguments, opened: a network by value, a list of ints. -/
namespace Go.Proofs.Ytghffnjnpgiicaa
open Go.ChangeShapes Go.WideShapes Go.ChangeAt Go.RowKit Go.Joins Go.Deep

theorem Try.cells24 : Try.prog.cellsOf 24 = 2 := by kernel_rfl
theorem Try.cells25 : Try.prog.cellsOf 25 = 1 := by kernel_rfl
theorem Try.cells3 : Try.prog.cellsOf 3 = 1 := by kernel_rfl
theorem Try.bytes25 : Try.prog.bytesOf 25 = 24 := by kernel_rfl
theorem Try.bytes3 : Try.prog.bytesOf 3 = 8 := by kernel_rfl

section
variable {H : Type} {enc : TypeId × Value → H} {W : World}

theorem i64_min : IntKind.min .i64 = -9223372036854775808 := by decide
theorem i64_max : IntKind.max .i64 = 9223372036854775807 := by decide
theorem bnd_of_wf {zs : List Int} (h : ∀ n ∈ zs, (Lit.int .i64 n).wf = true) (i : Nat) : -9223372036854775808 ≤ nth zs i ∧ nth zs i ≤ 9223372036854775807 := by
  by_cases hi : i < zs.length
  · have := h (nth zs i) (by simp [nth, List.getD_eq_getElem?_getD, hi])
    simpa only [Lit.wf, Bool.and_eq_true, decide_eq_true_eq, i64_min, i64_max] using this
  · rw [show nth zs i = 0 by simp [nth, List.getD_eq_getElem?_getD, List.getElem?_eq_none (by omega : zs.length ≤ i)]]
    omega

theorem nth_takeL {zs : List Int} {n i : Nat} (hi : i < n) : nth (zs.take n) i = nth zs i := by
  simp [nth, List.getD_eq_getElem?_getD, hi]

/-- One row: its first numbers, in memory. -/
theorem ints_of_cells {A : Option Addr} {L C : Nat} {zs : List Int} (hl : L ≤ C) (hz : zs.length = C) (hb : C * 8 ≤ 140737488351232) (hwf : ∀ n ∈ zs, (Lit.int .i64 n).wf = true) (hn : A = none → C = 0)
    (hc : ∀ a, A = some a → ∀ c, c < C → W.cell? (a.add c) = some (.int .i64 (zs.getD c 0))) : ∃ b o, IntsAt W A b o (zs.take L) := by
  by_cases h0 : L = 0
  · subst h0
    exact ⟨0, 0, fun h => by simp at h, fun i hi => by simp at hi, by simp, fun i => by simp [nth]⟩
  · cases A with
    | none => have := hn rfl; omega
    | some a =>
      obtain ⟨b, o, sp⟩ := a
      have hsp : sp = none := by simpa [Addr.add] using World.cell?_spot (hc _ rfl 0 (by omega))
      subst hsp
      have hcell : ∀ c, c < C → W.cell? ⟨b, o + c, none⟩ = some (.int .i64 (zs.getD c 0)) := fun c h => by rw [← add_plain]; exact hc _ rfl c h
      have hlen : (zs.take L).length = L := by rw [List.length_take]; omega
      refine ⟨b, o, fun _ => ⟨rfl, ?_⟩, fun i hi => ?_, by omega, fun i => ?_⟩
      · have := hcell 0 (by omega)
        rcases Nat.lt_or_ge b W.heap.size with h | h
        · exact h
        · simp [World.cell?, Array.getElem?_eq_none h] at this
      · rw [nth_takeL (by omega)]
        exact hcell i (by omega)
      · exact bnd_of_wf (fun n hn => hwf n (List.mem_of_mem_take hn)) i

/-- A list of ints that comes in. -/
theorem open_list {fuel : Nat} {v : Value} {x : DataW H × List MemPlace} (hs : ∃ a len cap, v = .slice a len cap) (h : DataW.trod enc Try.prog W 0 (fun _ => true) true fuel 25 [v] = some x)
    (hw : ∀ n ∈ x.1.weights Try.prog 25, n ≤ 140737488351232) : ∃ ao xs b o cap, v = .slice ao xs.length cap ∧ IntsAt W ao b o xs ∧ xs.length ≤ cap ∧ (ao = none → cap = 0) := by
  rcases open_ints Try.underlying25 Try.underlying3 Try.cells3 h with ⟨hcs, hx⟩ | ⟨a, len, cap, zs, hcs, _, hl, hm, hz, hx, hcell, hwz⟩
  · obtain rfl : v = .slice none 0 0 := by simpa using hcs
    exact ⟨none, [], 0, 0, 0, rfl, ⟨fun h => by simp at h, fun i hi => by simp at hi, by simp, fun i => by simp [nth]⟩, by simp, fun _ => rfl⟩
  · obtain rfl : v = .slice (some a) len cap := by simpa using hcs
    simp only [if_true] at hz
    have hb : cap * 8 ≤ 140737488351232 := by
      have := hw (((lits .i64 (zs.take len) : List (DataW H)).length + (lits .i64 (zs.drop len) : List (DataW H)).length) * Try.prog.bytesOf 3) (by rw [hx]; simp [DataW.weights, Try.underlying25])
      rw [Try.bytes3] at this
      simp only [lits, List.length_map, List.length_take, List.length_drop] at this
      omega
    obtain ⟨b, o, hi⟩ := ints_of_cells (A := some a) hl hz hb hwz (fun h => by simp at h) (fun a' ha c hc => by
      obtain rfl := Option.some.inj ha
      exact hcell c (by omega))
    have hlen : (zs.take len).length = len := by rw [List.length_take]; omega
    exact ⟨some a, zs.take len, b, o, cap, by rw [hlen], hi, by omega, fun h => by simp at h⟩

theorem weights_mem_all {P : Program} {e : TypeId} : ∀ {ds : List (DataW H)} {d : DataW H}, d ∈ ds → ∀ n ∈ d.weights P e, n ∈ DataW.weightsAll P e ds
  | d0 :: ds, d, h, n, hn => by
    simp only [DataW.weightsAll, List.mem_append]
    rcases List.mem_cons.1 h with rfl | h
    · exact .inl hn
    · exact .inr (weights_mem_all h n hn)

/-- A list of rows that comes in. -/
theorem open_rows {fuel : Nat} {v : Value} {x : DataW H × List MemPlace} (h : DataW.trod enc Try.prog W 0 (fun _ => true) true fuel 22 [v] = some x)
    (hw : ∀ n ∈ x.1.weights Try.prog 22, n ≤ 140737488351232) : ∃ pa P pb po pc A B O C, v = .slice pa (List.length P) pc ∧ RowsAt W pa pb po P A B O C ∧ CapsOk P A C := by
  rcases open_int_rows Try.underlying22 Try.underlying25 Try.underlying3 Try.cells25 Try.cells3 h with ⟨hcs, hx⟩ | ⟨a, len, cap, A, L, C, Z, hcs, _, hl, hm, hx, hrows⟩
  · obtain rfl : v = .slice none 0 0 := by simpa using hcs
    exact ⟨none, [], 0, 0, 0, fun _ => none, fun _ => 0, fun _ => 0, fun _ => 0, rfl, ⟨fun h => by simp at h, fun i hi => by simp at hi, fun i hi => by simp at hi, by simp⟩, fun i hi => by simp at hi⟩
  · obtain rfl : v = .slice (some a) len cap := by simpa using hcs
    have hb : cap * 24 ≤ 140737488351232 := by
      have := hw ((((List.range len).map fun r => intRow (H := H) .i64 (A r) (L r) (Z r)).length + ((List.range (cap - len)).map fun j => intRow (H := H) .i64 (A (len + j)) (L (len + j)) (Z (len + j))).length) * Try.prog.bytesOf 25) (by rw [hx]; simp [DataW.weights, Try.underlying22])
      rw [Try.bytes25] at this
      simp only [List.length_map, List.length_range] at this
      omega
    have hrow : ∀ r, r < len → ∃ b o, IntsAt W (A r) b o ((Z r).take (L r)) := by
      intro r hr
      obtain ⟨_, h1, _, h2, h3, h4, h5⟩ := hrows r (by omega)
      by_cases hn : A r = none
      · have := h4 hn
        have h0 : L r = 0 := by omega
        rw [h0]
        exact ⟨0, 0, fun h => by simp at h, fun i hi => by simp at hi, by simp, fun i => by simp [nth]⟩
      · obtain ⟨a', ha'⟩ := Option.ne_none_iff_exists'.1 hn
        have hb8 : C r * 8 ≤ 140737488351232 := by
          have hm0 : ((lits .i64 ((Z r).take (L r)) : List (DataW H)).length + (lits .i64 ((Z r).drop (L r)) : List (DataW H)).length) * Try.prog.bytesOf 3 ∈ (intRow (H := H) .i64 (A r) (L r) (Z r)).weights Try.prog 25 := by
            rw [ha']; simp [intRow, DataW.weights, Try.underlying25]
          have hmem := weights_mem_all (P := Try.prog) (e := 25) (List.mem_map.2 ⟨r, List.mem_range.2 hr, rfl⟩ : intRow (H := H) .i64 (A r) (L r) (Z r) ∈ (List.range len).map fun r => intRow (H := H) .i64 (A r) (L r) (Z r)) _ hm0
          have := hw _ (by rw [hx]; simp only [DataW.weights, Try.underlying22, List.mem_cons, List.mem_append]; exact .inr (.inl hmem))
          rw [Try.bytes3] at this
          simp only [lits, List.length_map, List.length_take, List.length_drop] at this
          omega
        exact ints_of_cells h1 h2 hb8 h3 h4 (fun a'' e c hc => (h5 a'' e).2 c hc)
    have hch : ∃ B O : Nat → Nat, ∀ r, r < len → IntsAt W (A r) (B r) (O r) ((Z r).take (L r)) := by
      refine ⟨fun r => if h : r < len then (hrow r h).choose else 0, fun r => if h : r < len then (hrow r h).choose_spec.choose else 0, fun r h => ?_⟩
      simp only [dif_pos h]
      exact (hrow r h).choose_spec.choose_spec
    obtain ⟨B, O, hBO⟩ := hch
    have hlenP : ((List.range len).map fun r => (Z r).take (L r)).length = len := by simp
    have hrw : ∀ r, r < len → row ((List.range len).map fun r => (Z r).take (L r)) r = (Z r).take (L r) := fun r hr => by simp [row, List.getD_eq_getElem?_getD, hr]
    have hrl : ∀ r, r < len → ((Z r).take (L r)).length = L r := fun r hr => by
      obtain ⟨_, h1, _, h2, _⟩ := hrows r (by omega)
      rw [List.length_take]; omega
    obtain ⟨xss, hxss⟩ : ∃ xss, xss = (List.range len).map fun r => (Z r).take (L r) := ⟨_, rfl⟩
    rw [← hxss] at hlenP hrw
    have hsp : 0 < len → a.spot = none := fun h => by simpa [Addr.add] using World.cell?_spot (hrows 0 (by omega)).1
    refine ⟨some a, xss, a.block, a.off, cap, A, B, O, C, by rw [hlenP], ⟨fun h0 => ?_, fun i hi => ?_, fun i hi => ?_, by omega⟩, fun i hi => ?_⟩
    · rw [hlenP] at h0
      obtain ⟨b, o, sp⟩ := a
      obtain rfl : sp = none := hsp (by omega)
      refine ⟨rfl, ?_⟩
      have := (hrows 0 (by omega)).1
      rw [add_plain] at this
      rcases Nat.lt_or_ge b W.heap.size with h | h
      · exact h
      · simp [World.cell?, Array.getElem?_eq_none h] at this
    · rw [hlenP] at hi
      obtain ⟨b, o, sp⟩ := a
      obtain rfl : sp = none := hsp (by omega)
      have := (hrows i (by omega)).1
      rw [add_plain] at this
      rw [hrw i hi, hrl i hi]
      exact this
    · rw [hlenP] at hi
      rw [hrw i hi]
      exact hBO i hi
    · rw [hlenP] at hi
      obtain ⟨_, h1, _, _, _, h4, _⟩ := hrows i (by omega)
      rw [hrw i hi, hrl i hi]
      exact ⟨h1, h4⟩

set_option maxRecDepth 100000 in
/-- A network that comes in. -/
theorem open_net {r : Reach} {b0 : Nat} {v : Value} {d : DataW H} {p : List MemPlace} (hv : Value.okWide Try.prog W r b0 24 v) (h : DataW.Trod enc Try.prog W 0 (fun _ => true) true 24 v d p) (hw : ∀ n ∈ d.weights Try.prog 24, n ≤ 140737488351232) :
    ∃ pa P pb po pc A B O C ta T tb to tc A' B' O' C', v = .agg #[.slice pa (List.length P) pc, .slice ta (List.length T) tc] ∧ RowsAt W pa pb po P A B O C ∧ CapsOk P A C ∧ RowsAt W ta tb to T A' B' O' C' ∧ CapsOk T A' C' := by
  obtain ⟨c0, c1, y0, y1, m, rfl, rfl, rfl, hy0, hy1⟩ := open_agg2 Try.underlying24 (by kernel_rfl) Try.cells24 hv h
  obtain ⟨pa, P, pb, po, pc, A, B, O, C, rfl, h1, h2⟩ := open_rows hy0 (fun n hn => hw n (by simp only [DataW.weights, Try.underlying24, DataW.weightsEach, List.map_cons, List.mem_append]; exact .inl hn))
  obtain ⟨ta, T, tb, to, tc, A', B', O', C', rfl, h3, h4⟩ := open_rows hy1 (fun n hn => hw n (by simp only [DataW.weights, Try.underlying24, DataW.weightsEach, List.map_cons, List.mem_append]; exact .inr (.inl hn)))
  exact ⟨pa, P, pb, po, pc, A, B, O, C, ta, T, tb, to, tc, A', B', O', C', rfl, h1, h2, h3, h4⟩

end
end Go.Proofs.Ytghffnjnpgiicaa

/- A statement's arguments, opened: a list of pairs; a struct of two such lists. -/
namespace Go.Proofs.Ytghffnjnpgiicaa
open Go.ChangeShapes Go.WideShapes Go.ChangeAt Go.RowKit Go.Joins Go.Deep

theorem Try.cells52 : Try.prog.cellsOf 52 = 2 := by kernel_rfl
theorem Try.cells40 : Try.prog.cellsOf 40 = 2 := by kernel_rfl
theorem Try.bytes52 : Try.prog.bytesOf 52 = 16 := by kernel_rfl

section
variable {H : Type} {enc : TypeId × Value → H} {W : World}

theorem two_cells {a : Addr} {cs : List Value} (h : W.cells? 0 a 2 = some cs) : ∃ u0 u1, cs = [u0, u1] ∧ W.cell? a = some u0 ∧ W.cell? (a.add 1) = some u1 := by
  have h2 : (W.cell? (a.add 0)).bind (fun u0 => (W.cell? (a.add 1)).bind fun u1 => some [u0, u1]) = some cs := by
    rw [← h]
    simp [World.cells?, List.range, List.range.loop]
    cases W.cell? (a.add 0) <;> cases W.cell? (a.add 1) <;> rfl
  obtain ⟨u0, h0, h3⟩ := Option.bind_eq_some_iff.1 h2
  obtain ⟨u1, h1, h4⟩ := Option.bind_eq_some_iff.1 h3
  exact ⟨u0, u1, (Option.some.inj h4).symm, by simpa [Addr.add] using h0, h1⟩

set_option maxRecDepth 100000 in
theorem open_pairs {fuel : Nat} {v : Value} {x : DataW H × List MemPlace} (h : DataW.trod enc Try.prog W 0 (fun _ => true) true fuel 38 [v] = some x)
    (hw : ∀ n ∈ x.1.weights Try.prog 38, n ≤ 140737488351232) : ∃ ao ps b o cap, v = .slice ao (List.length ps) cap ∧ PairsAt W ao b o ps ∧ ps.length ≤ cap ∧ (ao = none → cap = 0) := by
  rcases open_slice Try.underlying38 h with ⟨hcs, hx⟩ | ⟨a, len, cap, m, n, D, Pl, hcs, _, hl, hm, hmm, hx, hel⟩
  · obtain rfl : v = .slice none 0 0 := by simpa using hcs
    exact ⟨none, [], 0, 0, 0, rfl, ⟨fun h => by simp at h, fun i hi => by simp at hi, fun i hi => by simp at hi, by simp, fun i => by simp [pf, pv]⟩, by simp, fun _ => rfl⟩
  · obtain rfl : v = .slice (some a) len cap := by simpa using hcs
    simp only [if_true] at hmm
    obtain rfl : m = cap := hmm
    have hb : m * 16 ≤ 140737488351232 := by
      have := hw ((((List.range len).map D).length + ((List.range (m - len)).map fun j => D (len + j)).length) * Try.prog.bytesOf 52) (by rw [hx]; simp [DataW.weights, Try.underlying38])
      rw [Try.bytes52] at this
      simp only [List.length_map, List.length_range] at this
      omega
    have each : ∀ i, i < m → ∃ y : Int × Int, W.cell? (a.add (i * 2)) = some (.int .i64 y.1) ∧ W.cell? ((a.add (i * 2)).add 1) = some (.int .i64 y.2) ∧ (Lit.int .i64 y.1).wf = true ∧ (Lit.int .i64 y.2).wf = true := by
      intro i hi
      obtain ⟨cs', hc, ht⟩ := hel i hi
      rw [Try.cells52] at hc
      obtain ⟨u0, u1, rfl, h0, h1⟩ := two_cells hc
      obtain ⟨xs, k, _, _, _, hxl, hxs⟩ := DataW.trod_array Try.underlying52 ht
      have e0 := hxs 0 (by omega)
      have e1 := hxs 1 (by omega)
      rw [Try.cells3, List.getElem?_eq_getElem (by omega)] at e0 e1
      obtain ⟨p, q0, _, w0⟩ := DataW.trod_int Try.underlying3 e0
      obtain ⟨q, q1, _, w1⟩ := DataW.trod_int Try.underlying3 e1
      simp at q0 q1
      exact ⟨(p, q), by rw [h0, q0], by rw [h1, q1], w0, w1⟩
    obtain ⟨f, hf⟩ : ∃ f : Nat → Int × Int, ∀ i, i < m → W.cell? (a.add (i * 2)) = some (.int .i64 (f i).1) ∧ W.cell? ((a.add (i * 2)).add 1) = some (.int .i64 (f i).2) ∧ (Lit.int .i64 (f i).1).wf = true ∧ (Lit.int .i64 (f i).2).wf = true :=
      ⟨fun i => if h : i < m then (each i h).choose else (0, 0), fun i h => by simp only [dif_pos h]; exact (each i h).choose_spec⟩
    have hlen : ((List.range len).map f).length = len := by simp
    obtain ⟨ps, hps⟩ : ∃ ps, ps = (List.range len).map f := ⟨_, rfl⟩
    have hpf : ∀ i, i < len → pf ps i = (f i).1 ∧ pv ps i = (f i).2 := fun i hi => by rw [hps]; simp [pf, pv, List.getD_eq_getElem?_getD, hi]
    rw [← hps] at hlen
    have hsp : 0 < len → a.spot = none := fun h => by simpa [Addr.add] using World.cell?_spot (hf 0 (by omega)).1
    obtain ⟨b, o, sp⟩ := a
    refine ⟨some ⟨b, o, sp⟩, ps, b, o, m, by rw [hlen], ⟨fun h0 => ?_, fun i hi => ?_, fun i hi => ?_, by omega, fun i => ?_⟩, by omega, fun h => by simp at h⟩
    · obtain rfl : sp = none := hsp (by omega)
      refine ⟨rfl, ?_⟩
      have := (hf 0 (by omega)).1
      rw [add_plain] at this
      rcases Nat.lt_or_ge b W.heap.size with h | h
      · exact h
      · simp [World.cell?, Array.getElem?_eq_none h] at this
    · obtain rfl : sp = none := hsp (by omega)
      have := (hf i (by omega)).1
      rw [add_plain] at this
      rw [(hpf i (by omega)).1]; exact this
    · obtain rfl : sp = none := hsp (by omega)
      have := (hf i (by omega)).2.1
      rw [add_plain, add_plain] at this
      rw [(hpf i (by omega)).2]; exact this
    · by_cases hi : i < len
      · have h1 := (hf i (by omega)).2.2.1
        have h2 := (hf i (by omega)).2.2.2
        rw [(hpf i hi).1, (hpf i hi).2]
        simp only [Lit.wf, Bool.and_eq_true, decide_eq_true_eq, i64_min, i64_max] at h1 h2
        omega
      · have : ps.length ≤ i := by omega
        rw [show pf ps i = 0 by simp [pf, List.getD_eq_getElem?_getD, List.getElem?_eq_none this], show pv ps i = 0 by simp [pv, List.getD_eq_getElem?_getD, List.getElem?_eq_none this]]
        omega

set_option maxRecDepth 100000 in
/-- Two lists of pairs that come in. -/
theorem open_ask {r : Reach} {b0 : Nat} {v : Value} {d : DataW H} {p : List MemPlace} (hv : Value.okWide Try.prog W r b0 40 v) (h : DataW.Trod enc Try.prog W 0 (fun _ => true) true 40 v d p) (hw : ∀ n ∈ d.weights Try.prog 40, n ≤ 140737488351232) :
    ∃ qo qs qb qf qc go gs gb gf gc, v = .agg #[.slice qo (List.length qs) qc, .slice go (List.length gs) gc] ∧ PairsAt W qo qb qf qs ∧ qs.length ≤ qc ∧ (qo = none → qc = 0) ∧ PairsAt W go gb gf gs ∧ gs.length ≤ gc ∧ (go = none → gc = 0) := by
  obtain ⟨c0, c1, y0, y1, m, rfl, rfl, rfl, hy0, hy1⟩ := open_agg2 Try.underlying40 (by kernel_rfl) Try.cells40 hv h
  obtain ⟨qo, qs, qb, qf, qc, rfl, h1, h2, h3⟩ := open_pairs hy0 (fun n hn => hw n (by simp only [DataW.weights, Try.underlying40, DataW.weightsEach, List.map_cons, List.mem_append]; exact .inl hn))
  obtain ⟨go, gs, gb, gf, gc, rfl, h4, h5, h6⟩ := open_pairs hy1 (fun n hn => hw n (by simp only [DataW.weights, Try.underlying40, DataW.weightsEach, List.map_cons, List.mem_append]; exact .inr (.inl hn)))
  exact ⟨qo, qs, qb, qf, qc, go, gs, gb, gf, gc, rfl, h1, h2, h3, h4, h5, h6⟩

end
end Go.Proofs.Ytghffnjnpgiicaa

/- A statement's arguments, opened: an int; two ints in an array. -/
namespace Go.Proofs.Ytghffnjnpgiicaa
open Go.ChangeShapes Go.WideShapes Go.ChangeAt Go.RowKit Go.Joins Go.Deep

section
variable {H : Type} {enc : TypeId × Value → H} {W : World}

set_option maxRecDepth 100000 in
theorem open_int3 {r : Reach} {b0 : Nat} {v : Value} {d : DataW H} {p : List MemPlace} (hv : Value.okWide Try.prog W r b0 3 v) (h : DataW.Trod enc Try.prog W 0 (fun _ => true) true 3 v d p) :
    ∃ x : Int, v = .int .i64 x ∧ (-9223372036854775808 ≤ x ∧ x ≤ 9223372036854775807) := by
  obtain ⟨n, rfl, -, -, hw⟩ := open_int Try.underlying3 hv h
  refine ⟨n, rfl, ?_⟩
  simp only [Lit.wf, Bool.and_eq_true, decide_eq_true_eq, i64_min, i64_max] at hw
  omega

set_option maxRecDepth 100000 in
theorem open_pair2 {r : Reach} {b0 : Nat} {v : Value} {d : DataW H} {p : List MemPlace} (hv : Value.okWide Try.prog W r b0 52 v) (h : DataW.Trod enc Try.prog W 0 (fun _ => true) true 52 v d p) :
    ∃ x y : Int, v = .agg #[.int .i64 x, .int .i64 y] ∧ (-9223372036854775808 ≤ x ∧ x ≤ 9223372036854775807) ∧ (-9223372036854775808 ≤ y ∧ y ≤ 9223372036854775807) := by
  simp only [Value.okWide, Try.underlying52] at hv
  obtain ⟨cs, rfl, hsz, -⟩ := hv
  obtain ⟨u0, u1, rfl⟩ := array2 (hsz.trans Try.cells52)
  obtain ⟨fuel, ht⟩ := h
  obtain ⟨xs, k, _, _, _, hxl, hxs⟩ := DataW.trod_array Try.underlying52 ht
  have e0 := hxs 0 (by omega)
  have e1 := hxs 1 (by omega)
  rw [Try.cells3, List.getElem?_eq_getElem (by omega)] at e0 e1
  obtain ⟨p, q0, _, w0⟩ := DataW.trod_int Try.underlying3 e0
  obtain ⟨q, q1, _, w1⟩ := DataW.trod_int Try.underlying3 e1
  simp [Value.cells] at q0 q1
  subst q0 q1
  refine ⟨p, q, rfl, ?_, ?_⟩
  · simp only [Lit.wf, Bool.and_eq_true, decide_eq_true_eq, i64_min, i64_max] at w0
    omega
  · simp only [Lit.wf, Bool.and_eq_true, decide_eq_true_eq, i64_min, i64_max] at w1
    omega
end
end Go.Proofs.Ytghffnjnpgiicaa

