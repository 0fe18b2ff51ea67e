/- copy for elements of more than one cell; the program's list of values. -/
import Derived.Test.YthnkmmjelpdamaaB5
import Derived.Test.YthnkmmjelpdamaaA3
namespace Go.Proofs.Ythnkmmjelpdamaa
open Go.RowKit

theorem run_copy_rows {P : Program} (w : World) (dT sT ty elem : TypeId) (s g dLen dCap : Nat) (a : Addr) (sLen sCap : Nat) (cur : Array Value) (t : TypeId) (cs : List Value)
    (hu : P.underlying dT = some (.slice elem)) (hs : (P.info? elem).map (·.size) = some s)
    (hg : w.heap[g]? = some (.cells cur t (0, 0))) (hn : cs.length = Nat.min sLen dLen * s)
    (hsrc : ∀ j v, cs[j]? = some v → w.cell? (a.add j) = some v) (hfit : cs.length ≤ cur.size) (h1 : ∀ v ∈ cs, v.oneCell' = true) :
    (Builtin.copy_ #[dT, sT] ty #[.slice (some ⟨g, 0, none⟩) dLen dCap, .slice (some a) sLen sCap]).run P w =
      .ok (goInt (Nat.min sLen dLen)) (w.setRow g (cs ++ cur.toList.drop cs.length).toArray) := by
  have hl := run_loadCells_list (P := P) w a cs hsrc
  have hst := run_storeCells_at P g 0 t cs 0 cur w hg (by simpa using hfit) h1
  cases hq : P.info? elem with
  | none => simp [hq] at hs
  | some i =>
    have hi : i.size = s := by simpa [hq] using hs
    simp [Builtin.copy_, run_underlying hu, Builtin.lenOf, Builtin.firstCells, sizeOf, typeInfo, hq, hi, ← hn, hl, hst]

theorem wpList_copy_rows {P : Program} {w : World} {ops : Array Oper} {rest : List Oper} {o : Oper} {a : Act} {Q : Exit → Act → World → Prop} (hgd : o.guard = none) (d s : Operand) (dT sT : TypeId)
    (ho : o.op = .call { callee := .builtin .copy, args := #[d, s], argTypes := #[dT, sT] }) (elem : TypeId) (hu : P.underlying dT = some (.slice elem)) (k : Nat) (hsz : (P.info? elem).map (·.size) = some k)
    (g dLen dCap : Nat) (ad : Addr) (sLen sCap : Nat) (hd : a.eval d = .slice (some ⟨g, 0, none⟩) dLen dCap) (hs : a.eval s = .slice (some ad) sLen sCap)
    (cur : Array Value) (t : TypeId) (hg : w.heap[g]? = some (.cells cur t (0, 0))) (cs : List Value) (hn : cs.length = Nat.min sLen dLen * k)
    (hsrc : ∀ j v, cs[j]? = some v → w.cell? (ad.add j) = some v) (hfit : cs.length = cur.size) (h1 : ∀ v ∈ cs, v.oneCell' = true)
    (h : wpList P ops Q rest (a.put o.dst (goInt (Nat.min sLen dLen))) (w.setRow g cs.toArray)) : wpList P ops Q (o :: rest) a w := by
  refine wpList_plain hgd fun K hK => ?_
  have hrun := run_copy_rows (P := P) w dT sT o.type elem k g dLen dCap ad sLen sCap cur t cs hu hsz hg hn hsrc (by omega) h1
  rw [List.drop_of_length_le (by simp [hfit]), List.append_nil] at hrun
  unfold Oper.wp
  simp [execOp, ho, resolve, invoke, builtin, hd, hs, hrun, Result.andThen]
  exact hK _ _ h

theorem Try.infoFrac : (Try.prog.info? 47).map (fun i => (i.zero, i.size, i.bytes)) = some (some (.agg #[.int .i64 0, .int .i64 0]), 2, 16) := by kernel_rfl

theorem size_made (cs : Array Value) (n : Nat) : (madeCells cs n).size = n := by simp [madeCells]

set_option maxHeartbeats 4000000 in
theorem vlist_any (cs : Array Value) (m : Nat) (w : World) (hs : cs.size = 12) (h1 : cs.all (·.oneCell') = true) (hm : m ≤ 6) :
    Calls Try.prog 51 #[.agg cs, .int .i64 m] w fun e w' => e = .returned (.slice (some ⟨w.heap.size + 1, 0, none⟩) m m) ∧ w'.heap[w.heap.size + 1]? = some (.cells (cs.toList.take (m * 2)).toArray 47 (0, 0)) ∧ Below w.heap.size w w' := by
  obtain ⟨i0, hi, hz0, hz1, hz2⟩ := info_parts Try.infoFrac
  obtain ⟨wa, hwa⟩ : ∃ wa, w.alloc (.cells cs 77) = wa := ⟨_, rfl⟩
  have hsa : wa.heap.size = w.heap.size + 1 := by rw [← hwa]; simp
  have HB1 : Hid (Below w.heap.size w wa) := by rw [← hwa]; exact (Below.refl _ _).alloc (Nat.le_refl _) _
  have HR1 : Hid (wa.heap[w.heap.size]? = some (.cells cs 77 (0, 0))) := by rw [← hwa]; exact heap_alloc_new _ _
  have hmk := run_make (P := Try.prog) wa 27 47 i0 _ Try.underlying27 hi hz0 .i64 .i64 m m (by omega) (Int.le_refl _) (by rw [hz2]; omega) (by omega)
  rw [hz1, hsa] at hmk
  simp only [Int.toNat_natCast] at hmk
  obtain ⟨mk, hmkd⟩ : ∃ mk, madeCells (Value.agg #[.int .i64 0, .int .i64 0]).cells (m * 2) = mk := ⟨_, rfl⟩
  rw [hmkd] at hmk
  have hmz : mk.size = m * 2 := by rw [← hmkd, size_made]
  obtain ⟨wb, hwb⟩ : ∃ wb, wa.alloc (.cells mk 47) = wb := ⟨_, rfl⟩
  rw [hwb] at hmk
  have HB2 : Hid (Below w.heap.size w wb) := by rw [← hwb]; exact HB1.out.alloc (by omega) _
  have HR2 : Hid (wb.heap[w.heap.size]? = some (.cells cs 77 (0, 0))) := by rw [← hwb, Below.heap_alloc _ _ _ (by omega)]; exact HR1.out
  have HM2 : Hid (wb.heap[w.heap.size + 1]? = some (.cells mk 47 (0, 0))) := by rw [← hwb, ← hsa]; exact heap_alloc_new _ _
  have HWA := Lib.hid hwa
  have HMZ := Lib.hid hmz
  obtain ⟨xs, hxs⟩ : ∃ xs, cs.toList.take (m * 2) = xs := ⟨_, rfl⟩
  have hxl : xs.length = m * 2 := by rw [← hxs]; simp; omega
  have HX := Lib.hid (show xs.length = Nat.min 6 m * 2 from by rw [hxl, show Nat.min 6 m = m from Nat.min_eq_right hm])
  have HX2 := Lib.hid (show xs.length = mk.size by rw [hxl, hmz])
  have HX3 := Lib.hid (show ∀ v ∈ xs, v.oneCell' = true from fun v hv => by
    rw [← hxs] at hv
    have := List.mem_of_mem_take hv
    rw [Array.all_eq_true'] at h1
    exact h1 v (by simpa using this))
  have HX4 := Lib.hid (show ∀ j v, xs[j]? = some v → wb.cell? ((⟨w.heap.size, 0, none⟩ : Addr).add j) = some v from fun j v hv => by
    have hadd : (⟨w.heap.size, 0, none⟩ : Addr).add j = ⟨w.heap.size, j, none⟩ := by unfold Addr.add; split <;> simp_all
    rw [hadd, cell_of_row _ _ _ _ _ _ HR2.out]
    rw [← hxs] at hv
    have h5 : j < m * 2 := by
      rcases Nat.lt_or_ge j (m * 2) with h | h
      · exact h
      · rw [List.getElem?_eq_none (by simp; omega)] at hv; cases hv
    rw [List.getElem?_take_of_lt h5] at hv
    simpa using hv)
  rw [hxs]
  clear hwa hmkd hwb hxs hmz hxl hi hz0 hz1 hz2
  go_enter Try.func51, Try.ntmps51
  go_upto_region 1 with fail
  rw [HWA.out]
  go_upto_region 2 with fail
  go_wp2_with (refine wpList_copy_rows rfl (.tmp 8) (.tmp 9) 27 27 rfl 47 Try.underlying27 2 (by kernel_rfl) (w.heap.size + 1) m m ⟨w.heap.size, 0, none⟩ 6 6 rfl rfl mk 47 HM2.out xs HX.out HX4.out HX2.out HX3.out ?_)
  go_ret
  exact ⟨rfl, setRow_heap _ _ _ _ _ _ HM2.out, below_setRow HB2.out (Nat.le_succ _) _⟩

end Go.Proofs.Ythnkmmjelpdamaa
