/- The program's bestValues: plain words, and its first loop. -/
import Derived.Test.YthnkmmjelpdamaaB8
import Derived.Test.YthnkmmjelpdamaaB6
import Derived.Test.YthnkmmjelpdamaaB7
import Derived.Test.YthnkmmjelpdamaaA4
namespace Go.Proofs.Ythnkmmjelpdamaa
open Go.RowKit Go.Shelf

attribute [local go_sem] Oper.semAt_some

/-- Six fractions, known by a function. -/
def vC (f : Nat → Int × Int) : Array Value := ofN 12 fun c => .int .i64 (if c % 2 = 0 then (f (c / 2)).1 else (f (c / 2)).2)
theorem vC_size (f : Nat → Int × Int) : (vC f).size = 12 := ofN_size _ _
theorem vC_all (f : Nat → Int × Int) : (vC f).all (·.oneCell') = true := ofN_one fun _ => rfl
theorem info_vC (f : Nat → Int × Int) : (Try.prog.info? 77).map (·.size) = some (vC f).size := by rw [vC_size]; kernel_rfl
/-- A reduced fraction, as a pair. -/
def fr (num den : Int) : Int × Int := (num / (Int.gcd num den : Int), den / (Int.gcd num den : Int))
theorem valC_vC (n : Nat → Int) (d : Int) : valC n d = vC fun s => fr (n s) d := rfl
theorem vC_set {w : World} {V s : Nat} {f : Nat → Int × Int} {T : TypeId} (h : w.heap[V]? = some (.cells (vC f) T (0, 0))) (hs : s < 6) (x : Int × Int) :
    ((w.setCell ⟨V, s * 2, none⟩ (.int .i64 x.1)).setCell ⟨V, s * 2 + 1, none⟩ (.int .i64 x.2)).heap[V]? = some (.cells (vC fun i => if i = s then x else f i) T (0, 0)) := by
  rw [set_ofN (set_ofN h (show s * 2 < 12 by omega) _) (show s * 2 + 1 < 12 by omega)]
  refine congrArg (fun z => some (Obj.cells z T (0, 0))) (ofN_congr fun c hc => ?_)
  by_cases h1 : c = s * 2 + 1
  · subst h1
    rw [if_pos rfl, if_neg (by omega), show (s * 2 + 1) / 2 = s by omega]
    show _ = Value.int .i64 (if s = s then x else f s).2
    rw [if_pos rfl]
  · rw [if_neg h1]
    by_cases h2 : c = s * 2
    · subst h2
      rw [if_pos rfl, if_pos (by omega), show s * 2 / 2 = s by omega]
      show _ = Value.int .i64 (if s = s then x else f s).1
      rw [if_pos rfl]
    · rw [if_neg h2]
      simp only [if_neg (show ¬ c / 2 = s by omega)]
theorem cell_vC {w : World} {V s : Nat} {f : Nat → Int × Int} {T : TypeId} (h : w.heap[V]? = some (.cells (vC f) T (0, 0))) (hs : s < 6) :
    w.cell? ⟨V, s * 2, none⟩ = some (.int .i64 (f s).1) ∧ w.cell? ⟨V, s * 2 + 1, none⟩ = some (.int .i64 (f s).2) ∧ w.frozen? ⟨V, s * 2, none⟩ = false ∧ w.frozen? ⟨V, s * 2 + 1, none⟩ = false := by
  obtain ⟨a, b⟩ := cell_ofN h (show s * 2 < 12 by omega)
  obtain ⟨c, d⟩ := cell_ofN h (show s * 2 + 1 < 12 by omega)
  rw [if_pos (by omega), show s * 2 / 2 = s by omega] at a
  rw [if_neg (by omega), show (s * 2 + 1) / 2 = s by omega] at c
  exact ⟨a, c, b, d⟩

/-- What bestValues computes. -/
def best0 (P : List Int) (k : Nat) : Nat → Int × Int := fun s => if s < k then fr (nth P s) 1 else (0, 0)
def hereF (N : List (List Int)) (P C : List Int) (r : Nat → Bool) : Nat → Int × Int := fun s => fr (st (eqF N P C r) 6 (s * 7 + 6)) (pv (eqF N P C r) 6)
def mixF (b h : Nat → Int × Int) (k : Nat) : Nat → Int × Int := fun s => if s < k ∧ lessB (b s).1 (b s).2 (h s).1 (h s).2 = true then h s else b s
def bestS (N : List (List Int)) (P C : List Int) (b : Nat → Int × Int) (x : Nat) : Nat → Int × Int :=
  if soundB N (ruleB N.length x) = true then mixF b (hereF N P C (ruleB N.length x)) N.length else b
def bestL (N : List (List Int)) (P C : List Int) (pre : List Nat) : Nat → Int × Int := pre.foldl (bestS N P C) (best0 P N.length)
def bestF (N : List (List Int)) (P C : List Int) : Nat → Int × Int := bestL N P C (upto (2 ^ N.length))
theorem bestL_snoc (N : List (List Int)) (P C : List Int) (pre : List Nat) (x : Nat) : bestL N P C (pre ++ [x]) = bestS N P C (bestL N P C pre) x := by simp [bestL]
theorem best0_snoc (P : List Int) (k : Nat) : best0 P (k + 1) = fun i => if i = k then fr (nth P k) 1 else best0 P k i := by
  funext i
  show (if i < k + 1 then fr (nth P i) 1 else (0, 0)) = if i = k then fr (nth P k) 1 else if i < k then fr (nth P i) 1 else (0, 0)
  by_cases h : i = k
  · subst h; rw [if_pos (by omega), if_pos rfl]
  · rw [if_neg h]
    by_cases h2 : i < k
    · rw [if_pos (by omega), if_pos h2]
    · rw [if_neg (by omega), if_neg h2]
theorem mixF_zero (b h : Nat → Int × Int) : mixF b h 0 = b := by
  funext i
  show (if i < 0 ∧ _ then _ else _) = _
  rw [if_neg (by omega)]
theorem mixF_snoc (b h : Nat → Int × Int) (k : Nat) : mixF b h (k + 1) = if lessB (b k).1 (b k).2 (h k).1 (h k).2 = true then (fun i => if i = k then h k else mixF b h k i) else mixF b h k := by
  split
  · rename_i e
    funext i
    show (if i < k + 1 ∧ _ then _ else _) = if i = k then h k else if i < k ∧ _ then _ else _
    by_cases h1 : i = k
    · subst h1; rw [if_pos ⟨by omega, e⟩, if_pos rfl]
    · rw [if_neg h1]
      by_cases h2 : i < k
      · simp [h2, show i < k + 1 by omega]
      · rw [if_neg (by omega), if_neg (by omega)]
  · rename_i e
    funext i
    show (if i < k + 1 ∧ _ then _ else _) = if i < k ∧ _ then _ else _
    by_cases h1 : i = k
    · subst h1; rw [if_neg (fun q => e q.2), if_neg (by omega)]
    · by_cases h2 : i < k
      · simp [h2, show i < k + 1 by omega]
      · rw [if_neg (by omega), if_neg (by omega)]

/-- The three blocks of the function, and that all that was lies on. -/
structure BvAt (w : World) (G : Nat) (cs : Array Value) (f : Nat → Int × Int) (W : World) : Prop where
  chain : W.heap[G]? = some (.cells cs 25 (0, 0))
  res : W.heap[G + 1]? = some (.cells (vC fun _ => (0, 0)) 77 (0, 0))
  best : W.heap[G + 1 + 1]? = some (.cells (vC f) 77 (0, 0))
  keep : Below G w W
  size : G + 3 ≤ W.heap.size
theorem BvAt.below {w W W' : World} {G M : Nat} {cs : Array Value} {f : Nat → Int × Int} (h : BvAt w G cs f W) (hb : Below M W W') (hM : G + 3 ≤ M) : BvAt w G cs f W' :=
  ⟨(hb.block _ (by omega)).trans h.chain, (hb.block _ (by omega)).trans h.res, (hb.block _ (by omega)).trans h.best, h.keep.trans (hb.mono (by omega)), Nat.le_trans h.size hb.size⟩
theorem BvAt.alloc {w W : World} {G : Nat} {cs : Array Value} {f : Nat → Int × Int} (h : BvAt w G cs f W) (o : Obj) : BvAt w G cs f (W.alloc o) :=
  h.below (M := W.heap.size) ((Below.refl _ _).alloc (Nat.le_refl _) o) h.size
theorem BvAt.store {w W : World} {G : Nat} {cs : Array Value} {f : Nat → Int × Int} (h : BvAt w G cs f W) {s : Nat} (hs : s < 6) (x : Int × Int) :
    BvAt w G cs (fun i => if i = s then x else f i) ((W.setCell ⟨G + 1 + 1, s * 2, none⟩ (.int .i64 x.1)).setCell ⟨G + 1 + 1, s * 2 + 1, none⟩ (.int .i64 x.2)) := by
  refine ⟨?_, ?_, vC_set h.best hs x, (h.keep.setCell (p := ⟨G + 1 + 1, _, none⟩) (by show G ≤ G + 1 + 1; omega) _).setCell (p := ⟨G + 1 + 1, _, none⟩) (by show G ≤ G + 1 + 1; omega) _, by simpa using h.size⟩
  · rw [heap_setCell_other _ _ _ _ (by show G ≠ G + 1 + 1; omega), heap_setCell_other _ _ _ _ (by show G ≠ G + 1 + 1; omega)]; exact h.chain
  · rw [heap_setCell_other _ _ _ _ (by show G + 1 ≠ G + 1 + 1; omega), heap_setCell_other _ _ _ _ (by show G + 1 ≠ G + 1 + 1; omega)]; exact h.res
theorem bvAt_own {β : Type} {w : World} {G M : Nat} {cs : Array Value} (hM : G + 3 ≤ M) (f : β → Nat → Int × Int) : OwnFrom M (fun pre W => BvAt w G cs (f pre) W) := fun pre W W' row h hg hr => by
  have key : ∀ k, k < G + 3 → W'.heap[k]? = W.heap[k]? := fun k hk => hg.block k (by have := h.size; omega) (fun e => by have := (hr k e.symm).1; omega)
  exact ⟨(key _ (by omega)).trans h.chain, (key _ (by omega)).trans h.res, (key _ (by omega)).trans h.best, h.keep.trans ⟨hg.os, hg.tape, hg.output, hg.size, fun k hk => key k (by omega)⟩, Nat.le_trans h.size hg.size⟩

theorem grown_then {W X Y : World} {row : Option Nat} (h : W.grownBy X row) (hb : Below X.heap.size X Y) : W.grownBy Y row :=
  ⟨hb.os.trans h.os, hb.tape.trans h.tape, hb.output.trans h.output, Nat.le_trans h.size hb.size, fun k hk hne => (hb.block k (Nat.lt_of_lt_of_le hk h.size)).trans (h.block k hk hne)⟩
theorem grown_set {W X : World} {r o : Nat} (h : W.grownBy X (some r)) (v : Value) : W.grownBy (X.setCell ⟨r, o, none⟩ v) (some r) :=
  ⟨h.os, h.tape, h.output, by simpa using h.size, fun k hk hne => (heap_setCell_other _ _ _ _ (fun e => hne (by rw [e]))).trans (h.block k hk hne)⟩
theorem ruleV_lit (n k : Nat) : ruleV n k = .agg #[.bool (ruleB n k 0), .bool (ruleB n k 1), .bool (ruleB n k 2), .bool (ruleB n k 3), .bool (ruleB n k 4), .bool (ruleB n k 5)] := rfl
theorem bo_lit (R : Nat → Bool) : bo R = #[.bool (R 0), .bool (R 1), .bool (R 2), .bool (R 3), .bool (R 4), .bool (R 5)] := rfl
theorem vC_lit (h : Nat → Int × Int) : vC h = #[.int .i64 (h 0).1, .int .i64 (h 0).2, .int .i64 (h 1).1, .int .i64 (h 1).2, .int .i64 (h 2).1, .int .i64 (h 2).2, .int .i64 (h 3).1, .int .i64 (h 3).2, .int .i64 (h 4).1, .int .i64 (h 4).2, .int .i64 (h 5).1, .int .i64 (h 5).2] := rfl

set_option maxHeartbeats 8000000 in
set_option maxRecDepth 100000 in
theorem bestValues_in (N : List (List Int)) (P C : List Int) (v : Value) (w : World) (h : ChainAt w v N P C) (hc : IsChain N P C) (hok : ∀ x, soundB N (ruleB N.length x) = true → SolveOk (eqF N P C (ruleB N.length x))) :
    CallsIn Fence.wide 8 Try.prog 49 #[v] w fun e w' => e = .returned (.agg (vC (bestF N P C))) ∧ Below w.heap.size w w' := by
  obtain ⟨na, nb, no, nc, A, B, O, D, pa, pb, po, pc, ca, cb, co, cc, hv, hN, hP, hC⟩ := h.ex
  have hn6 := hc.le
  have HCH := Lib.hid hc
  have HOK := Lib.hid hok
  have HV := Lib.hid hv
  rw [hv]
  obtain ⟨wa, hwa⟩ : ∃ wa, w.alloc (.cells #[.slice na N.length nc, .slice pa P.length pc, .slice ca C.length cc] 25) = wa := ⟨_, rfl⟩
  have hsa : wa.heap.size = w.heap.size + 1 := by rw [← hwa]; simp
  have HBW : Hid (Below w.heap.size w wa) := by rw [← hwa]; exact (Below.refl _ _).alloc (Nat.le_refl _) _
  have HCC : Hid (wa.heap[w.heap.size]? = some (.cells #[.slice na N.length nc, .slice pa P.length pc, .slice ca C.length cc] 25 (0, 0))) := by rw [← hwa]; exact heap_alloc_new _ _
  have HWA := Lib.hid hwa
  have HSA := Lib.hid hsa
  clear hwa hc hok hv
  refine callsIn_of_wp_marks Try.func49 rfl trivial ?_ rfl
  simp only [Try.ntmps49, List.size_toArray, List.length_cons, List.length_nil, Nat.reduceAdd, Nat.reduceSub, Array.replicate_succ, Array.replicate_zero, List.push_toArray, List.append_toArray, List.nil_append, List.cons_append]
  gi_wp2
  obtain ⟨G, hG⟩ : ∃ G, w.heap.size = G := ⟨_, rfl⟩
  rw [HWA.out, hG, show (#[Value.int IntKind.i64 0, Value.int IntKind.i64 0, Value.int IntKind.i64 0, Value.int IntKind.i64 0, Value.int IntKind.i64 0, Value.int IntKind.i64 0, Value.int IntKind.i64 0, Value.int IntKind.i64 0, Value.int IntKind.i64 0, Value.int IntKind.i64 0, Value.int IntKind.i64 0, Value.int IntKind.i64 0] : Array Value) = vC (fun _ => (0, 0)) from rfl]
  obtain ⟨cs, hcs⟩ : ∃ cs : Array Value, cs = #[.slice na N.length nc, .slice pa P.length pc, .slice ca C.length cc] := ⟨_, rfl⟩
  obtain ⟨wb, hwb⟩ : ∃ wb, (wa.alloc (.cells (vC fun _ => (0, 0)) 77)).alloc (.cells (vC fun _ => (0, 0)) 77) = wb := ⟨_, rfl⟩
  have HI : Hid (BvAt w G cs (best0 P 0) wb) := by
    have hga : wa.heap.size = G + 1 := by rw [HSA.out, hG]
    refine ⟨?_, ?_, ?_, ?_, ?_⟩
    · rw [← hwb, Below.heap_alloc _ _ _ (by simp [hga]; omega), Below.heap_alloc _ _ _ (by omega), hcs, ← hG]; exact HCC.out
    · rw [← hwb, Below.heap_alloc _ _ _ (by simp [hga]), ← hga]; exact heap_alloc_new _ _
    · rw [← hwb]; have := heap_alloc_new (wa.alloc (.cells (vC fun _ => (0, 0)) 77)) (.cells (vC fun _ => (0, 0)) 77); rw [World.size_alloc, hga] at this; exact this
    · rw [← hwb, ← hG]; exact (HBW.out.alloc (by omega) _).alloc (by simp; omega) _
    · rw [← hwb]; simp [hga]
  rw [hwb]
  have HG := Lib.hid hG
  have HCS := Lib.hid hcs
  have HP := Lib.hid hP
  have HH := Lib.hid h
  have HPL : Hid (P.length = N.length) := HCH.out.pay
  have hp6 : P.length ≤ 6 := by rw [HPL.out]; exact hn6
  clear hwb hG hcs hsa hN hP hC h
  gi_loopw [4, 5, 12] (fun _ _ y wr => ∃ k : Nat, k ≤ P.length ∧ y = .int .i64 k ∧ BvAt w G cs (best0 P k) wr) (fun _ _ y _ => P.length - (intOf y).toNat)
  case atStart => exact ⟨0, by omega, rfl, HI.out⟩
  case round =>
    clear HI
    obtain ⟨k, hk, rfl, hi⟩ := hrel
    obtain ⟨wq, rfl⟩ : ∃ x, x = wr := ⟨_, rfl⟩
    have HI := Lib.hid hi
    clear hi
    by_cases hlt : k < P.length
    · have hpq := HP.out.below HI.out.keep (by rw [HG.out]; exact Nat.le_refl _)
      obtain ⟨rfl, -⟩ := hpq.ptr (by omega)
      have p0 := hpq.cell k hlt
      have hpb := HCH.out.payOk k (by rw [← HPL.out]; exact hlt)
      obtain ⟨p, hp⟩ : ∃ p, nth P k = p := ⟨_, rfl⟩
      rw [hp] at p0 hpb
      obtain ⟨a, ha⟩ : ∃ a, p / (Int.gcd p 1 : Int) = a := ⟨_, rfl⟩
      obtain ⟨b, hb⟩ : ∃ b, (1 : Int) / (Int.gcd p 1 : Int) = b := ⟨_, rfl⟩
      have HFR := Lib.hid (callsIn_wide (n := 7).2 (fraction_any p 1 wq (by omega) (by omega) (by omega) (by omega)))
      rw [fracV, fracC, ha, hb] at HFR
      have HST := Lib.hid (show ∀ W', BvAt w G cs (best0 P k) W' → BvAt w G cs (best0 P (k + 1)) ((W'.setCell ⟨G + 1 + 1, k * 2, none⟩ (.int .i64 a)).setCell ⟨G + 1 + 1, k * 2 + 1, none⟩ (.int .i64 b)) from fun W' h => by
        have h2 := h.store (show k < 6 by omega) (fr p 1)
        rw [best0_snoc, hp, ← ha, ← hb]
        exact h2)
      clear ha hb hp hpq
      gi_wp2_with fail
      refine ⟨trivial, HFR.out.mono ?_⟩
      rintro e w' ⟨rfl, hbw⟩
      have HI2 := Lib.hid (HI.out.below hbw HI.out.size)
      obtain ⟨c0, c1, f0, f1⟩ := cell_vC HI2.out.best (show k < 6 by omega)
      have HST2 := Lib.hid (HST.out _ HI2.out)
      clear hbw
      gi_wp2
      go_roundw
      case rel => exact ⟨k + 1, by omega, by go_num, HST2.out⟩
      case measure => simp [intOf]; omega
    · obtain rfl : k = P.length := by omega
      obtain ⟨M, hM⟩ : ∃ M, wq.heap.size = M := ⟨_, rfl⟩
      obtain ⟨d0, d1, d2⟩ := cells_of3 (HCS.out ▸ HI.out.chain)
      have HAR := Lib.hid (allRules_in Fence.wide 7 trivial rfl N.length wq)
      gi_wp2_with fail
      refine ⟨trivial, HAR.out.mono ?_⟩
      rintro e w' ⟨rfl, rfl⟩
      gi_wp2
      have hMG : G + 3 ≤ M := by rw [← hM]; exact HI.out.size
      obtain ⟨wl, hwl⟩ : ∃ wl, wq.alloc (.cells #[.int .i64 N.length] 3) = wl := ⟨_, rfl⟩
      have hls : wl.heap.size = M + 1 := by rw [← hwl, World.size_alloc, hM]
      have HIL : Hid (BvAt w G cs (best0 P N.length) wl) := by rw [← hwl, ← HPL.out]; exact HI.out.alloc _
      have HBX : Hid (wl.cell? ⟨M, 0, none⟩ = some (.int .i64 N.length)) := by
        rw [cell_of_row _ _ _ _ _ _ (show wl.heap[M]? = some (.cells #[.int .i64 N.length] 3 (0, 0)) by rw [← hwl, ← hM]; exact heap_alloc_new _ _)]; rfl
      rw [hwl]
      clear hwl hM HI HAR d0 d1 d2
      rename_i hKK
      refine wpIn_rangeFunc_ownH rfl (by omega) (gf := 80) (lb := #[.pointer (some ⟨M, 0, none⟩)]) rfl trivial (enters_of Try.func80 (by kernel_rfl) rfl)
        (allRules_stops Fence.wide 7 trivial rfl (by omega) M N.length hn6 wl (by omega) HBX.out) Keep1.trans (keep1_put (by omega)) (Below.refl _ _) (fun _ => rfl)
        (fun pre W => BvAt w G cs (bestL N P C pre) W ∧ M + 1 ≤ W.heap.size)
        (fun _ _ _ => False)
        (OwnFrom.and (bvAt_own (by omega) _) (fun _ _ _ _ hs hg _ => Nat.le_trans hs hg.size))
        (fun _ _ _ _ _ hs _ _ => hs)
        ⟨HIL.out, by omega⟩
        (fun x a' W => ∃ Bx, W.heap[Bx]? = some (.cells (bo (ruleB N.length x)) 83 (0, 0)) ∧ G + 3 ≤ Bx ∧ a' = { tmps := #[.agg #[.slice na N.length nc, .slice pa P.length pc, .slice ca C.length cc], .pointer (some ⟨G, 0, none⟩), .pointer (some ⟨G + 1, 0, none⟩), .pointer (some ⟨G + 1 + 1, 0, none⟩), u4, u5, .pointer (some ⟨Bx, 0, none⟩), undef, undef, .pointer (some ⟨G, 1, none⟩), .slice pa P.length pc, .int .i64 P.length, .int .i64 P.length, .bool false, u14, u15, u16, u17, u18, u19, u20, u21, .pointer (some ⟨G, 0, none⟩), .slice na N.length nc, .int .i64 N.length, .func (.func 80) #[] #[.pointer (some ⟨M, 0, none⟩)], ruleV N.length x, undef, undef, undef, undef, undef, undef, undef, undef, undef, undef, undef, undef, undef, undef, undef, undef, undef, undef, undef, undef, undef, undef, undef, undef, undef, undef, undef, undef], defers := [] })
        (fun x a' _ X Y row hs hg hr => by
          obtain ⟨Bx, h1, h2, h3⟩ := hs
          exact ⟨Bx, (hg.block Bx (Array.getElem?_eq_some_iff.1 h1).1 (fun e => by obtain ⟨-, o, ho, hoc⟩ := hr Bx e.symm; rw [h1] at ho; cases ho; cases hoc)).trans h1, h2, h3⟩)
        ?assign ?body ?done ?stop
      case assign =>
        rintro l pre x W K ⟨hi, hsz⟩ hK
        have HK := Lib.hid hK
        have hi1 := hi.alloc (.cells (bo (ruleB N.length x)) 83)
        have HI1 := Lib.hid hi1
        have hgs := hi.size
        have HBB := Lib.hid (heap_alloc_new W (.cells (bo (ruleB N.length x)) 83))
        clear hK hi hi1
        dsimp only
        rw [ruleV_lit]
        gi_wp2
        exact HK.out _ _ ((KeepsOthers.alloc _ _).from _) (.of ((Below.refl _ W).alloc (Nat.le_refl _) _) (by omega)) ⟨HI1.out, by simp; omega⟩ ⟨W.heap.size, HBB.out, hgs, rfl⟩
      case body =>
        rintro l pre x a' W hl ⟨r0, hr⟩ ⟨hi, hsz⟩ ⟨Bx, hbx, hBx, rfl⟩ hlt
        obtain ⟨R, hR⟩ : ∃ R, ruleB N.length x = R := ⟨_, rfl⟩
        have HRL := Lib.hid (show ruleV N.length x = .agg #[.bool (R 0), .bool (R 1), .bool (R 2), .bool (R 3), .bool (R 4), .bool (R 5)] by rw [← hR]; rfl)
        have HOX := Lib.hid (HOK.out x)
        have HBS := Lib.hid (bestL_snoc N P C pre x)
        obtain ⟨bf, hbf⟩ : ∃ bf, bestL N P C pre = bf := ⟨_, rfl⟩
        rw [hbf] at hi
        have HBF := Lib.hid hbf
        rw [hR] at hbx
        unfold Hid bestS at HBS
        rw [hR, hbf] at HBS
        rw [hR] at HOX
        have HBS := Lib.hid HBS
        rw [HRL.out]
        have HRR := Lib.hid hR
        clear hR hbf hlt hr
        obtain ⟨c0, c1, c2⟩ := cells_of3 (HCS.out ▸ hi.chain)
        obtain ⟨d0, -⟩ := cell_ofN hbx (show 0 < 6 by omega)
        obtain ⟨d1, -⟩ := cell_ofN hbx (show 1 < 6 by omega)
        obtain ⟨d2, -⟩ := cell_ofN hbx (show 2 < 6 by omega)
        obtain ⟨d3, -⟩ := cell_ofN hbx (show 3 < 6 by omega)
        obtain ⟨d4, -⟩ := cell_ofN hbx (show 4 < 6 by omega)
        obtain ⟨d5, -⟩ := cell_ofN hbx (show 5 < 6 by omega)
        have HBXX := Lib.hid hbx
        have HI := Lib.hid hi
        have hgs := hi.size
        have HCA := Lib.hid (show ∀ W', BvAt w G cs bf W' → ChainAt W' (.agg #[.slice na N.length nc, .slice pa P.length pc, .slice ca C.length cc]) N P C from fun W' h => by
          rw [← HV.out]; exact HH.out.below h.keep (by rw [HG.out]; exact Nat.le_refl _))
        have HSND := Lib.hid (CallsIn.inRound l (callsIn_wide (n := 5).2 (isSound_any N P C _ R W (HCA.out W hi) HCH.out)))
        rw [bo_lit] at HSND
        clear hbx hi
        gi_wp2_with fail
        refine ⟨trivial, HSND.out.mono ?_⟩
        rintro e w1 ⟨rfl, hb1⟩
        have HB1 := Lib.hid hb1
        have HI1 := Lib.hid (HI.out.below hb1 hgs)
        have hs1 := hb1.size
        have hbx1 := (hb1.block Bx (Array.getElem?_eq_some_iff.1 HBXX.out).1).trans HBXX.out
        clear hb1 c0 c1 c2 d0 d1 d2 d3 d4 d5
        obtain ⟨b, hb⟩ : ∃ b, soundB N R = b := ⟨_, rfl⟩
        rw [hb] at HOX HBS
        rw [hb]
        clear hb
        cases b
        · have HBE := Lib.hid (show bestL N P C (pre ++ [x]) = bf from by rw [HBS.out]; exact if_neg Bool.false_ne_true)
          clear hbx1
          gi_wp2
          exact ⟨KeepsFrom.of_grownBy (below_grown HB1.out) (fun j e => by cases e), .of HB1.out (by omega), by rw [HBE.out]; exact HI1.out, by omega⟩
        · obtain ⟨c0, c1, c2⟩ := cells_of3 (HCS.out ▸ HI1.out.chain)
          obtain ⟨d0, -⟩ := cell_ofN hbx1 (show 0 < 6 by omega)
          obtain ⟨d1, -⟩ := cell_ofN hbx1 (show 1 < 6 by omega)
          obtain ⟨d2, -⟩ := cell_ofN hbx1 (show 2 < 6 by omega)
          obtain ⟨d3, -⟩ := cell_ofN hbx1 (show 3 < 6 by omega)
          obtain ⟨d4, -⟩ := cell_ofN hbx1 (show 4 < 6 by omega)
          obtain ⟨d5, -⟩ := cell_ofN hbx1 (show 5 < 6 by omega)
          have HEQ := Lib.hid (CallsIn.inRound l (callsIn_wide (n := 5).2 (equationsOf_any N P C _ R w1 (HCA.out w1 HI1.out) HCH.out)))
          rw [bo_lit] at HEQ
          obtain ⟨f, hf⟩ : ∃ f, eqF N P C R = f := ⟨_, rfl⟩
          obtain ⟨h, hh⟩ : ∃ h, hereF N P C R = h := ⟨_, rfl⟩
          have hhs : valC (fun s => st f 6 (s * 7 + 6)) (pv f 6) = vC h := by rw [← hh, ← hf]; rfl
          have HSV := Lib.hid (show ∀ W', CallsIn (Fence.wide.inRound l) 5 Try.prog 57 #[.agg (eqC f)] W' fun e w' => e = .returned (.agg #[.int .i64 (h 0).1, .int .i64 (h 0).2, .int .i64 (h 1).1, .int .i64 (h 1).2, .int .i64 (h 2).1, .int .i64 (h 2).2, .int .i64 (h 3).1, .int .i64 (h 3).2, .int .i64 (h 4).1, .int .i64 (h 4).2, .int .i64 (h 5).1, .int .i64 (h 5).2]) ∧ Below W'.heap.size W' w' from fun W' => by
            have := solve_any f W' (by rw [← hf]; exact HOX.out rfl)
            rw [hhs, vC_lit] at this
            exact CallsIn.inRound l (callsIn_wide (n := 5).2 this))
          have HBE := Lib.hid (show bestL N P C (pre ++ [x]) = mixF bf h N.length from by rw [HBS.out, if_pos rfl, hh])
          rw [hf] at HEQ
          clear hf hh hhs hbx1
          gi_wp2_with fail
          refine ⟨trivial, HEQ.out.mono ?_⟩
          rintro e w2 ⟨rfl, hb2⟩
          have HB2 := Lib.hid (HB1.out.trans (hb2.mono hs1))
          have HI2 := Lib.hid (HI1.out.below hb2 (by omega))
          have hs2 := hb2.size
          clear hb2 c0 c1 c2 d0 d1 d2 d3 d4 d5
          gi_wp2_with fail
          refine ⟨trivial, (HSV.out w2).mono ?_⟩
          rintro e w3 ⟨rfl, hb3⟩
          have HB3 := Lib.hid (HB2.out.trans (hb3.mono (by omega)))
          have HI3 := Lib.hid (HI2.out.below hb3 (by omega))
          have hs3 := hb3.size
          clear hb3
          obtain ⟨H, hH⟩ : ∃ H, w3.heap.size = H := ⟨_, rfl⟩
          obtain ⟨w4, hw4⟩ : ∃ w4, w3.alloc (.cells (vC h) 77) = w4 := ⟨_, rfl⟩
          have HI4 : Hid (BvAt w G cs bf w4) := by rw [← hw4]; exact HI3.out.alloc _
          have HB4 : Hid (Below W.heap.size W w4) := by rw [← hw4]; exact HB3.out.alloc (by omega) _
          have HH4 : Hid (w4.heap[H]? = some (.cells (vC h) 77 (0, 0))) := by rw [← hw4, ← hH]; exact heap_alloc_new _ _
          have hs4 : w4.heap.size = H + 1 := by rw [← hw4, World.size_alloc, hH]
          have hHG : G + 3 ≤ H := by omega
          have hMH : M + 1 ≤ H := by omega
          have HW4 : Hid (w3.alloc (.cells #[.int .i64 (h 0).1, .int .i64 (h 0).2, .int .i64 (h 1).1, .int .i64 (h 1).2, .int .i64 (h 2).1, .int .i64 (h 2).2, .int .i64 (h 3).1, .int .i64 (h 3).2, .int .i64 (h 4).1, .int .i64 (h 4).2, .int .i64 (h 5).1, .int .i64 (h 5).2] 77) = w4) := hw4
          obtain ⟨c0, -, -⟩ := cells_of3 (HCS.out ▸ HI4.out.chain)
          have c0' : (w3.alloc (.cells #[.int .i64 (h 0).1, .int .i64 (h 0).2, .int .i64 (h 1).1, .int .i64 (h 1).2, .int .i64 (h 2).1, .int .i64 (h 2).2, .int .i64 (h 3).1, .int .i64 (h 3).2, .int .i64 (h 4).1, .int .i64 (h 4).2, .int .i64 (h 5).1, .int .i64 (h 5).2] 77)).cell? ⟨G, 0, none⟩ = some (.slice na N.length nc) := by rw [HW4.out]; exact c0
          clear hw4 c0
          gi_wp2
          rw [HW4.out]
          have HGR := Lib.hid (below_grown HB4.out)
          clear c0' hH hs1 hs2 hs3
          gi_loopw [8, 38] (fun _ y wr => ∃ k : Nat, k ≤ N.length ∧ y = .int .i64 k ∧ BvAt w G cs (mixF bf h k) wr ∧ wr.heap[H]? = some (.cells (vC h) 77 (0, 0)) ∧ W.grownBy wr (some (G + 1 + 1)) ∧ H + 1 ≤ wr.heap.size) (fun _ y _ => N.length - (intOf y).toNat)
          case atStart => exact ⟨0, by omega, rfl, by rw [mixF_zero]; exact HI4.out, HH4.out, ⟨HGR.out.os, HGR.out.tape, HGR.out.output, HGR.out.size, fun k hk _ => HGR.out.block k hk (by simp)⟩, by omega⟩
          case round =>
            clear HI4 HH4 HGR HB4 hs4
            obtain ⟨k, hk, rfl, hi, hhh, hg, hsz4⟩ := hrel
            obtain ⟨wq1, rfl⟩ : ∃ x, x = wr := ⟨_, rfl⟩
            have HIq := Lib.hid hi
            have HHq := Lib.hid hhh
            have HGq := Lib.hid hg
            clear hi hhh hg
            by_cases hlt : k < N.length
            · have hk6 : k < 6 := by omega
              obtain ⟨a0, a1, f0, f1⟩ := cell_vC HIq.out.best hk6
              obtain ⟨e0, e1, -, -⟩ := cell_vC HHq.out hk6
              have hself : mixF bf h k k = bf k := by show (if k < k ∧ _ then _ else _) = _; rw [if_neg (by omega)]
              rw [hself] at a0 a1
              obtain ⟨p, hp⟩ : ∃ p, (bf k).1 = p := ⟨_, rfl⟩
              obtain ⟨q, hq⟩ : ∃ q, (bf k).2 = q := ⟨_, rfl⟩
              obtain ⟨y, hy⟩ : ∃ y, h k = y := ⟨_, rfl⟩
              rw [hp] at a0
              rw [hq] at a1
              rw [hy] at e0 e1
              have HSN := Lib.hid (mixF_snoc bf h k)
              unfold Hid at HSN
              rw [hp, hq, hy] at HSN
              have HSN := Lib.hid HSN
              obtain ⟨y1, y2⟩ := y
              have HY := Lib.hid hy
              have HLS := Lib.hid (fun W' => CallsIn.inRound l (callsIn_wide (n := 5).2 (isLess_any p q y1 y2 W')))
              clear hp hq hy hself
              dsimp only at e0 e1
              obtain ⟨bb, hbb⟩ : ∃ bb, lessB p q y1 y2 = bb := ⟨_, rfl⟩
              rw [hbb] at HLS HSN
              clear hbb
              have hmx : Try.prog.follows .mixedOrders = true := by kernel_rfl
              cases bb
              · have HVAL := Lib.hid (show mixF bf h (k + 1) = mixF bf h k from by rw [HSN.out]; exact if_neg Bool.false_ne_true)
                gi_wp2_with fail
                gi_region_with_o (refine ⟨trivial, (HLS.out _).mono ?_⟩; rintro e w' ⟨rfl, hbw⟩)
                all_goals (
                  have hbq : Below wq1.heap.size wq1 w' := (below_dr (Below.refl _ wq1)).trans hbw
                  have HIw := Lib.hid (HIq.out.below hbq (by omega))
                  have HHw := Lib.hid ((hbq.block H (by omega)).trans HHq.out)
                  have HGw := Lib.hid (grown_then HGq.out hbq)
                  have hsw : H + 1 ≤ w'.heap.size := by have := hbq.size; omega
                  clear hbq hbw
                  gi_wp2
                  go_roundw
                  case rel => exact ⟨k + 1, by omega, by go_num, by rw [HVAL.out]; exact HIw.out, HHw.out, HGw.out, hsw⟩
                  case measure => simp [intOf]; omega)
              · have HVAL := Lib.hid (show mixF bf h (k + 1) = (fun i => if i = k then (y1, y2) else mixF bf h k i) from by rw [HSN.out, if_pos rfl])
                gi_wp2_with fail
                gi_region_with_o (refine ⟨trivial, (HLS.out _).mono ?_⟩; rintro e w' ⟨rfl, hbw⟩)
                all_goals (
                  have hbq : Below wq1.heap.size wq1 w' := (below_dr (Below.refl _ wq1)).trans hbw
                  have HIw := Lib.hid (HIq.out.below hbq (by omega))
                  have HHw := Lib.hid ((hbq.block H (by omega)).trans HHq.out)
                  have HGw := Lib.hid (grown_then HGq.out hbq)
                  have hsw : H + 1 ≤ w'.heap.size := by have := hbq.size; omega
                  obtain ⟨a0, a1, f0, f1⟩ := cell_vC HIw.out.best hk6
                  obtain ⟨e0, e1, -, -⟩ := cell_vC HHw.out hk6
                  rw [HY.out] at e0 e1
                  dsimp only at e0 e1
                  have HIS := Lib.hid (HIw.out.store hk6 (y1, y2))
                  have HHS := Lib.hid (show ((w'.setCell ⟨G + 1 + 1, k * 2, none⟩ (.int .i64 y1)).setCell ⟨G + 1 + 1, k * 2 + 1, none⟩ (.int .i64 y2)).heap[H]? = some (.cells (vC h) 77 (0, 0)) by
                    rw [heap_setCell_other _ _ _ _ (show H ≠ G + 1 + 1 by omega), heap_setCell_other _ _ _ _ (show H ≠ G + 1 + 1 by omega)]; exact HHw.out)
                  have HGS := Lib.hid (grown_set (o := k * 2 + 1) (grown_set (o := k * 2) HGw.out (.int .i64 y1)) (.int .i64 y2))
                  clear hbq hbw
                  gi_wp2
                  go_roundw
                  case rel => exact ⟨k + 1, by omega, by go_num, by rw [HVAL.out]; exact HIS.out, HHS.out, HGS.out, by simpa using hsw⟩
                  case measure => simp [intOf]; omega)
            · obtain rfl : k = N.length := by omega
              have HKF := Lib.hid (KeepsFrom.of_grownBy (B := wl.heap.size) HGq.out (fun j e => by cases e; omega))
              have HKP := Lib.hid (show Keep1 M W wq1 from ⟨HGq.out.block M (by omega) (fun e => by cases e; omega), HGq.out.size⟩)
              gi_wp2
              exact ⟨HKF.out, HKP.out, by rw [HBE.out]; exact HIq.out, by omega⟩
      case done =>
        rintro D zs W hD rfl ⟨hi, -⟩ hK
        simp only [Exit.inBlock, Exit.then]
        refine hKK _ _ ?_
        rw [wpIn_wide]
        have HI9 := Lib.hid hi
        have HK9 := Lib.hid hK
        clear hi hK
        go_wp2_with (first
          | (refine wpList_load_row rfl 77 (.tmp 3) rfl (G + 1 + 1) rfl 77 _ _ _ HI9.out.best Try.underlying77 rfl (info_vC _) ?_)
          | (refine wpList_store_row rfl 77 (.tmp 2) (.tmp 54) rfl (G + 1) (vC (bestL N P C (upto (2 ^ N.length)))) rfl rfl 77 _ HI9.out.res (info_vC _) (by rw [vC_size, vC_size]) (vC_all _) ?_))
        have hls' : M + 1 ≤ D := by omega
        have hK4 : (W.setRow (G + 1) (vC (bestL N P C (upto (2 ^ N.length))))).heap[D]? = some (.deferred (some [])) := by
          rw [setRow_other _ _ _ _ (show D ≠ G + 1 by omega)]; exact HK9.out
        have hR5 : ((W.setRow (G + 1) (vC (bestL N P C (upto (2 ^ N.length))))).putObj D (.deferred none)).heap[G + 1]? = some (.cells (vC (bestL N P C (upto (2 ^ N.length)))) 77 (0, 0)) := by
          rw [World.putObj_heap_other (by omega)]; exact setRow_heap _ _ _ _ _ _ HI9.out.res
        refine ⟨by simp, .inl ⟨_, _, rfl, run_takeDeferred hK4, ?_⟩⟩
        refine ⟨.agg (vC (bestF N P C)), ?_, rfl, ?_⟩
        · simp [results, Try.results49, Result.andThen, asAddr, Act.put, bestF, run_loadVar_row _ (G + 1) _ _ _ _ _ hR5 Try.underlying77 rfl (info_vC _)]
        · have hb1 := below_setRow (g := G + 1) (HI9.out.keep) (Nat.le_succ _) (vC (bestL N P C (upto (2 ^ N.length))))
          rw [HG.out]
          exact hb1.trans ((Below.refl G _).grown (grownBy_putObj' _ D (.deferred none)) (by have := HI9.out.size; simp; omega) (fun k e => by cases e; omega))
      case stop =>
        rintro D c pre W _ _ h _
        exact h.elim

end Go.Proofs.Ythnkmmjelpdamaa
