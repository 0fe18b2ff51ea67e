/- The reference's maximal sets. -/
import Derived.Test.YtjibdolhipddbaaT4
namespace Go.Proofs.Ytjibdolhipddbaa
open Go.RowKit Go.Maps

def nI (l : List Nat) : List Int := l.map fun n => ((n : Nat) : Int)
theorem nI_len (l : List Nat) : (nI l).length = l.length := by simp [nI]
theorem nI_nth {l : List Nat} {i : Nat} (h : i < l.length) : nth (nI l) i = ((ntN l i : Nat) : Int) := by
  simp [nI, nth, ntN, List.getD_eq_getElem?_getD, h]
theorem nI_wf {l : List Nat} (h : ∀ x ∈ l, x < 68719476736) (i : Nat) : -9223372036854775808 ≤ nth (nI l) i ∧ nth (nI l) i ≤ 9223372036854775807 :=
  nums_wf (fun x hx => by
    obtain ⟨n, hn, rfl⟩ := List.mem_map.1 hx
    have := h n hn
    omega) i
theorem nI_app (l m : List Nat) : nI (l ++ m) = nI l ++ nI m := by simp [nI]
theorem OutTo_succ {l : List Nat} {i k : Nat} : OutTo l i (k + 1) ↔ OutTo l i k ∨ Out l i k := by
  unfold OutTo
  constructor
  · rintro ⟨t, ht, h⟩
    by_cases e : t = k
    · subst e; exact .inr h
    · exact .inl ⟨t, by omega, h⟩
  · rintro (⟨t, ht, h⟩ | h)
    · exact ⟨t, by omega, h⟩
    · exact ⟨k, by omega, h⟩

set_option maxHeartbeats 8000000 in
set_option maxRecDepth 100000 in
theorem maximal_any (l : List Nat) (lo : Option Addr) (lb lq lc : Nat) (w : World) (H : IntsAt w lo lb lq (nI l)) (hs : ∀ x ∈ l, x < 68719476736) (hl : l.length ≤ 2000000000) :
    Calls Try.prog 39 #[.slice lo l.length lc] w fun e w' => ∃ v, e = .returned v ∧ NewInts w.heap.size w' v (nI (mxS l)) ∧ Below w.heap.size w w' := by
  obtain ⟨i0, hi0, hz0, hz1, hz2⟩ := info_parts Try.info3
  have HA := Lib.hid H
  have HS := Lib.hid (show ∀ i, i < l.length → ntN l i < 68719476736 from fun i hi => hs _ (ntN_mem hi))
  have HW := Lib.hid (fun i (hi : i ≤ l.length) => nI_wf (l := mxTo l i) fun x hx => hs x (mxTo_mem l i hi x hx))
  have HML := Lib.hid (mxTo_len l)
  obtain ⟨n, hn⟩ : ∃ n, l.length = n := ⟨_, rfl⟩
  have HNN := Lib.hid hn
  rw [hn] at HS hl HW
  rw [hn]
  clear H hs hn
  go_enter Try.func39, Try.ntmps39
  go_wp2
  go_loopw [3, 4, 5, 6] (fun v x _ _ wr => ∃ i : Nat, i ≤ n ∧ x = .int .i64 i ∧ NewInts w.heap.size wr v (nI (mxTo l i)) ∧ Below w.heap.size w wr) (fun _ x _ _ _ => n - (intOf x).toNat)
  case atStart => exact ⟨0, by omega, rfl, NewInts.nil _ _, Below.refl _ _⟩
  case round =>
    obtain ⟨i, hi, rfl, hn, hb⟩ := hrel
    obtain ⟨wq, rfl⟩ : ∃ wq, wq = wr := ⟨_, rfl⟩
    have HN := Lib.hid hn
    have HB := Lib.hid hb
    clear hn hb
    by_cases hlt : i < n
    · have hii : (i : Int) < (n : Int) := by omega
      have HCE := Lib.hid (show ∀ W, Below wq.heap.size wq W → ∀ k, k < n → W.cell? ⟨lb, lq + k, none⟩ = some (.int .i64 (ntN l k : Nat)) from fun W hW k hk => by
        have := (HA.out.below (HB.out.trans (hW.mono HB.out.size)) (Nat.le_refl _)).cell k (by rw [nI_len, HNN.out]; exact hk)
        rwa [nI_nth (by rw [HNN.out]; exact hk)] at this)
      obtain ⟨rfl, -⟩ := HA.out.ptr (by rw [nI_len, HNN.out]; omega)
      go_wp2
      go_loopw [5, 6] (fun f x wx => ∃ (F : Bool) (k : Nat), k ≤ n ∧ f = .bool F ∧ x = .int .i64 k ∧ (F = false ↔ OutTo l i k) ∧ Below wq.heap.size wq wx) (fun _ x _ => n - (intOf x).toNat)
      case atStart => exact ⟨true, 0, by omega, rfl, rfl, ⟨(fun h => nomatch h), fun ⟨k, hk, _⟩ => absurd hk (by omega)⟩, Below.refl _ _⟩
      case round =>
        obtain ⟨F, k, hk, rfl, rfl, hF, hb⟩ := hrel
        have HF := Lib.hid hF
        have HBR := Lib.hid hb
        clear hF hb
        cases F
        · -- kept out
          have HO := Lib.hid (show OutTo l i l.length by obtain ⟨t, ht, h⟩ := HF.out.1 rfl; exact ⟨t, by rw [HNN.out]; omega, h⟩)
          have HE := Lib.hid (show mxTo l (i + 1) = mxTo l i by rw [mxTo, if_pos HO.out])
          have HN2 := Lib.hid (HN.out.below HBR.out (Nat.le_refl _))
          have HB2 := Lib.hid (HB.out.trans (HBR.out.mono HB.out.size))
          by_cases hkn : k < n
          · have hki : (k : Int) < (n : Int) := by omega
            go_wp2
            go_roundw
            case rel => exact ⟨i + 1, by omega, by go_num, by rw [HE.out]; exact HN2.out, HB2.out⟩
            case measure => simp [intOf]; omega
          · have hki : ¬ (k : Int) < (n : Int) := by omega
            go_wp2
            go_roundw
            case rel => exact ⟨i + 1, by omega, by go_num, by rw [HE.out]; exact HN2.out, HB2.out⟩
            case measure => simp [intOf]; omega
        · by_cases hkn : k < n
          · have hki : (k : Int) < (n : Int) := by omega
            have ci := HCE.out wr HBR.out i hlt
            have ck := HCE.out wr HBR.out k hkn
            have hsi := HS.out i hlt
            have hsk := HS.out k hkn
            have HNO := Lib.hid (show ¬ OutTo l i k from fun h => by have := HF.out.2 h; cases this)
            have HOS := Lib.hid (OutTo_succ (l := l) (i := i) (k := k))
            have HOD := Lib.hid (show Out l i k ↔ subB (ntN l i) (ntN l k) = true ∧ (ntN l i ≠ ntN l k ∨ k < i) from Iff.rfl)
            have HAN := Lib.hid (andNot_zero hsi hsk)
            obtain ⟨s, hsv⟩ : ∃ s, ntN l i = s := ⟨_, rfl⟩
            obtain ⟨t, htv⟩ : ∃ t, ntN l k = t := ⟨_, rfl⟩
            rw [hsv] at ci hsi HOD HAN
            rw [htv] at ck hsk HOD HAN
            obtain ⟨si, hsz⟩ : ∃ si : Int, (s : Int) = si := ⟨_, rfl⟩
            obtain ⟨ti, htz⟩ : ∃ ti : Int, (t : Int) = ti := ⟨_, rfl⟩
            rw [hsz] at ci HAN
            rw [htz] at ck HAN
            clear hsv htv
            by_cases h1 : subB s t = true
            · have t1 : (bits .andNot .i64 si ti == 0) = true := by rw [HAN.out]; exact h1
              by_cases h2 : s = t
              · have t2 : (si != ti) = false := by rw [bne_eq_false_iff_eq]; omega
                by_cases h3 : k < i
                · have t3 : (k : Int) < (i : Int) := by omega
                  have HFN := Lib.hid (show (false = false ↔ OutTo l i (k + 1)) from ⟨fun _ => HOS.out.2 (.inr (HOD.out.2 ⟨h1, .inr h3⟩)), fun _ => rfl⟩)
                  clear hsz htz
                  go_wp2_with fail
                  go_quiet (fail)
                  obtain ⟨wd, hwd⟩ : ∃ wd, wr.drewN nq = wd := ⟨_, rfl⟩
                  have HBD := Lib.hid (show Below wq.heap.size wq wd by rw [← hwd]; exact below_drewN HBR.out _)
                  rw [hwd]
                  clear hwd ci ck
                  go_wp2
                  go_roundw
                  case rel => exact ⟨false, k + 1, by omega, rfl, by go_num, ⟨fun _ => HFN.out.1 trivial, fun _ => rfl⟩, HBD.out⟩
                  case measure => simp [intOf]; omega
                · have t3 : ¬ (k : Int) < (i : Int) := by omega
                  have HFN := Lib.hid (show (true = false ↔ OutTo l i (k + 1)) from ⟨(fun h => nomatch h), fun h => by
                    rcases HOS.out.1 h with h | h
                    · exact absurd h HNO.out
                    · have h := HOD.out.1 h
                      rcases h.2 with q | q
                      · exact absurd h2 q
                      · exact absurd q h3⟩)
                  clear hsz htz
                  go_wp2_with fail
                  go_quiet (fail)
                  obtain ⟨wd, hwd⟩ : ∃ wd, wr.drewN nq = wd := ⟨_, rfl⟩
                  have HBD := Lib.hid (show Below wq.heap.size wq wd by rw [← hwd]; exact below_drewN HBR.out _)
                  rw [hwd]
                  clear hwd ci ck
                  go_wp2
                  go_roundw
                  case rel => exact ⟨true, k + 1, by omega, rfl, by go_num, HFN.out, HBD.out⟩
                  case measure => simp [intOf]; omega
              · have t2 : (si != ti) = true := by rw [bne_iff_ne]; omega
                have HFN := Lib.hid (show (false = false ↔ OutTo l i (k + 1)) from ⟨fun _ => HOS.out.2 (.inr (HOD.out.2 ⟨h1, .inl h2⟩)), fun _ => rfl⟩)
                clear hsz htz
                go_wp2_with fail
                go_quiet (fail)
                obtain ⟨wd, hwd⟩ : ∃ wd, wr.drewN nq = wd := ⟨_, rfl⟩
                have HBD := Lib.hid (show Below wq.heap.size wq wd by rw [← hwd]; exact below_drewN HBR.out _)
                rw [hwd]
                clear hwd ci ck
                go_wp2
                go_roundw
                case rel => exact ⟨false, k + 1, by omega, rfl, by go_num, ⟨fun _ => HFN.out.1 trivial, fun _ => rfl⟩, HBD.out⟩
                case measure => simp [intOf]; omega
            · have t1 : (bits .andNot .i64 si ti == 0) = false := by rw [HAN.out]; exact Bool.eq_false_iff.2 h1
              have HFN := Lib.hid (show (true = false ↔ OutTo l i (k + 1)) from ⟨(fun h => nomatch h), fun h => by
                rcases HOS.out.1 h with h | h
                · exact absurd h HNO.out
                · have h := HOD.out.1 h
                  exact absurd h.1 h1⟩)
              clear hsz htz
              go_wp2_with fail
              go_quiet (fail)
              obtain ⟨wd, hwd⟩ : ∃ wd, wr.drewN nq = wd := ⟨_, rfl⟩
              have HBD := Lib.hid (show Below wq.heap.size wq wd by rw [← hwd]; exact below_drewN HBR.out _)
              rw [hwd]
              clear hwd ci ck
              go_wp2
              go_roundw
              case rel => exact ⟨true, k + 1, by omega, rfl, by go_num, HFN.out, HBD.out⟩
              case measure => simp [intOf]; omega
          · have hki : ¬ (k : Int) < (n : Int) := by omega
            have hkn : k = n := by omega
            subst hkn
            have hno : ¬ OutTo l i l.length := by rw [HNN.out]; intro h; have := HF.out.2 h; cases this
            have HE := Lib.hid (show mxTo l (i + 1) = mxTo l i ++ [ntN l i] by rw [mxTo, if_neg hno])
            have ci := HCE.out wr HBR.out i hlt
            have hsi := HS.out i hlt
            have hml := HML.out i
            have HB2 := Lib.hid (HB.out.trans (HBR.out.mono HB.out.size))
            have HW2 := Lib.hid (HW.out (i + 1) (by omega))
            obtain ⟨s, hsv⟩ : ∃ s, ntN l i = s := ⟨_, rfl⟩
            rw [hsv] at ci hsi HE
            have HO := Lib.hid ((HN.out.below HBR.out (Nat.le_refl _)).below ((Below.refl _ wr).alloc (Nat.le_refl _) (.cells #[.int .i64 s] 3)) (Nat.le_refl _)).own
            have HNL := Lib.hid (nI_len (mxTo l i))
            clear hsv hno
            go_wp2_with (first
              | (at_builtin; refine wpList_append_own _ rfl (.tmp 49) (.tmp 54) 34 rfl w.heap.size 3 i0 (.int .i64 0) 1 8 Try.underlying34 hi0 hz0 hz1 hz2 rfl (by decide) _ (nI (mxTo l i)).length ((nI (mxTo l i)).map (Value.int .i64)) rfl HO.out ⟨wr.heap.size, 0, none⟩ 1 1 [.int .i64 s] rfl rfl (cell_one_new _ _ _) (by simp [Value.oneCell']) ?q2 ?q3 ?q4 ?_)
              | (fail))
            case q2 => have := HNL.out; unfold maxLen; omega
            case q3 => have := HNL.out; omega
            case q4 => have := HB2.out.size; simp; omega
            intro v9 w9 hown hg _
            have HN9 := Lib.hid (show NewInts w.heap.size w9 v9 (nI (mxTo l (i + 1))) from by
              have hw := HW2.out
              rw [HE.out, nI_app] at hw ⊢
              exact NewInts.more hown hw (by have := HNL.out; simp [nI]; omega))
            have HB9 := Lib.hid ((HB2.out.alloc HB2.out.size (.cells #[.int .i64 s] 3)).grown hg (by have := HB2.out.size; simp; omega) (fun r hr => (HO.out.lt r hr).1))
            clear hown hg HO
            go_wp2
            go_roundw
            case rel => exact ⟨i + 1, by omega, by go_num, HN9.out, HB9.out⟩
            case measure => simp [intOf]; omega
    · have hin : i = n := by omega
      subst hin
      have HE := Lib.hid (show mxTo l i = mxS l by unfold mxS; rw [HNN.out])
      rw [HE.out] at HN
      obtain ⟨vo, vb, vc, rfl, -, -⟩ := HN.out.at
      go_wp2
      go_ret
      exact ⟨_, rfl, HN.out, HB.out⟩

end Go.Proofs.Ytjibdolhipddbaa
