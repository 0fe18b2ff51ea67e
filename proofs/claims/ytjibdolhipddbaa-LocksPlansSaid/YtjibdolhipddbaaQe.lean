/- B4 B5 B6 -/
import Derived.Test.YtjibdolhipddbaaQd
import Derived.Maps.AppendAt
import Derived.Shelf.RegionOpen
import Derived.DeepKeys4
import Derived.Maps.OwnOps
import Derived.Maps.OwnSet
import Derived.Maps.Views
/- The program's list of colourings. -/
namespace Go.Proofs.Ytjibdolhipddbaa
open Go.RowKit Go.Maps

theorem nth_set (x : List Int) (key : Nat) (y : Int) (t : Nat) (h : key < x.length) : nth (x.set key y) t = if t = key then y else nth x t := by
  unfold nth
  rw [List.getD_eq_getElem?_getD, List.getD_eq_getElem?_getD, List.getElem?_set]
  by_cases e : key = t
  · subst e; simp [h]
  · rw [if_neg e, if_neg (fun q => e q.symm)]
theorem NewCols.setCell {B : Nat} {w : World} {v : Value} {X : List (List Int)} (h : NewCols B w v X) (a : Addr) (ha : v.ownBlock ≠ some a.block) (y : Value) : NewCols B (w.setCell a y) v X := by
  refine ⟨⟨h.own.1, ?_⟩, h.len⟩
  rcases h.own.2 with h2 | ⟨g, cap, cur, rfl, h2, h3, h4⟩
  · exact .inl h2
  · exact .inr ⟨g, cap, cur, rfl, h2, (heap_setCell_other _ _ _ _ (fun e => ha (by simp [Value.ownBlock, e]))).trans h3, h4⟩
theorem colC_lit (c : Nat → Int) : colC c = #[.int .i64 (c 0), .int .i64 (c 1), .int .i64 (c 2), .int .i64 (c 3), .int .i64 (c 4), .int .i64 (c 5)] := rfl
theorem fill_col (c : Nat → Int) (i0 : TypeInfo) (h : i0.size = 6) : Instr.fill (fun i => some (i * i0.size, i0.size)) ((Array.range (1 * i0.size)).map ((Value.agg #[.int .i64 0, .int .i64 0, .int .i64 0, .int .i64 0, .int .i64 0, .int .i64 0]).cells[· % (Value.agg #[.int .i64 0, .int .i64 0, .int .i64 0, .int .i64 0, .int .i64 0, .int .i64 0]).cells.size]!)) [(0, .agg (colC c))] = some (colC c) := by
  rw [h]
  kernel_rfl
theorem own_col_nil (w : World) (B : Nat) : NewCols B w (.slice none 0 0) [] := NewCols.nil B w

set_option maxHeartbeats 4000000 in
set_option maxRecDepth 100000 in
theorem colourings_any (k d : Nat) (w : World) (hk : k ≤ 6) (hd : 1 ≤ d) (hd4 : d ≤ 4) :
    Calls Try.prog 50 #[.int .i64 k, .int .i64 d] w fun e w' =>
      (∃ ao b cap, e = .returned (.slice ao (clsL k d).length cap) ∧ ColsAt w' ao b 0 (clsL k d)) ∧ Below w.heap.size w w' := by
  obtain ⟨h0, h1, h2⟩ := three_heap w (.cells #[.int .i64 k] 3) (.cells #[.int .i64 d] 3) (.cells #[.int .i64 0, .int .i64 0, .int .i64 0, .int .i64 0, .int .i64 0, .int .i64 0] 84)
  have HB := Lib.hid ((((Below.refl _ w).alloc (Nat.le_refl _) (.cells #[.int .i64 k] 3)).alloc (by simp) (.cells #[.int .i64 d] 3)).alloc (by simp; omega) (.cells #[.int .i64 0, .int .i64 0, .int .i64 0, .int .i64 0, .int .i64 0, .int .i64 0] 84))
  have hs : (((w.alloc (.cells #[.int .i64 k] 3)).alloc (.cells #[.int .i64 d] 3)).alloc (.cells #[.int .i64 0, .int .i64 0, .int .i64 0, .int .i64 0, .int .i64 0, .int .i64 0] 84)).heap.size = w.heap.size + 3 := by simp
  obtain ⟨wa, hwa⟩ : ∃ wa, ((w.alloc (.cells #[.int .i64 k] 3)).alloc (.cells #[.int .i64 d] 3)).alloc (.cells #[.int .i64 0, .int .i64 0, .int .i64 0, .int .i64 0, .int .i64 0, .int .i64 0] 84) = wa := ⟨_, rfl⟩
  rw [hwa] at HB h0 h1 h2 hs
  have HWA := Lib.hid hwa
  have H0 := Lib.hid h0
  have H1 := Lib.hid h1
  have HC := Lib.hid (show NewCols (w.heap.size + 2) wa (.slice (some ⟨w.heap.size + 2, 0, none⟩) 1 1) (cls d 0) from ⟨⟨rfl, .inr ⟨w.heap.size + 2, 1, _, rfl, Nat.le_refl _, h2, Nat.le_refl _, by unfold maxLen; omega, rfl, rfl⟩⟩, by simp [cls]⟩)
  have HSZ := Lib.hid hs
  obtain ⟨i0, hi0, hz0, hz1, hz2⟩ := info_parts Try.info84
  clear hwa h0 h1 h2 hs
  go_enter Try.func50, Try.ntmps50
  go_upto_region 2 with fail
  rw [HWA.out]
  have c0 := cell_of_row _ _ 0 _ _ _ H0.out
  go_wp2
  go_loopw [5, 6, 7, 9, 10, 14, 19] (fun v _ _ _ _ x _ wr => ∃ key : Nat, key ≤ k ∧ x = .int .i64 key ∧ NewCols (w.heap.size + 2) wr v (cls d key) ∧ Below w.heap.size w wr ∧ w.heap.size + 2 ≤ wr.heap.size ∧
    wr.heap[w.heap.size]? = some (.cells #[.int .i64 k] 3 (0, 0)) ∧ wr.heap[w.heap.size + 1]? = some (.cells #[.int .i64 d] 3 (0, 0))) (fun _ _ _ _ _ x _ _ => k - (intOf x).toNat)
  case atStart => exact ⟨0, by omega, rfl, HC.out, HB.out, by have := HSZ.out; omega, H0.out, H1.out⟩
  case round =>
    obtain ⟨key, hkey, rfl, hc, hb, hsz, h0, h1⟩ := hrel
    clear HB H0 H1 HC HSZ c0
    have HC := Lib.hid hc
    have HB := Lib.hid hb
    have H0 := Lib.hid h0
    have H1 := Lib.hid h1
    clear hc hb h0 h1
    by_cases hlt : key < k
    · obtain ⟨hg1, hg2, hg3⟩ := good_cls (k := key) (d := d) (by omega) hd hd4
      have HG := Lib.hid hg3
      clear hg3
      obtain ⟨ao, b, cap, rfl, hat, hbb, -, -⟩ := HC.out.at
      obtain ⟨rfl, hbw⟩ := hat.ptr hg1
      have hbb := hbb hg1
      have HAT := Lib.hid hat
      clear hat
      obtain ⟨L, hL⟩ : ∃ L, cls d key = L := ⟨_, rfl⟩
      rw [hL] at hg1 hg2 HG HAT HC ⊢
      have HL := Lib.hid hL
      clear hL
      go_wp2
      obtain ⟨wo, rfl⟩ : ∃ wo : World, wo = wr := ⟨_, rfl⟩
      go_loopw [7, 9, 10, 19] (fun v _ _ x wr => ∃ n : Nat, n ≤ L.length ∧ x = .int .i64 n ∧ NewCols wo.heap.size wr v (ext key d L n) ∧ Below wo.heap.size wo wr) (fun _ _ _ x _ => L.length - (intOf x).toNat)
      case atStart => exact ⟨0, by omega, rfl, NewCols.nil _ _, Below.refl _ _⟩
      case round =>
        obtain ⟨n, hn, rfl, hc, hb⟩ := hrel
        have HCN := Lib.hid hc
        have HBN := Lib.hid hb
        clear hc hb
        by_cases hln : n < L.length
        · have HR := Lib.hid ((HAT.out.below HBN.out (Nat.le_refl _)).rng n hln)
          obtain ⟨hx6, hx4⟩ := HG.out (row L n) (by unfold row; rw [List.getD_eq_getElem?_getD, List.getElem?_eq_getElem hln]; exact List.getElem_mem hln)
          obtain ⟨x, hx⟩ : ∃ x, row L n = x := ⟨_, rfl⟩
          have HEX := Lib.hid (show ext key d L (n + 1) = ext key d L n ++ ext1 key x d by rw [← hx]; rfl)
          rw [hx] at HR hx6 hx4
          have HX4 := Lib.hid hx4
          clear hx hx4
          have HLN := Lib.hid (ext_len key d L n)
          have hnd : n * d ≤ 16384 := by
            have := Nat.mul_le_mul (show n ≤ 4096 by omega) hd4
            omega
          obtain ⟨wq, hwq⟩ : ∃ wq, (wr.alloc (.cells #[.int .i64 0, .int .i64 0, .int .i64 0, .int .i64 0, .int .i64 0, .int .i64 0] 84)).setRow wr.heap.size (colC (nth x)) = wq := ⟨_, rfl⟩
          have HQ := Lib.hid (show Below wr.heap.size wr wq by rw [← hwq]; exact below_setRow ((Below.refl _ wr).alloc (Nat.le_refl _) _) (Nat.le_refl _) _)
          have H9 := Lib.hid (show wq.heap[wr.heap.size]? = some (.cells (colC (nth x)) 84 (0, 0)) by rw [← hwq]; exact setRow_heap _ wr.heap.size _ _ _ _ (heap_alloc_new wr _))
          have HWQ := Lib.hid hwq
          have HV9 := Lib.hid (show u7.ownBlock ≠ some wr.heap.size by
            rcases HCN.out.own.2 with ⟨e, -⟩ | ⟨g, cp, cur, e, -, hh, -⟩
            · rw [e]; simp [Value.ownBlock]
            · rw [e]
              have := lt_of_block hh
              simp [Value.ownBlock]
              omega)
          clear hwq
          go_wp2_with (first
            | (refine wpList_load_mid rfl 84 (.tmp 21) rfl b (0 + n * 6) (by simp [Act.eval]) _ _ HR.out Try.underlying84 rfl (info_col _) ?_; rw [colL_arr])
            | (refine wpList_store_row rfl 84 (.tmp 9) (.tmp 22) rfl wr.heap.size _ rfl rfl 84 _ (heap_alloc_new _ _) (info_colC _) (by rw [colC_size]; rfl) (colC_all _) ?_; rw [HWQ.out]))
          obtain ⟨ws, rfl⟩ : ∃ ws : World, ws = wr := ⟨_, rfl⟩
          go_loopw [7, 10] (fun v y wr => ∃ (e : Nat) (g : Nat → Int), e ≤ d ∧ y = .int .i64 (e + 1 : Nat) ∧ NewCols wo.heap.size wr v (ext key d L n ++ ext1 key x e) ∧ v.ownBlock ≠ some ws.heap.size ∧ Below wo.heap.size wo wr ∧ ws.heap.size < wr.heap.size ∧
            wr.heap[ws.heap.size]? = some (.cells (colC g) 84 (0, 0)) ∧ ∀ t, t < 6 → t ≠ key → g t = nth x t) (fun _ y _ => d + 1 - (intOf y).toNat)
          case atStart => exact ⟨0, nth x, by omega, rfl, by rw [ext1, List.append_nil]; exact HCN.out.below HQ.out (Nat.le_refl _), HV9.out, HBN.out.trans (HQ.out.mono HBN.out.size), lt_of_block H9.out, H9.out, fun _ _ _ => rfl⟩
          case round =>
            obtain ⟨e, g, he, rfl, hc, hv, hb, hlx, hx, hg⟩ := hrel
            clear HCN HQ H9 HV9 HWQ
            have HCE := Lib.hid hc
            have HVE := Lib.hid hv
            have HBE := Lib.hid hb
            have HXE := Lib.hid hx
            have HGE := Lib.hid hg
            have e1 := cell_of_row _ _ 0 _ _ _ ((HBE.out.block _ (by omega)).trans H1.out)
            clear hc hv hb hx hg
            by_cases hlo : e < d
            · obtain ⟨d1, f1⟩ := colC_cell HXE.out (show key < 6 by omega)
              have hk6 : (key : Int) < 6 := by omega
              have t1 : decide (((e + 1 : Nat) : Int) ≤ (d : Int)) = true := decide_eq_true (by omega)
              obtain ⟨wq, hwq⟩ : ∃ wq, wr.setCell ⟨ws.heap.size, key, none⟩ (.int .i64 ((e : Int) + 1)) = wq := ⟨_, rfl⟩
              obtain ⟨x', hx'⟩ : ∃ x', x.set key ((e + 1 : Nat) : Int) = x' := ⟨_, rfl⟩
              have HXQ := Lib.hid (show wq.heap[ws.heap.size]? = some (.cells (colC (nth x')) 84 (0, 0)) by
                rw [← hwq, set_ofN HXE.out (show key < 6 by omega), ← hx', ← colC_upd g key ((e : Int) + 1)]
                rw [colC_congr fun t ht => ?_]
                rw [nth_set _ _ _ _ (by omega)]
                by_cases q : t = key
                · rw [if_pos q, if_pos q]; simp
                · rw [if_neg q, if_neg q, HGE.out t ht q])
              have HB1 := Lib.hid (show Below wo.heap.size wo wq by rw [← hwq]; exact HBE.out.setCell (by show wo.heap.size ≤ ws.heap.size; exact HBN.out.size) _)
              have HC1 := Lib.hid (show NewCols wo.heap.size wq u7 (ext key d L n ++ ext1 key x e) by
                rw [← hwq]
                exact HCE.out.setCell _ HVE.out _)
              have HQS := Lib.hid (show wq.heap.size = wr.heap.size by rw [← hwq]; simp)
              have hx4' : ∀ i, i < 6 → 0 ≤ nth x' i ∧ nth x' i ≤ 4 := fun i hi => by
                rw [← hx', nth_set _ _ _ _ (by omega)]
                by_cases q : i = key
                · rw [if_pos q]; omega
                · rw [if_neg q]; exact HX4.out i hi
              have HEXT := Lib.hid (show ext1 key x (e + 1) = ext1 key x e ++ if fixB x' = true then [x'] else [] by rw [← hx']; rfl)
              have HL1 := Lib.hid (ext1_len key x e)
              have HWQ := Lib.hid hwq
              have HX' := Lib.hid hx'
              clear hwq hx'
              have HD := Lib.hid (below_dr (Below.refl wq.heap.size wq))
              have HCL := Lib.hid (show ∀ W, Below wq.heap.size wq W → Calls Try.prog 56 #[.agg #[.int .i64 (nth x' 0), .int .i64 (nth x' 1), .int .i64 (nth x' 2), .int .i64 (nth x' 3), .int .i64 (nth x' 4), .int .i64 (nth x' 5)]] W fun e w' => e = .returned (.agg (colC (rnF (nth x')))) ∧ Below wq.heap.size wq w' from
                fun W hW => (renamed_any (nth x') W hx4').mono fun e w' h => ⟨h.1, hW.trans (h.2.mono hW.size)⟩)
              have HKE := Lib.hid (show ∀ W, Below wq.heap.size wq W → W.cell? ⟨ws.heap.size, 0, none⟩ = some (.int .i64 (nth x' 0)) ∧ W.cell? ⟨ws.heap.size, 1, none⟩ = some (.int .i64 (nth x' 1)) ∧ W.cell? ⟨ws.heap.size, 2, none⟩ = some (.int .i64 (nth x' 2)) ∧ W.cell? ⟨ws.heap.size, 3, none⟩ = some (.int .i64 (nth x' 3)) ∧ W.cell? ⟨ws.heap.size, 4, none⟩ = some (.int .i64 (nth x' 4)) ∧ W.cell? ⟨ws.heap.size, 5, none⟩ = some (.int .i64 (nth x' 5)) from fun W hW => by
                have hb := (hW.block _ (lt_of_block HXQ.out)).trans HXQ.out
                exact ⟨(colC_cell hb (by omega)).1, (colC_cell hb (by omega)).1, (colC_cell hb (by omega)).1, (colC_cell hb (by omega)).1, (colC_cell hb (by omega)).1, (colC_cell hb (by omega)).1⟩)
              have heq : ∀ W : World, (Go.binOp .eql 84 (Value.agg #[.int .i64 (nth x' 0), .int .i64 (nth x' 1), .int .i64 (nth x' 2), .int .i64 (nth x' 3), .int .i64 (nth x' 4), .int .i64 (nth x' 5)]) (Value.agg (colC (rnF (nth x'))))).run Try.prog W = Result.ok (Value.bool (fixB x')) W := fun W => eq_col (nth x') (rnF (nth x')) W
              clear hx4'
              go_wp2_with fail
              rw [HWQ.out]
              go_region_held3 (fun W => W.cell? ⟨ws.heap.size, 0, none⟩ = some (.int .i64 (nth x' 0)) ∧ W.cell? ⟨ws.heap.size, 1, none⟩ = some (.int .i64 (nth x' 1)) ∧ W.cell? ⟨ws.heap.size, 2, none⟩ = some (.int .i64 (nth x' 2)) ∧ W.cell? ⟨ws.heap.size, 3, none⟩ = some (.int .i64 (nth x' 3)) ∧ W.cell? ⟨ws.heap.size, 4, none⟩ = some (.int .i64 (nth x' 4)) ∧ W.cell? ⟨ws.heap.size, 5, none⟩ = some (.int .i64 (nth x' 5)))
                (first | exact HKE.out _ HB8.out | exact HKE.out _ HD.out | exact HKE.out _ (Below.refl _ _))
                ((go_simp; go_at_call 56; (with_reducible refine (HCL.out _ HD.out).mono ?_); rintro e8 w8 ⟨rfl, hb8⟩; have HB8 := Lib.hid hb8; clear hb8))
              have HX8 := Lib.hid ((HB8.out.block _ (lt_of_block HXQ.out)).trans HXQ.out)
              have HB9 := Lib.hid (HB1.out.trans (HB8.out.mono HB1.out.size))
              have HC8 := Lib.hid (HC1.out.below HB8.out (Nat.le_refl _))
              have HS8 := Lib.hid (show ws.heap.size < w8.heap.size from lt_of_block HX8.out)
              obtain ⟨fx, hfx⟩ : ∃ b, fixB x' = b := ⟨_, rfl⟩
              have HFX := Lib.hid hfx
              rw [hfx]
              clear hfx heq e1 d1 f1
              have HG8 := Lib.hid (show ∀ t, t < 6 → t ≠ key → nth x' t = nth x t from fun t ht q => by rw [← HX'.out, nth_set _ _ _ _ (by omega), if_neg q])
              cases fx
              · have HE8 := Lib.hid (show ext1 key x (e + 1) = ext1 key x e by have := HEXT.out; rw [HFX.out] at this; simpa using this)
                go_wp2
                go_roundw
                case rel => exact ⟨e + 1, nth x', by omega, by go_num, by rw [HE8.out]; exact HC8.out, HVE.out, HB9.out, HS8.out, HX8.out, HG8.out⟩
                case measure => simp [intOf]; omega
              · have HE8 := Lib.hid (show ext1 key x (e + 1) = ext1 key x e ++ [x'] by have := HEXT.out; rw [HFX.out] at this; simpa using this)
                have HFL := Lib.hid (fill_col (nth x') i0 hz1)
                have HLE := Lib.hid (show (ext key d L n ++ ext1 key x e).length ≤ 16388 by rw [List.length_append]; have := HLN.out; have := HL1.out; omega)
                have HOW := Lib.hid ((HC8.out.below ((Below.refl _ w8).alloc (Nat.le_refl _) (.cells (colC (nth x')) 84)) (Nat.le_refl _)).own)
                have HNW := Lib.hid (show ∀ j u, (colL (nth x'))[j]? = some u → (w8.alloc (.cells (colC (nth x')) 84)).cell? ((⟨w8.heap.size, 0, none⟩ : Addr).add j) = some u from fun j u hj => by
                  rw [Addr.add_mid, Nat.zero_add, cell_of_row _ _ _ _ _ _ (heap_alloc_new w8 _)]
                  simpa [colC, ofN, colL] using hj)
                go_wp2_with (first
                  | (refine wpList_load_row rfl 84 (.tmp 9) rfl ws.heap.size rfl 84 _ _ _ HX8.out Try.underlying84 rfl (info_colC _) ?_)
                  | (refine wpList_buildSlice rfl 67 84 1 _ rfl (colC (nth x')) i0 _ Try.underlying67 hi0 hz0 (by rw [hz1]; omega) (by rw [hz1]; omega) (by rw [Array.toList_map]; exact HFL.out) ?_)
                  | (at_builtin; refine wpList_append_own_at _ rfl (.tmp 35) (.tmp 37) 67 rfl wo.heap.size 84 i0 _ 6 48 Try.underlying67 hi0 hz0 hz1 hz2 rfl (by decide) u7 (ext key d L n ++ ext1 key x e).length (flatC (ext key d L n ++ ext1 key x e)) rfl HOW.out ⟨w8.heap.size, 0, none⟩ 1 1 (colL (nth x')) rfl (colL_len _) HNW.out ?q1 ?q2 ?q3 ?q4 ?_))
                case q1 => exact fun u hu => by obtain ⟨q, -, rfl⟩ := List.mem_map.1 hu; rfl
                case q2 => have := HLE.out; unfold maxLen; omega
                case q3 => have := HLE.out; omega
                case q4 => have := HB9.out.size; simp; omega
                intro v' w9 hown hgrow _ hloc
                have HC9 := Lib.hid (show NewCols wo.heap.size w9 v' (ext key d L n ++ ext1 key x (e + 1)) from ⟨by
                  rw [HE8.out, ← List.append_assoc, flatC_snoc, show (ext key d L n ++ ext1 key x e ++ [x']).length = (ext key d L n).length + (ext1 key x e).length + 1 by simp; omega]; exact hown, by rw [HE8.out, ← List.append_assoc, List.length_append]; have := HLE.out; rw [List.length_singleton]; omega⟩)
                have HV9 := Lib.hid (show v'.ownBlock ≠ some ws.heap.size by
                  rcases hloc with q | q
                  · rw [q]; exact HVE.out
                  · rw [q]; have := HS8.out; simp; omega)
                have HBB := Lib.hid ((HB9.out.alloc HB9.out.size (.cells (colC (nth x')) 84)).grown hgrow (by have := HB9.out.size; simp; omega) (fun r hr => HC8.out.lt r hr))
                have HXX := Lib.hid (show w9.heap[ws.heap.size]? = some (.cells (colC (nth x')) 84 (0, 0)) by
                  rw [hgrow.block _ (by have := HS8.out; simp; omega) (fun q => HVE.out q.symm), Below.heap_alloc _ _ _ HS8.out]; exact HX8.out)
                have HSS := Lib.hid (lt_of_block HXX.out)
                clear hown hgrow hloc
                go_wp2
                go_roundw
                case rel => exact ⟨e + 1, nth x', by omega, by go_num, HC9.out, HV9.out, HBB.out, HSS.out, HXX.out, HG8.out⟩
                case measure => simp [intOf]; omega
            · have hed : e = d := by omega
              have t1 : decide (((e + 1 : Nat) : Int) ≤ (d : Int)) = false := decide_eq_false (by omega)
              have HCX := Lib.hid (show NewCols wo.heap.size wr u7 (ext key d L (n + 1)) by rw [HEX.out, ← hed]; rw [hed]; rw [hed] at HCE; exact HCE.out)
              go_wp2
              go_roundw
              case rel => exact ⟨n + 1, by omega, by go_num, HCX.out, HBE.out⟩
              case measure => simp [intOf]; omega
        · have hnl : n = L.length := by omega
          have HCX := Lib.hid (show NewCols wo.heap.size wr u7 (cls d (key + 1)) by rw [cls, HL.out, ← hnl]; exact HCN.out)
          have HBX := Lib.hid (HB.out.trans (HBN.out.mono HB.out.size))
          have HXX := Lib.hid (And.intro ((HBN.out.block _ (lt_of_block H0.out)).trans H0.out) ((HBN.out.block _ (lt_of_block H1.out)).trans H1.out))
          have hsx := HBN.out.size
          go_wp2
          go_roundw
          case rel => exact ⟨key + 1, by omega, by go_num, HCX.out.mono (by omega), HBX.out, by omega, HXX.out.1, HXX.out.2⟩
          case measure => simp [intOf]; omega
    · have hkk : key = k := by omega
      subst hkk
      obtain ⟨hg1, hg2, -⟩ := good_cls (k := key) (d := d) (by omega) hd hd4
      obtain ⟨ao, b, cap, hv, hat, hbb, hcap, hth⟩ := HC.out.at
      have hbb := hbb hg1
      have HDL := Lib.hid (delete_any key d (cls d key) u5 (w.heap.size + 2) w.heap.size (w.heap.size + 1) wr hg1 (by omega) ⟨ao, b, cap, hv, hat, hbb, hcap, hth⟩ hsz (by rw [cell_of_row _ _ _ _ _ _ H0.out]; rfl) (by rw [cell_of_row _ _ _ _ _ _ H1.out]; rfl) (by omega) (by omega))
      clear hat hth hv
      go_wp2_with fail
      refine (HDL.out).mono ?_
      rintro e w2 ⟨⟨ao', b', cap', rfl, hat⟩, hb⟩
      have HA := Lib.hid hat
      have HB2 := Lib.hid (HB.out.trans (hb.mono (by omega)))
      clear hat hb
      go_wp2
      go_ret
      exact ⟨⟨ao', b', cap', rfl, HA.out⟩, HB2.out⟩

end Go.Proofs.Ytjibdolhipddbaa

/- Colourings as keys of a map. -/
namespace Go.Proofs.Ytjibdolhipddbaa
open Go.RowKit Go.Maps

theorem laidOut' : laidOutB Try.prog = true := by kernel_rfl
theorem rowCol : (84 : TypeId) < Try.prog.types.size := of_decide_eq_true (by kernel_rfl)
theorem wideCol : (match Try.prog.underlying 84 with | some (.array _ _) | some (.struct _) => true | _ => false) = true := by rw [Try.underlying84]
set_option maxRecDepth 100000 in
theorem typeAtCol : Try.prog.keyTypeAt 2 84 = true := by kernel_rfl
set_option maxRecDepth 100000 in
theorem keyTypeCol : Try.prog.keyType 84 = true := by kernel_rfl
set_option maxRecDepth 100000 in
theorem lawCol : Keyed Try.prog 84 := Keyed.of_law (deep_law_laid laidOut' (m := 2) (by omega) rowCol typeAtCol wideCol)
theorem cellsCol : Try.prog.cellsOf 84 = 6 := by kernel_rfl
theorem cells3 : Try.prog.cellsOf 3 = 1 := by kernel_rfl

/-- What a colouring reads as, as a key. -/
def kc (c : Nat → Int) : Lit := .string (keyBytes [.int .i64 (c 0), .int .i64 (c 1), .int .i64 (c 2), .int .i64 (c 3), .int .i64 (c 4), .int .i64 (c 5)])
theorem lits_int (d : Nat) {x : Int} (h : 0 ≤ x ∧ x ≤ 4) : Try.prog.keyLits (d + 1) 3 [.int .i64 x] = some [.int .i64 x] := by
  unfold Program.keyLits
  simp only [Try.underlying3]
  simp [WalkArith.wf_i64 (n := x) (by omega)]
theorem lits_col (d : Nat) (c : Nat → Int) (h : ∀ i, i < 6 → 0 ≤ c i ∧ c i ≤ 4) : Try.prog.keyLits (d + 2) 84 (colC c).toList = some [.int .i64 (c 0), .int .i64 (c 1), .int .i64 (c 2), .int .i64 (c 3), .int .i64 (c 4), .int .i64 (c 5)] := by
  unfold Program.keyLits
  simp only [Try.underlying84]
  rw [if_pos (by rw [cellsCol, colC_list, colL_len]), cells3]
  have e : (colC c).toList = [.int .i64 (c 0), .int .i64 (c 1), .int .i64 (c 2), .int .i64 (c 3), .int .i64 (c 4), .int .i64 (c 5)] := rfl
  rw [e, show List.range 6 = [0, 1, 2, 3, 4, 5] from rfl]
  simp [lits_int d (h 0 (by omega)), lits_int d (h 1 (by omega)), lits_int d (h 2 (by omega)), lits_int d (h 3 (by omega)), lits_int d (h 4 (by omega)), lits_int d (h 5 (by omega))]
theorem keyOf_col (c : Nat → Int) (h : ∀ i, i < 6 → 0 ≤ c i ∧ c i ≤ 4) : keyOf Try.prog 84 (.agg (colC c)) = some (kc c) := by
  unfold keyOf
  rw [Try.underlying84]
  simp only
  have hf : (Value.agg (colC c)).formed Try.prog 84 = true := by simp [Value.formed, Try.underlying84, cellsCol, colC_size]
  rw [keyTypeCol, hf]
  have hs : 0 < Try.prog.types.size := Nat.lt_of_le_of_lt (Nat.zero_le _) rowCol
  obtain ⟨m, hm⟩ : ∃ m, Try.prog.types.size + 1 = m + 2 := ⟨Try.prog.types.size - 1, by omega⟩
  rw [hm, show (Value.agg (colC c)).cells = colC c from rfl, lits_col m c h]
  rfl
theorem kc_inj {c d : Nat → Int} (hc : ∀ i, i < 6 → 0 ≤ c i ∧ c i ≤ 4) (hd : ∀ i, i < 6 → 0 ≤ d i ∧ d i ≤ 4) (h : kc c = kc d) : colC c = colC d := by
  have := lawCol.inj (keyOf_col c hc) (by rw [h]; exact keyOf_col d hd)
  injection this
theorem colC_inj {c d : Nat → Int} (h : colC c = colC d) {i : Nat} (hi : i < 6) : c i = d i := by
  have h1 : (colC c)[i]? = some (.int .i64 (c i)) := ofN_get _ hi
  rw [h] at h1
  have h2 : (colC d)[i]? = some (.int .i64 (d i)) := ofN_get _ hi
  rw [h2] at h1
  injection h1 with h1
  injection h1 with _ h1
  exact h1.symm

end Go.Proofs.Ytjibdolhipddbaa

/- A search: the colourings, and what each stops. -/
namespace Go.Proofs.Ytjibdolhipddbaa
open Go.RowKit Go.Maps

noncomputable abbrev RS : Value → Option (DataW Unit × List MemPlace) := plainElem Try.prog 61

/-- The map has what each of the first n colourings stops. -/
def Has (k l : Nat) (f : Nat → Bool) (X : List (List Int)) (n : Nat) (D : DataW Unit) : Prop := ∀ q, q < n → D.atKey (kc (nth (row X q))) (.lit (.int .u64 0)) = .lit (.int .u64 ((S36 (stF k l f (nth (row X q))) : Nat) : Int))

structure SearchAt (w : World) (v : Value) (k l d : Nat) (f : Nat → Bool) : Prop where
  ex : ∃ ao b cap mb D, v = .agg #[.slice ao (clsL k d).length cap, .map (some mb)] ∧ ColsAt w ao b 0 (clsL k d) ∧ w.ownsMap Try.prog 84 RS mb (clsL k d).length D ∧ Has k l f (clsL k d) (clsL k d).length D

theorem map_below {B M : Nat} {w w' : World} {b n : Nat} {D : DataW Unit} (h : w.ownsMap Try.prog 84 RS b n D) (hb : Below M w w') (hM : b < M) (hB : B = B) : w'.ownsMap Try.prog 84 RS b n D := by
  obtain ⟨es, clock, h1, h2⟩ := h
  exact ⟨es, clock, (hb.block _ hM).trans h1, h2⟩
theorem SearchAt.below {M : Nat} {w w' : World} {v : Value} {k l d : Nat} {f : Nat → Bool} (h : SearchAt w v k l d f) (hb : Below M w w') (hM : w.heap.size ≤ M) : SearchAt w' v k l d f := by
  obtain ⟨ao, b, cap, mb, D, h1, h2, h3, h4⟩ := h.ex
  have := h3.lt
  exact ⟨ao, b, cap, mb, D, h1, h2.below hb hM, map_below h3 hb (by omega) (rfl : 0 = 0), h4⟩

theorem clsL_good {k d : Nat} (hk : k ≤ 6) (hd : 1 ≤ d) (hd4 : d ≤ 4) : (clsL k d).length ≤ 4096 ∧ ∀ q, q < (clsL k d).length → ∀ i, i < 6 → 0 ≤ nth (row (clsL k d) q) i ∧ nth (row (clsL k d) q) i ≤ 4 := by
  obtain ⟨-, h2, h3⟩ := good_cls hk hd hd4
  have hl : (clsL k d).length ≤ (cls d k).length := flt_len _ _ _ _
  refine ⟨by omega, fun q hq => ?_⟩
  have hm : row (clsL k d) q ∈ clsL k d := by unfold row; rw [List.getD_eq_getElem?_getD, List.getElem?_eq_getElem hq]; exact List.getElem_mem hq
  have hm2 : row (clsL k d) q ∈ cls d k := List.mem_of_mem_take (List.mem_filter.1 hm).1
  exact (h3 _ hm2).2

theorem stF_congr {k l : Nat} {f : Nat → Bool} {c d : Nat → Int} (hk : k ≤ 6) (h : colC c = colC d) : S36 (stF k l f c) = S36 (stF k l f d) := S36_congr fun n hn => by
  unfold stF
  by_cases e : n / 6 < k
  · rw [show decide (PinF k f c (n % 6) (c (n / 6))) = decide (PinF k f d (n % 6) (d (n / 6))) from decide_eq_decide.2 ⟨fun ⟨o, h1, h2, h3⟩ => ⟨o, h1, h2, by rw [← colC_inj h (show o < 6 by omega), ← colC_inj h (show n / 6 < 6 by omega)]; exact h3⟩,
      fun ⟨o, h1, h2, h3⟩ => ⟨o, h1, h2, by rw [colC_inj h (show o < 6 by omega), colC_inj h (show n / 6 < 6 by omega)]; exact h3⟩⟩]
  · rw [decide_eq_false e]; rfl

theorem has_put {k l : Nat} {f : Nat → Bool} {X : List (List Int)} {n : Nat} {D : DataW Unit} (hk : k ≤ 6) (hD : IsMap D) (hX : ∀ q, q < X.length → ∀ i, i < 6 → 0 ≤ nth (row X q) i ∧ nth (row X q) i ≤ 4) (hn : n < X.length) (h : Has k l f X n D) :
    Has k l f X (n + 1) (D.put (kc (nth (row X n))) (.lit (.int .u64 ((S36 (stF k l f (nth (row X n))) : Nat) : Int)))) := by
  intro q hq
  by_cases e : kc (nth (row X q)) = kc (nth (row X n))
  · rw [e, atKey_put_same hD (lawCol.key (keyOf_col _ (hX n hn))), stF_congr hk (kc_inj (hX q (by omega)) (hX n hn) e)]
  · rw [atKey_put_other e]
    exact h q (by
      by_cases e2 : q = n
      · exact absurd (by rw [e2]) e
      · omega)

theorem step_put {ops : Array Oper} {o : Oper} {a : Act} {W : World} {K : Act → World → Prop} {Q : Exit → Act → World → Prop} {E : Prop} (hgd : o.guard = none) (m x v : Operand)
    (ho : o.op = Op.mapUpdate 69 m x v) (mb n : Nat) (D : DataW Unit) (hown : W.ownsMap Try.prog 84 RS mb n D) (hn : n ≤ 4096) (c : Nat → Int) (hc : ∀ i, i < 6 → 0 ≤ c i ∧ c i ≤ 4) (g : Nat → Bool)
    (hm : a.eval m = .map (some mb)) (hx : a.eval x = .agg (colC c)) (hv : a.eval v = .int .u64 (S36 g : Nat))
    (h : ∀ w', w'.ownsMap Try.prog 84 RS mb (n + 1) (D.put (kc c) (.lit (.int .u64 (S36 g : Nat)))) → W.grownBy w' (some mb) → K (a.put o.dst undef) w') :
    if Region.wanted o (yielded ops a.tmps) = true then Oper.wp Try.prog o a W K Q else E := by
  have hw : Region.wanted o (yielded ops a.tmps) = true := by simp [Region.wanted, hgd]
  rw [if_pos hw]
  have hlt := S36_lt g
  obtain ⟨w', hrun, r1, r2⟩ := hown.update lawCol Try.underlying69 (by unfold maxLen; omega) (keyOf_col c hc) (plainElem_int (H := Unit) Try.underlying61 (a := (S36 g : Nat)) (by simp [Lit.wf, IntKind.min, IntKind.max, IntKind.signed, IntKind.bits]; omega))
  unfold Oper.wp
  simp [execOp, ho, hm, hx, hv, hrun, Result.andThen]
  exact h w' r1 r2

end Go.Proofs.Ytjibdolhipddbaa
