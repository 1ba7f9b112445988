import Derived.Test.YtjpklncfmbjicaaDoorK17
import Derived.Test.YtjpklncfmbjicaaDoorRows
import Derived.ProofKit
import Derived.OpenShut
import Derived.Deep.DeepHandedRow
import Derived.Lib.LaidTab
import Derived.Deep.Slices
namespace Go.Proofs.YtjpklncfmbjicaaDoor
open Go.RowKit Go.Shelf
set_option linter.unusedVariables false

theorem info5_byte : (Tryd.prog.info? 5).map (fun i => (i.zero, i.size, i.bytes)) = some (some (.int .u8 0), 1, 1) := by kernel_rfl
attribute [local go_sem] Oper.semAt_some
def AtQ (w : World) (ts : Int) (e : Ending) (w' : World) : Prop := e = .returned (.agg (atD (.slice (some ⟨w.heap.size + 1, 0, none⟩) 1 1) (.slice (some ⟨w.heap.size + 2, 0, none⟩) 1 1) (.slice (some ⟨w.heap.size + 3, 0, none⟩) 1 1) ts).cells) ∧ EntD.Ok w' (atD (.slice (some ⟨w.heap.size + 1, 0, none⟩) 1 1) (.slice (some ⟨w.heap.size + 2, 0, none⟩) 1 1) (.slice (some ⟨w.heap.size + 3, 0, none⟩) 1 1) ts) ∧ Below w.heap.size w w'
set_option maxRecDepth 100000 in
set_option maxHeartbeats 1000000 in
theorem at_any2 (ts : Int) (w : World) : Calls Tryd.prog 20 #[.int .i64 ts] w fun e w' => AtQ w ts e w' := by
  have k1 := Joins.run_convert_bytes_const_at (P := Tryd.prog) (w.alloc (.cells zD.cells 37)) 24 5 #[.int .u8 114] 1 1 (w.heap.size + 1) (by simp) und_bytes und_byte
  have k2 := Joins.run_convert_bytes_const_at (P := Tryd.prog) ((w.alloc (.cells zD.cells 37)).alloc (.cells #[.int .u8 114] 5 (1, 2))) 24 5 #[.int .u8 113] 1 1 (w.heap.size + 2) (by simp) und_bytes und_byte
  have k3 := Joins.run_convert_bytes_const_at (P := Tryd.prog) (((w.alloc (.cells zD.cells 37)).alloc (.cells #[.int .u8 114] 5 (1, 2))).alloc (.cells #[.int .u8 113] 5 (1, 2))) 24 5 #[.int .u8 118] 1 1 (w.heap.size + 3) (by simp) und_bytes und_byte
  simp only [zD, EntD.cells, List.size_toArray, List.length_cons, List.length_nil, Nat.zero_add] at k1 k2 k3
  obtain ⟨w4, hw4, bx, d2, d3, d4, bel⟩ := three w (atD (.slice (some ⟨w.heap.size + 1, 0, none⟩) 1 1) (.slice (some ⟨w.heap.size + 2, 0, none⟩) 1 1) (.slice (some ⟨w.heap.size + 3, 0, none⟩) 1 1) ts)
  have HF : Hid (_ ∧ _ ∧ _ ∧ _ ∧ _ ∧ _) := ⟨hw4, bx, d2, d3, d4, bel⟩
  clear bx d2 d3 d4 bel hw4
  simp only [atD, EntD.cells] at HF
  go_enter Tryd.func20, Tryd.ntmps20
  go_wp2
  clear k1 k2 k3
  obtain ⟨hw4, bx, d2, d3, d4, bel⟩ := HF.out
  clear HF
  rw [← hw4]
  have y0 := bx.vr
  have y1 := bx.fam
  have y2 := bx.vq
  have y3 := bx.ts
  have y4 := bx.seq
  have y5 := bx.kind
  have y6 := bx.vv
  simp only at y0 y1 y2 y3 y4 y5 y6
  refine bodyPost_ret (v := .agg (atD (.slice (some ⟨w.heap.size + 1, 0, none⟩) 1 1) (.slice (some ⟨w.heap.size + 2, 0, none⟩) 1 1) (.slice (some ⟨w.heap.size + 3, 0, none⟩) 1 1) ts).cells) (by simp [results, Tryd.results20, go_sem, y0, y1, y2, y3, y4, y5, y6, atD, EntD.cells]) rfl ?_
  exact ⟨rfl, ⟨rd_one d2 (by decide), rd_one d3 (by decide), rd_one d4 (by decide)⟩, bel⟩

theorem last_one (Y : World) (p1 p2 : Nat) (ts : Int) (sz : Nat) (hsz : sz ≤ 4096) : ∃ X, X = (Y.alloc (.cells #[.slice (some ⟨p1, 0, none⟩) 1 1, .int .i64 0, .slice (some ⟨p2, 0, none⟩) 1 1, .int .i64 ts, .int .i64 32, .int .i64 1, .slice (some ⟨Y.heap.size + 1, 0, none⟩) sz sz] 37)).alloc (.cells (madeCells #[.int .u8 0] sz) 5) ∧ EBox X Y.heap.size (aeD (.slice (some ⟨p1, 0, none⟩) 1 1) (.slice (some ⟨p2, 0, none⟩) 1 1) (.slice (some ⟨Y.heap.size + 1, 0, none⟩) sz sz) ts (List.replicate sz 0)) ∧ Below Y.heap.size Y X ∧ Rd X (.slice (some ⟨Y.heap.size + 1, 0, none⟩) sz sz) (List.replicate sz 0) := by
  have A1 := (Below.refl Y.heap.size Y).alloc (Nat.le_refl _) (.cells #[.slice (some ⟨p1, 0, none⟩) 1 1, .int .i64 0, .slice (some ⟨p2, 0, none⟩) 1 1, .int .i64 ts, .int .i64 32, .int .i64 1, .slice (some ⟨Y.heap.size + 1, 0, none⟩) sz sz] 37)
  refine ⟨_, rfl, ?_, A1.alloc A1.size _, ?_⟩
  · exact (EBox.new Y (aeD (.slice (some ⟨p1, 0, none⟩) 1 1) (.slice (some ⟨p2, 0, none⟩) 1 1) (.slice (some ⟨Y.heap.size + 1, 0, none⟩) sz sz) ts (List.replicate sz 0))).later ((Below.refl _ _).alloc (Nat.le_refl _) _)
  · have := made_rd (Y.alloc (.cells #[.slice (some ⟨p1, 0, none⟩) 1 1, .int .i64 0, .slice (some ⟨p2, 0, none⟩) 1 1, .int .i64 ts, .int .i64 32, .int .i64 1, .slice (some ⟨Y.heap.size + 1, 0, none⟩) sz sz] 37)) sz (by omega)
    simpa using this
theorem last_two (Y : World) (p1 p2 : Nat) (ts : Int) (sz tl : Nat) (htl : tl ≤ 4096) : ∃ X, X = ((Y.alloc (.cells #[.slice (some ⟨p1, 0, none⟩) 1 1, .int .i64 0, .slice (some ⟨p2, 0, none⟩) 1 1, .int .i64 ts, .int .i64 32, .int .i64 1, .slice (some ⟨Y.heap.size + 1 + 1, 0, none⟩) tl tl] 37)).alloc (.cells (madeCells #[.int .u8 0] sz) 5)).alloc (.cells (madeCells #[.int .u8 0] tl) 5) ∧ EBox X Y.heap.size (aeD (.slice (some ⟨p1, 0, none⟩) 1 1) (.slice (some ⟨p2, 0, none⟩) 1 1) (.slice (some ⟨Y.heap.size + 1 + 1, 0, none⟩) tl tl) ts (List.replicate tl 0)) ∧ Below Y.heap.size Y X ∧ Rd X (.slice (some ⟨Y.heap.size + 1 + 1, 0, none⟩) tl tl) (List.replicate tl 0) := by
  have A1 := (Below.refl Y.heap.size Y).alloc (Nat.le_refl _) (.cells #[.slice (some ⟨p1, 0, none⟩) 1 1, .int .i64 0, .slice (some ⟨p2, 0, none⟩) 1 1, .int .i64 ts, .int .i64 32, .int .i64 1, .slice (some ⟨Y.heap.size + 1 + 1, 0, none⟩) tl tl] 37)
  have A2 := A1.alloc A1.size (.cells (madeCells #[.int .u8 0] sz) 5)
  refine ⟨_, rfl, ?_, A2.alloc A2.size _, ?_⟩
  · exact ((EBox.new Y (aeD (.slice (some ⟨p1, 0, none⟩) 1 1) (.slice (some ⟨p2, 0, none⟩) 1 1) (.slice (some ⟨Y.heap.size + 1 + 1, 0, none⟩) tl tl) ts (List.replicate tl 0))).later ((Below.refl _ _).alloc (Nat.le_refl _) _)).later ((Below.refl _ _).alloc (Nat.le_refl _) _)
  · have := made_rd ((Y.alloc (.cells #[.slice (some ⟨p1, 0, none⟩) 1 1, .int .i64 0, .slice (some ⟨p2, 0, none⟩) 1 1, .int .i64 ts, .int .i64 32, .int .i64 1, .slice (some ⟨Y.heap.size + 1 + 1, 0, none⟩) tl tl] 37)).alloc (.cells (madeCells #[.int .u8 0] sz) 5)) tl (by omega)
    simpa using this
theorem zeros5 (n : Nat) : Bys (List.replicate n 0) := by intro x hx; rw [List.mem_replicate] at hx; omega
set_option maxRecDepth 100000 in
set_option maxHeartbeats 8000000 in
theorem blockLong_in {W : World} (r n sz tl : Nat) (ht : Tab W) (hr : 1 ≤ r ∧ r ≤ 16) (hn : n ≤ 200) (hsz : sz ≤ 4096) (htl : tl ≤ 4096) :
    Calls Tryd.prog 6 #[.int .i64 (r : Int), .int .i64 (n : Int), .int .i64 (sz : Int), .int .i64 (tl : Int)] W fun x w' => x = .returned (.bool true) ∧ Below W.heap.size W w' := by
  have HT := Lib.hid ht
  have hr1 := hr.1
  have hr16 := hr.2
  have r1 : decide ((r : Int) < 1) = false := decide_eq_false (by omega)
  have r2 : decide ((16 : Int) < (r : Int)) = false := decide_eq_false (by omega)
  have n1 : decide ((n : Int) < 0) = false := decide_eq_false (by omega)
  have n2 : decide ((200 : Int) < (n : Int)) = false := decide_eq_false (by omega)
  have s1 : decide ((sz : Int) < 0) = false := decide_eq_false (by omega)
  have s2 : decide ((4096 : Int) < (sz : Int)) = false := decide_eq_false (by omega)
  have t1 : decide ((tl : Int) < 0) = false := decide_eq_false (by omega)
  have t2 : decide ((4096 : Int) < (tl : Int)) = false := decide_eq_false (by omega)
  have hmk1 := run_make_row' (P := Tryd.prog) 24 5 (.int .u8 0) 1 und_bytes info5_byte rfl .i64 .i64 sz (by omega) (by omega)
  have hmk2 := run_make_row' (P := Tryd.prog) 24 5 (.int .u8 0) 1 und_bytes info5_byte rfl .i64 .i64 tl (by omega) (by omega)
  have HTo := Lib.hid (told5_any W ht)
  clear ht hr
  go_enter Tryd.func6, Tryd.ntmps6
  go_wp2_with fail
  refine Calls.mono HTo.out ?_
  rintro z X1 ⟨rfl, b1⟩
  have HB1 := Lib.hid b1
  have HBg := Lib.hid (begin_any (r : Int) X1)
  clear b1 HTo
  go_wp2_with fail
  refine Calls.mono HBg.out ?_
  rintro z X2 ⟨b2, h | h⟩
  · exact absurd (by omega) h.1
  obtain ⟨-, g, hg, rfl, hbx⟩ := h
  have H0 : Hid (Lg X1 g r X2 0 [] (.slice none 0 0) (.slice none 0 0) (.slice none 0 0)) := Lg.start hg hbx b2
  have HGg := Lib.hid hg
  clear hg hbx b2 HBg r1 r2 n1 n2 s1 s2 t1 t2
  go_wp2
  go_loopw [11, 12, 13, 14, 15] (fun iv _ _ _ _ wr => ∃ k : Nat, k ≤ n ∧ iv = .int .i64 (k : Int) ∧ Hid (∃ kvs ve vp vl, Lg X1 g r wr k kvs ve vp vl)) (fun iv _ _ _ _ _ => n - (intOf iv).toNat)
  case atStart => exact ⟨0, Nat.zero_le _, rfl, [], _, _, _, H0.out⟩
  case round =>
    clear H0
    obtain ⟨k, hk, rfl, HU⟩ := hrel
    have k0 : (0 : Int) ≤ (k : Int) := by omega
    by_cases hlt : k < n
    · have hlt2 : (k : Int) < (n : Int) := by omega
      obtain ⟨kvs, ve, vp, vl, hlg⟩ := HU.out
      obtain ⟨ae, ce, rfl⟩ := own_form hlg.bd.es.2
      obtain ⟨ap, cp, rfl⟩ := own_form hlg.bd.ps.2
      have hbs := hlg.bd.size
      have hSz := size_any hlg.bd.box (by omega) (by omega)
      obtain ⟨wS, hwS⟩ : ∃ wS, (if (foldB r Bs.zero kvs).n = 0 then 0 else (foldB r Bs.zero kvs).es.length + (foldB r Bs.zero kvs).ps.length + 9) = wS := ⟨_, rfl⟩
      rw [hwS] at hSz
      have HSz := Lib.hid hSz
      have HLg := Lib.hid hlg
      have HWS := Lib.hid hwS
      have hwS17 : wS ≤ 131100 := by rw [← hwS]; split <;> omega
      clear hlg hSz hwS HU hbs
      go_wp2_with fail
      refine Calls.mono HSz.out ?_
      rintro z Y1 ⟨rfl, c1⟩
      have HLg1 := Lib.hid (HLg.out.later c1)
      have hts : (1000 : Int) - (k : Int) = (1000 - (k : Int)) := rfl
      clear HSz c1 HLg
      go_wp2_with fail
      refine Calls.mono (at_any2 (1000 - (k : Int)) Y1) ?_
      rintro z Y2 ⟨rfl, ok2, c2⟩
      obtain ⟨p1, hp1⟩ : ∃ p, Y1.heap.size + 1 = p := ⟨_, rfl⟩
      obtain ⟨p2, hp2⟩ : ∃ p, Y1.heap.size + 2 = p := ⟨_, rfl⟩
      obtain ⟨p3, hp3⟩ : ∃ p, Y1.heap.size + 3 = p := ⟨_, rfl⟩
      rw [hp1, hp2, hp3] at ok2 ⊢
      have HLg2 := Lib.hid (HLg1.out.later c2)
      have HOk2 : Hid (Rd Y2 (.slice (some ⟨p1, 0, none⟩) 1 1) [114] ∧ Rd Y2 (.slice (some ⟨p2, 0, none⟩) 1 1) [113]) := ⟨ok2.1, ok2.2.1⟩
      have HPp := Lib.hid (show Y1.heap.size < p1 ∧ Y1.heap.size < p2 ∧ Y1.heap.size ≤ Y2.heap.size from ⟨by omega, by omega, c2.size⟩)
      clear ok2 c2 hp1 hp2 hp3 hts
      simp only [atD, EntD.cells]
      by_cases hl : k + 1 = n
      · have hli : ((k : Int) == (n : Int) - 1) = true := by rw [beq_iff_eq]; omega
        obtain ⟨Xv, hXv, ebx, bXv, rdV⟩ := last_two Y2 p1 p2 (1000 - (k : Int)) sz tl htl
        go_upto_region 14 with fail
        rw [← hXv]
        have HBv := Lib.hid bXv
        have HBvW := Lib.hid (HLg2.out.bel.trans (bXv.mono HLg2.out.bel.size))
        have hLgv := HLg2.out.later bXv
        have he : ∀ wx, Fb Xv wx (bO g (.slice ae (foldB r Bs.zero kvs).es.length ce) (.slice ap (foldB r Bs.zero kvs).ps.length cp)) → EntD.Ok wx (aeD (.slice (some ⟨p1, 0, none⟩) 1 1) (.slice (some ⟨p2, 0, none⟩) 1 1) (.slice (some ⟨Y2.heap.size + 1 + 1, 0, none⟩) tl tl) (1000 - (k : Int)) (List.replicate tl 0)) := fun wx fx => by
          have hbO : ∀ q, bO g (.slice ae (foldB r Bs.zero kvs).es.length ce) (.slice ap (foldB r Bs.zero kvs).ps.length cp) q → q < Y1.heap.size := fun q hq => by
            rcases hq with rfl | hq | hq
            · exact (Array.getElem?_eq_some_iff.1 HLg1.out.bd.box).1
            · exact (HLg1.out.bd.es.2.lt q hq).2
            · exact (HLg1.out.bd.ps.2.lt q hq).2
          have hP := HPp.out
          refine ⟨(HOk2.out.1.later bXv).fb fx (fun q => by have := hbO _ q; omega), (HOk2.out.2.later bXv).fb fx (fun q => by have := hbO _ q; omega), rdV.fb fx (fun q => by have := hbO _ q; omega)⟩
        have hadd := add_any (e := aeD (.slice (some ⟨p1, 0, none⟩) 1 1) (.slice (some ⟨p2, 0, none⟩) 1 1) (.slice (some ⟨Y2.heap.size + 1 + 1, 0, none⟩) tl tl) (1000 - (k : Int)) (List.replicate tl 0)) hLgv.bd ⟨hr1, hr16⟩ hLgv.bel.size he
        have hkey : ¬ ordC (atK (1000 - (k : Int))) (foldB r Bs.zero kvs).la ≤ 0 := by
          have := HLg1.out.key (by omega)
          rw [ordC_swap (foldB r Bs.zero kvs).la (atK (1000 - (k : Int)))]
          omega
        have hchk : checkS (aeD (.slice (some ⟨p1, 0, none⟩) 1 1) (.slice (some ⟨p2, 0, none⟩) 1 1) (.slice (some ⟨Y2.heap.size + 1 + 1, 0, none⟩) tl tl) (1000 - (k : Int)) (List.replicate tl 0)) = 0 := ae_check _ _ _ _ _ (by omega) (by simp; omega)
        obtain ⟨x0, x1, x2, x3, x4, x5, x6⟩ := ebx.cells7
        simp only [aeD] at x0 x1 x2 x3 x4 x5 x6
        have hxz : Xv.heap.size ≤ Xv.heap.size := Nat.le_refl _
        have HEb := Lib.hid ebx
        by_cases hf : fullB r (foldB r Bs.zero kvs) (atK (1000 - (k : Int))) (List.replicate tl 0) = true
        · have e1 : addE r (foldB r Bs.zero kvs) (aeD (.slice (some ⟨p1, 0, none⟩) 1 1) (.slice (some ⟨p2, 0, none⟩) 1 1) (.slice (some ⟨Y2.heap.size + 1 + 1, 0, none⟩) tl tl) (1000 - (k : Int)) (List.replicate tl 0)) = (53, foldB r Bs.zero kvs) := by
            unfold addE
            rw [if_neg (fun q => q hchk)]
            rw [if_neg (by rw [aeD_key]; exact hkey), if_pos (by rw [aeD_key]; exact hf)]
          have hfull := hLgv.full (List.replicate tl 0) (by simp; omega) (1000 - (k : Int)) hf
          unfold AddP at hadd
          rw [e1] at hadd
          simp only [aeD, EntD.cells] at hadd
          have HAd := Lib.hid hadd
          have hwfull : Hid (wS = (foldB r Bs.zero kvs).es.length + (foldB r Bs.zero kvs).ps.length + 9) := by
            unfold Hid
            rw [← HWS.out, if_neg]
            rw [foldB_n]
            intro q
            exact hfull.1 (List.eq_nil_of_length_eq_zero (by simp [Bs.zero] at q; simpa using q))
          have hwf2 : 131072 ≤ wS + tl + 64 := by rw [hwfull.out]; have := hfull.2; simp at this; omega
          have hkne := hfull.1
          clear hadd e1 hkey hchk he hf ebx rdV bXv hfull hXv hLgv
          go_wp2_with fail
          refine Calls.mono HAd.out ?_
          rintro z Y3 ⟨rfl, ⟨ve3, vp3, vl3, bd3⟩, bl3, fb3⟩
          have HB3 := Lib.hid (HBvW.out.trans bl3)
          obtain ⟨ae3, ce3, rfl⟩ := own_form bd3.es.2
          obtain ⟨ap3, cp3, rfl⟩ := own_form bd3.ps.2
          have hbs3 := bd3.size
          have hSz3 := size_any bd3.box (by omega) (by omega)
          rw [HWS.out] at hSz3
          have HSz3 := Lib.hid hSz3
          have hgx : ¬ bO g (.slice ae (foldB r Bs.zero kvs).es.length ce) (.slice ap (foldB r Bs.zero kvs).ps.length cp) Y2.heap.size := fun q => by
            have hP := HPp.out
            rcases q with q | q | q
            · have := (Array.getElem?_eq_some_iff.1 HLg1.out.bd.box).1; omega
            · have := (HLg1.out.bd.es.2.lt _ q).2; omega
            · have := (HLg1.out.bd.ps.2.lt _ q).2; omega
          have HEb3 := Lib.hid (HEb.out.fb fb3 hgx)
          have HBd3 := Lib.hid bd3
          have HLgn : Hid (Lg X1 g r Y3 (k + 1) kvs (.slice ae3 (foldB r Bs.zero kvs).es.length ce3) (.slice ap3 (foldB r Bs.zero kvs).ps.length cp3) vl3) := ⟨bd3, Nat.le_succ_of_le HLg1.out.len, fun _ => hkne, HLg1.out.ok, HLg1.out.up, (HLg1.out.la.imp id (fun ⟨j, q, w⟩ => ⟨j, by omega, w⟩)), HLg1.out.by_, HLg1.out.sz, HB3.out⟩
          clear bd3 bl3 fb3 hSz3 hgx hbs3 HAd x0 x1 x2 x3 x4 x5 x6
          go_wp2_with fail
          refine Calls.mono HSz3.out ?_
          rintro z Y4 ⟨rfl, c4⟩
          have HLg4 := Lib.hid (HLgn.out.later c4)
          have HEb4 := Lib.hid (HEb3.out.later c4)
          have hcnt := bcount_any HLg4.out.bd.box
          obtain ⟨cn, hcn⟩ : ∃ cn, (foldB r Bs.zero kvs).n = cn := ⟨_, rfl⟩
          rw [hcn] at hcnt
          have hcnk : ¬ k < cn := by
            rw [← hcn, foldB_n]
            have := HLg1.out.len
            simp [Bs.zero]
            omega
          have HCn := Lib.hid hcnt
          have y6 := HEb4.out.vv
          simp only [aeD] at y6
          have hww : ((wS : Int) != (wS : Int)) = false := by simp
          have hwi : decide ((wS : Int) + (tl : Int) + 64 < 131072) = false := decide_eq_false (by omega)
          have HWf := Lib.hid hwf2
          clear c4 hcnt hcn HSz3 HLgn HEb3 hwf2
          go_wp2_with fail
          refine Calls.mono HCn.out ?_
          rintro z Y5 ⟨rfl, rfl⟩
          have HZ : Hid (∃ kvs ve vp vl, Lg X1 g r Y5 (k + 1) kvs ve vp vl) := ⟨_, _, _, _, HLg4.out⟩
          have HK1 : Hid (k + 1 ≤ n) := by unfold Hid; omega
          have HBn : Hid (k < 200 ∧ wS ≤ 131100 ∧ tl ≤ 4096) := by unfold Hid; omega
          clear HCn hmk1 hmk2 hwS17 hn hsz htl hr1 hr16 hk hlt hlt2 k0 hl hli
          clear hxz hkne hww hwi y6
          go_upto_region 18 with fail
          have y6 := HEb4.out.vv
          simp only [aeD] at y6
          go_wp2
          · exfalso
            rename_i hlow
            have hb := HBn.out
            have hw := HWf.out
            have hq : wrap64 (wrap64 ((wS : Int) + (tl : Int)) + 64) = (wS : Int) + (tl : Int) + 64 := by unfold wrap64; omega
            rw [hq] at hlow
            omega
          · have hq : wrap64 ((k : Int) + 1) = ((k + 1 : Nat) : Int) := by have := HBn.out; unfold wrap64; omega
            rw [hq]
            refine ⟨⟨k + 1, HK1.out, rfl, HZ⟩, ?_⟩
            show n - ((k + 1 : Nat) : Int).toNat < n - (k : Int).toNat
            have := HK1.out
            omega
        · have e1 : addE r (foldB r Bs.zero kvs) (aeD (.slice (some ⟨p1, 0, none⟩) 1 1) (.slice (some ⟨p2, 0, none⟩) 1 1) (.slice (some ⟨Y2.heap.size + 1 + 1, 0, none⟩) tl tl) (1000 - (k : Int)) (List.replicate tl 0)) = (0, addB r (foldB r Bs.zero kvs) (atK (1000 - (k : Int))) (List.replicate tl 0)) := by
            unfold addE
            rw [if_neg (fun q => q hchk)]
            rw [if_neg (by rw [aeD_key]; exact hkey), if_neg (by rw [aeD_key]; exact hf)]
            rfl
          have hff : fullB r (foldB r Bs.zero kvs) (atK (1000 - (k : Int))) (List.replicate tl 0) = false := by simpa using hf
          unfold AddP at hadd
          rw [e1] at hadd
          simp only [aeD, EntD.cells] at hadd
          have HAd := Lib.hid hadd
          have HFf := Lib.hid hff
          clear hadd e1 hkey hchk he hf hff ebx rdV bXv hXv hLgv
          go_wp2_with fail
          refine Calls.mono HAd.out ?_
          rintro z Y3 ⟨rfl, ⟨ve3, vp3, vl3, bd3⟩, bl3, -⟩
          have HB3 := Lib.hid (HBvW.out.trans bl3)
          have HLgn := Lib.hid (HLg1.out.add (by omega) (zeros5 tl) (by simp; omega) HFf.out bd3 HB3.out)
          obtain ⟨ae3, ce3, rfl⟩ := own_form bd3.es.2
          obtain ⟨ap3, cp3, rfl⟩ := own_form bd3.ps.2
          have hbs3 := bd3.size
          have hSz3 := size_any bd3.box (by omega) (by omega)
          rw [if_neg (by simp [addB])] at hSz3
          obtain ⟨nS, hnS⟩ : ∃ nS, (addB r (foldB r Bs.zero kvs) (atK (1000 - (k : Int))) (List.replicate tl 0)).es.length + (addB r (foldB r Bs.zero kvs) (atK (1000 - (k : Int))) (List.replicate tl 0)).ps.length + 9 = nS := ⟨_, rfl⟩
          rw [hnS] at hSz3
          have HSz3 := Lib.hid hSz3
          have hnw : wS < nS := by
            rw [← hnS, ← HWS.out]
            have h1 := (uintL_len (shOf r (foldB r Bs.zero kvs) (atK (1000 - (k : Int))))).1
            have h2 : (foldB r Bs.zero kvs).ps.length ≤ (psOf r (foldB r Bs.zero kvs)).length := by unfold psOf; split <;> simp
            simp only [addB, esOf, recL, List.length_append]
            split <;> omega
          have hn17 : nS ≤ 131072 := by
            have := HFf.out
            unfold fullB at this
            rw [decide_eq_false_iff_not] at this
            rw [← hnS]
            simp only [addB]
            omega
          have hc1 : ¬ (nS : Int) ≤ (wS : Int) := by omega
          have hc2 : ¬ (131072 : Int) < (nS : Int) := by omega
          clear bd3 bl3 hSz3 hbs3 HAd x0 x1 x2 x3 x4 x5 x6 hnS
          go_wp2_with fail
          refine Calls.mono HSz3.out ?_
          rintro z Y4 ⟨rfl, c4⟩
          have HZ : Hid (∃ kvs ve vp vl, Lg X1 g r Y4 (k + 1) kvs ve vp vl) := ⟨_, _, _, _, HLgn.out.later c4⟩
          clear c4 HSz3 HLgn hnw hn17
          go_wp2
          exact ⟨⟨k + 1, by omega, by go_num, HZ⟩, by simp only [intOf]; omega⟩
      · have hli : ((k : Int) == (n : Int) - 1) = false := by rw [beq_eq_false_iff_ne]; omega
        obtain ⟨Xv, hXv, ebx, bXv, rdV⟩ := last_one Y2 p1 p2 (1000 - (k : Int)) sz hsz
        go_upto_region 14 with fail
        rw [← hXv]
        have HBv := Lib.hid bXv
        have HBvW := Lib.hid (HLg2.out.bel.trans (bXv.mono HLg2.out.bel.size))
        have hLgv := HLg2.out.later bXv
        have he : ∀ wx, Fb Xv wx (bO g (.slice ae (foldB r Bs.zero kvs).es.length ce) (.slice ap (foldB r Bs.zero kvs).ps.length cp)) → EntD.Ok wx (aeD (.slice (some ⟨p1, 0, none⟩) 1 1) (.slice (some ⟨p2, 0, none⟩) 1 1) (.slice (some ⟨Y2.heap.size + 1, 0, none⟩) sz sz) (1000 - (k : Int)) (List.replicate sz 0)) := fun wx fx => by
          have hbO : ∀ q, bO g (.slice ae (foldB r Bs.zero kvs).es.length ce) (.slice ap (foldB r Bs.zero kvs).ps.length cp) q → q < Y1.heap.size := fun q hq => by
            rcases hq with rfl | hq | hq
            · exact (Array.getElem?_eq_some_iff.1 HLg1.out.bd.box).1
            · exact (HLg1.out.bd.es.2.lt q hq).2
            · exact (HLg1.out.bd.ps.2.lt q hq).2
          have hP := HPp.out
          refine ⟨(HOk2.out.1.later bXv).fb fx (fun q => by have := hbO _ q; omega), (HOk2.out.2.later bXv).fb fx (fun q => by have := hbO _ q; omega), rdV.fb fx (fun q => by have := hbO _ q; omega)⟩
        have hadd := add_any (e := aeD (.slice (some ⟨p1, 0, none⟩) 1 1) (.slice (some ⟨p2, 0, none⟩) 1 1) (.slice (some ⟨Y2.heap.size + 1, 0, none⟩) sz sz) (1000 - (k : Int)) (List.replicate sz 0)) hLgv.bd ⟨hr1, hr16⟩ hLgv.bel.size he
        have hkey : ¬ ordC (atK (1000 - (k : Int))) (foldB r Bs.zero kvs).la ≤ 0 := by
          have := HLg1.out.key (by omega)
          rw [ordC_swap (foldB r Bs.zero kvs).la (atK (1000 - (k : Int)))]
          omega
        have hchk : checkS (aeD (.slice (some ⟨p1, 0, none⟩) 1 1) (.slice (some ⟨p2, 0, none⟩) 1 1) (.slice (some ⟨Y2.heap.size + 1, 0, none⟩) sz sz) (1000 - (k : Int)) (List.replicate sz 0)) = 0 := ae_check _ _ _ _ _ (by omega) (by simp; omega)
        obtain ⟨x0, x1, x2, x3, x4, x5, x6⟩ := ebx.cells7
        simp only [aeD] at x0 x1 x2 x3 x4 x5 x6
        have hxz : Xv.heap.size ≤ Xv.heap.size := Nat.le_refl _
        have HEb := Lib.hid ebx
        by_cases hf : fullB r (foldB r Bs.zero kvs) (atK (1000 - (k : Int))) (List.replicate sz 0) = true
        · have e1 : addE r (foldB r Bs.zero kvs) (aeD (.slice (some ⟨p1, 0, none⟩) 1 1) (.slice (some ⟨p2, 0, none⟩) 1 1) (.slice (some ⟨Y2.heap.size + 1, 0, none⟩) sz sz) (1000 - (k : Int)) (List.replicate sz 0)) = (53, foldB r Bs.zero kvs) := by
            unfold addE
            rw [if_neg (fun q => q hchk)]
            rw [if_neg (by rw [aeD_key]; exact hkey), if_pos (by rw [aeD_key]; exact hf)]
          have hfull := hLgv.full (List.replicate sz 0) (by simp; omega) (1000 - (k : Int)) hf
          unfold AddP at hadd
          rw [e1] at hadd
          simp only [aeD, EntD.cells] at hadd
          have HAd := Lib.hid hadd
          have hwfull : Hid (wS = (foldB r Bs.zero kvs).es.length + (foldB r Bs.zero kvs).ps.length + 9) := by
            unfold Hid
            rw [← HWS.out, if_neg]
            rw [foldB_n]
            intro q
            exact hfull.1 (List.eq_nil_of_length_eq_zero (by simp [Bs.zero] at q; simpa using q))
          have hwf2 : 131072 ≤ wS + sz + 64 := by rw [hwfull.out]; have := hfull.2; simp at this; omega
          have hkne := hfull.1
          clear hadd e1 hkey hchk he hf ebx rdV bXv hfull hXv hLgv
          go_wp2_with fail
          refine Calls.mono HAd.out ?_
          rintro z Y3 ⟨rfl, ⟨ve3, vp3, vl3, bd3⟩, bl3, fb3⟩
          have HB3 := Lib.hid (HBvW.out.trans bl3)
          obtain ⟨ae3, ce3, rfl⟩ := own_form bd3.es.2
          obtain ⟨ap3, cp3, rfl⟩ := own_form bd3.ps.2
          have hbs3 := bd3.size
          have hSz3 := size_any bd3.box (by omega) (by omega)
          rw [HWS.out] at hSz3
          have HSz3 := Lib.hid hSz3
          have hgx : ¬ bO g (.slice ae (foldB r Bs.zero kvs).es.length ce) (.slice ap (foldB r Bs.zero kvs).ps.length cp) Y2.heap.size := fun q => by
            have hP := HPp.out
            rcases q with q | q | q
            · have := (Array.getElem?_eq_some_iff.1 HLg1.out.bd.box).1; omega
            · have := (HLg1.out.bd.es.2.lt _ q).2; omega
            · have := (HLg1.out.bd.ps.2.lt _ q).2; omega
          have HEb3 := Lib.hid (HEb.out.fb fb3 hgx)
          have HBd3 := Lib.hid bd3
          have HLgn : Hid (Lg X1 g r Y3 (k + 1) kvs (.slice ae3 (foldB r Bs.zero kvs).es.length ce3) (.slice ap3 (foldB r Bs.zero kvs).ps.length cp3) vl3) := ⟨bd3, Nat.le_succ_of_le HLg1.out.len, fun _ => hkne, HLg1.out.ok, HLg1.out.up, (HLg1.out.la.imp id (fun ⟨j, q, w⟩ => ⟨j, by omega, w⟩)), HLg1.out.by_, HLg1.out.sz, HB3.out⟩
          clear bd3 bl3 fb3 hSz3 hgx hbs3 HAd x0 x1 x2 x3 x4 x5 x6
          go_wp2_with fail
          refine Calls.mono HSz3.out ?_
          rintro z Y4 ⟨rfl, c4⟩
          have HLg4 := Lib.hid (HLgn.out.later c4)
          have HEb4 := Lib.hid (HEb3.out.later c4)
          have hcnt := bcount_any HLg4.out.bd.box
          obtain ⟨cn, hcn⟩ : ∃ cn, (foldB r Bs.zero kvs).n = cn := ⟨_, rfl⟩
          rw [hcn] at hcnt
          have hcnk : ¬ k < cn := by
            rw [← hcn, foldB_n]
            have := HLg1.out.len
            simp [Bs.zero]
            omega
          have HCn := Lib.hid hcnt
          have y6 := HEb4.out.vv
          simp only [aeD] at y6
          have hww : ((wS : Int) != (wS : Int)) = false := by simp
          have hwi : decide ((wS : Int) + (sz : Int) + 64 < 131072) = false := decide_eq_false (by omega)
          have HWf := Lib.hid hwf2
          clear c4 hcnt hcn HSz3 HLgn HEb3 hwf2
          go_wp2_with fail
          refine Calls.mono HCn.out ?_
          rintro z Y5 ⟨rfl, rfl⟩
          have HZ : Hid (∃ kvs ve vp vl, Lg X1 g r Y5 (k + 1) kvs ve vp vl) := ⟨_, _, _, _, HLg4.out⟩
          have HK1 : Hid (k + 1 ≤ n) := by unfold Hid; omega
          have HBn : Hid (k < 200 ∧ wS ≤ 131100 ∧ sz ≤ 4096) := by unfold Hid; omega
          clear HCn hmk1 hmk2 hwS17 hn hsz htl hr1 hr16 hk hlt hlt2 k0 hl hli
          clear hxz hkne hww hwi y6
          go_upto_region 18 with fail
          have y6 := HEb4.out.vv
          simp only [aeD] at y6
          go_wp2
          · exfalso
            rename_i hlow
            have hb := HBn.out
            have hw := HWf.out
            have hq : wrap64 (wrap64 ((wS : Int) + (sz : Int)) + 64) = (wS : Int) + (sz : Int) + 64 := by unfold wrap64; omega
            rw [hq] at hlow
            omega
          · have hq : wrap64 ((k : Int) + 1) = ((k + 1 : Nat) : Int) := by have := HBn.out; unfold wrap64; omega
            rw [hq]
            refine ⟨⟨k + 1, HK1.out, rfl, HZ⟩, ?_⟩
            show n - ((k + 1 : Nat) : Int).toNat < n - (k : Int).toNat
            have := HK1.out
            omega
        · have e1 : addE r (foldB r Bs.zero kvs) (aeD (.slice (some ⟨p1, 0, none⟩) 1 1) (.slice (some ⟨p2, 0, none⟩) 1 1) (.slice (some ⟨Y2.heap.size + 1, 0, none⟩) sz sz) (1000 - (k : Int)) (List.replicate sz 0)) = (0, addB r (foldB r Bs.zero kvs) (atK (1000 - (k : Int))) (List.replicate sz 0)) := by
            unfold addE
            rw [if_neg (fun q => q hchk)]
            rw [if_neg (by rw [aeD_key]; exact hkey), if_neg (by rw [aeD_key]; exact hf)]
            rfl
          have hff : fullB r (foldB r Bs.zero kvs) (atK (1000 - (k : Int))) (List.replicate sz 0) = false := by simpa using hf
          unfold AddP at hadd
          rw [e1] at hadd
          simp only [aeD, EntD.cells] at hadd
          have HAd := Lib.hid hadd
          have HFf := Lib.hid hff
          clear hadd e1 hkey hchk he hf hff ebx rdV bXv hXv hLgv
          go_wp2_with fail
          refine Calls.mono HAd.out ?_
          rintro z Y3 ⟨rfl, ⟨ve3, vp3, vl3, bd3⟩, bl3, -⟩
          have HB3 := Lib.hid (HBvW.out.trans bl3)
          have HLgn := Lib.hid (HLg1.out.add (by omega) (zeros5 sz) (by simp; omega) HFf.out bd3 HB3.out)
          obtain ⟨ae3, ce3, rfl⟩ := own_form bd3.es.2
          obtain ⟨ap3, cp3, rfl⟩ := own_form bd3.ps.2
          have hbs3 := bd3.size
          have hSz3 := size_any bd3.box (by omega) (by omega)
          rw [if_neg (by simp [addB])] at hSz3
          obtain ⟨nS, hnS⟩ : ∃ nS, (addB r (foldB r Bs.zero kvs) (atK (1000 - (k : Int))) (List.replicate sz 0)).es.length + (addB r (foldB r Bs.zero kvs) (atK (1000 - (k : Int))) (List.replicate sz 0)).ps.length + 9 = nS := ⟨_, rfl⟩
          rw [hnS] at hSz3
          have HSz3 := Lib.hid hSz3
          have hnw : wS < nS := by
            rw [← hnS, ← HWS.out]
            have h1 := (uintL_len (shOf r (foldB r Bs.zero kvs) (atK (1000 - (k : Int))))).1
            have h2 : (foldB r Bs.zero kvs).ps.length ≤ (psOf r (foldB r Bs.zero kvs)).length := by unfold psOf; split <;> simp
            simp only [addB, esOf, recL, List.length_append]
            split <;> omega
          have hn17 : nS ≤ 131072 := by
            have := HFf.out
            unfold fullB at this
            rw [decide_eq_false_iff_not] at this
            rw [← hnS]
            simp only [addB]
            omega
          have hc1 : ¬ (nS : Int) ≤ (wS : Int) := by omega
          have hc2 : ¬ (131072 : Int) < (nS : Int) := by omega
          clear bd3 bl3 hSz3 hbs3 HAd x0 x1 x2 x3 x4 x5 x6 hnS
          go_wp2_with fail
          refine Calls.mono HSz3.out ?_
          rintro z Y4 ⟨rfl, c4⟩
          have HZ : Hid (∃ kvs ve vp vl, Lg X1 g r Y4 (k + 1) kvs ve vp vl) := ⟨_, _, _, _, HLgn.out.later c4⟩
          clear c4 HSz3 HLgn hnw hn17
          go_wp2
          exact ⟨⟨k + 1, by omega, by go_num, HZ⟩, by simp only [intOf]; omega⟩
    · have hge : ¬ (k : Int) < (n : Int) := by omega
      obtain rfl : k = n := by omega
      obtain ⟨kvs, ve, vp, vl, hlg⟩ := HU.out
      have HLg := Lib.hid hlg
      by_cases hk0 : k = 0
      · have hkv : kvs = [] := List.eq_nil_of_length_eq_zero (by have := hlg.len; omega)
        have hbx := hlg.bd.box
        rw [hkv] at hbx
        have HFn := Lib.hid (finish_none hbx)
        have HBe := Lib.hid (HB1.out.trans (hlg.bel.mono HB1.out.size))
        have hk0b : ((k : Int) == 0) = true := by rw [beq_iff_eq]; omega
        clear hlg hkv hbx HU hk0
        go_wp2_with fail
        refine Calls.mono HFn.out ?_
        rintro z Y1 ⟨rfl, rfl⟩
        clear HFn
        go_wp2
        go_ret
        exact ⟨rfl, HBe.out⟩
      · have hk0b : ((k : Int) == 0) = false := by rw [beq_eq_false_iff_ne]; omega
        have hla := hlg.blad hr1 hr16 (by omega)
        obtain ⟨ae, ce, rfl⟩ := own_form hlg.bd.es.2
        obtain ⟨ap, cp, rfl⟩ := own_form hlg.bd.ps.2
        have hbs := hlg.bd.size
        have hnn : (foldB r Bs.zero kvs).n = kvs.length := by rw [foldB_n]; simp [Bs.zero]
        have hkl : kvs.length ≤ 200 := by have := hlg.len; omega
        have hkp : 0 < kvs.length := by
          rcases Nat.eq_zero_or_pos kvs.length with q | q
          · exact absurd (List.eq_nil_of_length_eq_zero q) (hlg.some_ (by omega))
          · exact q
        have hby := hla.bys hlg.by_
        have HBe := Lib.hid (HB1.out.trans (hlg.bel.mono HB1.out.size))
        have hfn := finish_any hlg.bd.box (hlg.bd.es.rd hlg.bd.byE (by omega)) (hlg.bd.ps.rd hlg.bd.byP (by omega)) (by omega) (by omega) (by omega) (by omega) (by omega) (HT.out.later HBe.out) sumL_lt
        rw [hnn] at hfn
        obtain ⟨E, hE⟩ : ∃ E, E = (foldB r Bs.zero kvs).es := ⟨_, rfl⟩
        obtain ⟨P, hP⟩ : ∃ P, P = (foldB r Bs.zero kvs).ps := ⟨_, rfl⟩
        rw [← hE, ← hP] at hfn hla hby
        have HFn := Lib.hid hfn
        have HLa := Lib.hid (And.intro hla hby)
        have HEP := Lib.hid (And.intro hE (And.intro hP (And.intro hnn hkp)))
        have hmk3 := run_make_row' (P := Tryd.prog) 24 5 (.int .u8 0) 1 und_bytes info5_byte rfl .i64 .i64 131073 (by omega) (by omega)
        have e13 : ((131073 : Nat) : Int) = 131073 := rfl
        simp only [e13] at hmk3
        clear e13
        clear hfn hla hby hE hP hnn hbs hlg HU hk0 hmk1 hmk2
        go_wp2_with fail
        refine Calls.mono HFn.out ?_
        rintro z Y1 ⟨a1, m1, c1, rfl, own1, b1⟩
        have HLg1 := Lib.hid (HLg.out.later b1)
        have HBe1 := Lib.hid (HBe.out.trans (b1.mono HBe.out.size))
        have hm1 : m1 = E.length + P.length + 9 := by rw [own1.1, blockL_len]
        have HM1 := Lib.hid hm1
        have hm17 : m1 ≤ 131072 := by rw [hm1]; have := HLa.out.1.size; omega
        have HOp := Lib.hid (open_any (own1.rd HLa.out.2 (by omega)) (HT.out.later HBe1.out))
        clear own1 b1 hm1 HFn HBe HLg
        go_wp2_with fail
        refine Calls.mono HOp.out ?_
        rintro z Y2 ⟨b2, h⟩
        obtain ⟨o1, o2, o3, o4, o5⟩ := HLa.out.1.opens
        rcases h with h | h
        · exact absurd o1 h.1
        obtain ⟨-, g9, bb, ne, ce9, np, cp9, rfl, lk⟩ := h
        rw [o2, o3, o4, o5] at lk
        have HLk := Lib.hid lk
        have HLg2 := Lib.hid (HLg1.out.later b2)
        have HBe2 := Lib.hid (HBe1.out.trans (b2.mono HBe1.out.size))
        have rdL := made_rd Y2 131073 (by omega)
        have bY3 := (Below.refl Y2.heap.size Y2).alloc (Nat.le_refl _) (.cells (madeCells #[.int .u8 0] 131073) 5)
        obtain ⟨Y3, hY3⟩ : ∃ Y3, Y3 = Y2.alloc (.cells (madeCells #[.int .u8 0] 131073) 5) := ⟨_, rfl⟩
        rw [← hY3] at rdL bY3
        have HY3 := Lib.hid hY3
        have HBe3 := Lib.hid (HBe2.out.trans (bY3.mono HBe2.out.size))
        have HLg3 := Lib.hid (HLg2.out.later bY3)
        have HLk3 := Lib.hid (HLk.out.box.later bY3)
        have HOl := Lib.hid (open_any rdL (HT.out.later HBe3.out))
        clear lk b2 o1 o2 o3 o4 o5 HOp rdL bY3 hY3 HLg1 HLg2 HBe1 HBe2 HLk
        go_wp2_with fail
        rw [← HY3.out]
        clear HY3 hmk3
        refine Calls.mono HOl.out ?_
        rintro z Y4 ⟨b4, h⟩
        have h2 : opE (List.replicate 131073 0) = 2 := opE_long (by rw [List.length_replicate]; omega)
        rw [h2] at h
        rcases h with h | h
        · obtain ⟨-, rfl⟩ := h
          have HBe4 := Lib.hid (HBe3.out.trans (b4.mono HBe3.out.size))
          have HLg4 := Lib.hid (HLg3.out.later b4)
          have HLk4 := Lib.hid (HLk3.out.later b4)
          have hsz4 := size_any HLg4.out.bd.box (by have := HLg4.out.bd.size; omega) (by have := HLg4.out.bd.size; omega)
          rw [if_neg (by rw [HEP.out.2.2.1]; have := HEP.out.2.2.2; omega), ← HEP.out.1, ← HEP.out.2.1, ← HM1.out] at hsz4
          have HSz4 := Lib.hid hsz4
          clear b4 h2 hsz4 HOl HLg3 HLk3 HBe3
          go_wp2_with fail
          refine Calls.mono HSz4.out ?_
          rintro z Y5 ⟨rfl, b5⟩
          have HBe5 := Lib.hid (HBe4.out.trans (b5.mono HBe4.out.size))
          have HLg5 := Lib.hid (HLg4.out.later b5)
          have HLn := Lib.hid (len5_any (HLk4.out.later b5))
          clear b5 HSz4 HLg4 HLk4
          go_wp2_with fail
          refine Calls.mono HLn.out ?_
          rintro z Y6 ⟨rfl, rfl⟩
          have hct := bcount_any HLg5.out.bd.box
          rw [HEP.out.2.2.1] at hct
          have HCt := Lib.hid hct
          clear hct HLn
          go_wp2_with fail
          refine Calls.mono HCt.out ?_
          rintro z Y7 ⟨rfl, rfl⟩
          clear HCt
          go_wp2
          go_ret
          exact ⟨rfl, HBe5.out⟩
        · exact absurd h.1 (by decide)
end Go.Proofs.YtjpklncfmbjicaaDoor

namespace Go.Proofs.YtjpklncfmbjicaaDoor
open Go.RowKit Go.Shelf
set_option linter.unusedVariables false

set_option maxRecDepth 100000 in
set_option maxHeartbeats 4000000 in
theorem blockLong_off {W : World} (r n s t : Int) (ht : Tab W) (h : ¬ (1 ≤ r ∧ r ≤ 16 ∧ 0 ≤ n ∧ n ≤ 200 ∧ 0 ≤ s ∧ s ≤ 4096 ∧ 0 ≤ t ∧ t ≤ 4096)) :
    Calls Tryd.prog 6 #[.int .i64 r, .int .i64 n, .int .i64 s, .int .i64 t] W fun x w' => x = .returned (.bool true) ∧ Below W.heap.size W w' := by
  have HTo := Lib.hid (fun (wx : World) (hx : Below W.heap.size W wx) => told5_any wx (ht.later hx))
  clear ht
  go_enter Tryd.func6, Tryd.ntmps6
  go_wp2_with fail
  refine Calls.mono (HTo.out _ (Below.refl _ _)) ?_
  rintro z X1 ⟨rfl, b1⟩
  have HB1 := Lib.hid b1
  clear b1
  by_cases c0 : (r : Int) < 1
  · have d0 : decide ((r : Int) < 1) = true := decide_eq_true c0
    clear h c0
    go_wp2_with fail
    refine Calls.mono (HTo.out _ HB1.out) ?_
    rintro z X2 ⟨rfl, b2⟩
    have HB2 := Lib.hid (HB1.out.trans (b2.mono HB1.out.size))
    clear b2
    go_wp2
    go_ret
    exact ⟨rfl, HB2.out⟩
  have d0 : decide ((r : Int) < 1) = false := decide_eq_false c0
  by_cases c1 : (16 : Int) < r
  · have d1 : decide ((16 : Int) < r) = true := decide_eq_true c1
    clear h c1
    go_wp2_with fail
    refine Calls.mono (HTo.out _ HB1.out) ?_
    rintro z X2 ⟨rfl, b2⟩
    have HB2 := Lib.hid (HB1.out.trans (b2.mono HB1.out.size))
    clear b2
    go_wp2
    go_ret
    exact ⟨rfl, HB2.out⟩
  have d1 : decide ((16 : Int) < r) = false := decide_eq_false c1
  by_cases c2 : (n : Int) < 0
  · have d2 : decide ((n : Int) < 0) = true := decide_eq_true c2
    clear h c2
    go_wp2_with fail
    refine Calls.mono (HTo.out _ HB1.out) ?_
    rintro z X2 ⟨rfl, b2⟩
    have HB2 := Lib.hid (HB1.out.trans (b2.mono HB1.out.size))
    clear b2
    go_wp2
    go_ret
    exact ⟨rfl, HB2.out⟩
  have d2 : decide ((n : Int) < 0) = false := decide_eq_false c2
  by_cases c3 : (200 : Int) < n
  · have d3 : decide ((200 : Int) < n) = true := decide_eq_true c3
    clear h c3
    go_wp2_with fail
    refine Calls.mono (HTo.out _ HB1.out) ?_
    rintro z X2 ⟨rfl, b2⟩
    have HB2 := Lib.hid (HB1.out.trans (b2.mono HB1.out.size))
    clear b2
    go_wp2
    go_ret
    exact ⟨rfl, HB2.out⟩
  have d3 : decide ((200 : Int) < n) = false := decide_eq_false c3
  by_cases c4 : (s : Int) < 0
  · have d4 : decide ((s : Int) < 0) = true := decide_eq_true c4
    clear h c4
    go_wp2_with fail
    refine Calls.mono (HTo.out _ HB1.out) ?_
    rintro z X2 ⟨rfl, b2⟩
    have HB2 := Lib.hid (HB1.out.trans (b2.mono HB1.out.size))
    clear b2
    go_wp2
    go_ret
    exact ⟨rfl, HB2.out⟩
  have d4 : decide ((s : Int) < 0) = false := decide_eq_false c4
  by_cases c5 : (4096 : Int) < s
  · have d5 : decide ((4096 : Int) < s) = true := decide_eq_true c5
    clear h c5
    go_wp2_with fail
    refine Calls.mono (HTo.out _ HB1.out) ?_
    rintro z X2 ⟨rfl, b2⟩
    have HB2 := Lib.hid (HB1.out.trans (b2.mono HB1.out.size))
    clear b2
    go_wp2
    go_ret
    exact ⟨rfl, HB2.out⟩
  have d5 : decide ((4096 : Int) < s) = false := decide_eq_false c5
  by_cases c6 : (t : Int) < 0
  · have d6 : decide ((t : Int) < 0) = true := decide_eq_true c6
    clear h c6
    go_wp2_with fail
    refine Calls.mono (HTo.out _ HB1.out) ?_
    rintro z X2 ⟨rfl, b2⟩
    have HB2 := Lib.hid (HB1.out.trans (b2.mono HB1.out.size))
    clear b2
    go_wp2
    go_ret
    exact ⟨rfl, HB2.out⟩
  have d6 : decide ((t : Int) < 0) = false := decide_eq_false c6
  by_cases c7 : (4096 : Int) < t
  · have d7 : decide ((4096 : Int) < t) = true := decide_eq_true c7
    clear h c7
    go_wp2_with fail
    refine Calls.mono (HTo.out _ HB1.out) ?_
    rintro z X2 ⟨rfl, b2⟩
    have HB2 := Lib.hid (HB1.out.trans (b2.mono HB1.out.size))
    clear b2
    go_wp2
    go_ret
    exact ⟨rfl, HB2.out⟩
  have d7 : decide ((4096 : Int) < t) = false := decide_eq_false c7
  exact absurd ⟨by omega, by omega, by omega, by omega, by omega, by omega, by omega, by omega⟩ h
theorem blockLong_walk {W : World} (r n s t : Int) (ht : Tab W) :
    Calls Tryd.prog 6 #[.int .i64 r, .int .i64 n, .int .i64 s, .int .i64 t] W fun x w' => x = .returned (.bool true) ∧ Below W.heap.size W w' := by
  by_cases h : 1 ≤ r ∧ r ≤ 16 ∧ 0 ≤ n ∧ n ≤ 200 ∧ 0 ≤ s ∧ s ≤ 4096 ∧ 0 ≤ t ∧ t ≤ 4096
  · obtain ⟨r, rfl⟩ := Int.eq_ofNat_of_zero_le (show 0 ≤ r by omega)
    obtain ⟨n, rfl⟩ := Int.eq_ofNat_of_zero_le (show 0 ≤ n by omega)
    obtain ⟨s, rfl⟩ := Int.eq_ofNat_of_zero_le (show 0 ≤ s by omega)
    obtain ⟨t, rfl⟩ := Int.eq_ofNat_of_zero_le (show 0 ≤ t by omega)
    exact blockLong_in r n s t ht ⟨by omega, by omega⟩ (by omega) (by omega) (by omega)
  · exact blockLong_off r n s t ht h
end Go.Proofs.YtjpklncfmbjicaaDoor

namespace Go.Proofs.YtjpklncfmbjicaaDoor
open Go.ChangeShapes Go.WideShapes Go.ChangeAt Go.RowKit
set_option linter.unusedVariables false

theorem own_knob : ownKnob Tryd.prog.godebug = none := by kernel_rfl
theorem laid_out : laidOutB Tryd.prog = true := by kernel_rfl
theorem g_tab : Tryd.prog.globalNamed "strata/wire.halves" = some 0 := by kernel_rfl
theorem g_tab_type : (Tryd.prog.globals[0]?).map (·.type) = some 95 := by kernel_rfl
theorem und_tab : Tryd.prog.underlying 95 = some (.array 16 45) := by kernel_rfl
theorem und_u32 : Tryd.prog.underlying 45 = some (.int .u32) := by kernel_rfl
theorem und_int : Tryd.prog.underlying 3 = some (.int .i64) := by kernel_rfl
theorem und_u64 : Tryd.prog.underlying 92 = some (.int .u64) := by kernel_rfl
theorem und_bool : Tryd.prog.underlying 4 = some .bool := by kernel_rfl
theorem cells_tab : Tryd.prog.cellsOf 95 = 16 := by kernel_rfl
theorem cells_u32 : Tryd.prog.cellsOf 45 = 1 := by kernel_rfl
theorem cells_byte : Tryd.prog.cellsOf 5 = 1 := by kernel_rfl
theorem cells_bytes : Tryd.prog.cellsOf 24 = 1 := by kernel_rfl

theorem tab_of {W : World} (h : laidMetH Tryd.prog Rows.blockBackRow.laid W) : Tab W := by
  have t : Lib.TabIs Tryd.prog W "strata/wire.halves" .u32 [0, 274646895, 549293790, 820201905, 1098587580, 1361435347, 1640403810, 1905808397, 2197175160, 2460548119, 2722870694, 2987750089, 3280807620, 3553878443, 3811616794, 4084100981] :=
    Lib.tabIs_of_head (rest := []) g_tab g_tab_type und_tab und_u32 cells_u32 cells_tab h
  intro i hi
  have := t.cell g_tab i (by simpa using hi)
  rw [this]
  have key : ∀ j, j < 16 → ([0, 274646895, 549293790, 820201905, 1098587580, 1361435347, 1640403810, 1905808397, 2197175160, 2460548119, 2722870694, 2987750089, 3280807620, 3553878443, 3811616794, 4084100981] : List Int).getD j 0 = ((tab.getD j 0 : Nat) : Int) := by decide
  rw [key i hi]

theorem bulk_pos {H : Type} (d : DataW H) : 1 ≤ Rows.uptoBulk d := by
  cases d with
  | lit l => cases l <;> simp [Rows.uptoBulk]
  | nil => simp [Rows.uptoBulk]
  | ptr d => simp [Rows.uptoBulk]
  | slice elems spare => simp [Rows.uptoBulk]
  | agg parts => simp [Rows.uptoBulk]
  | iface t d => simp [Rows.uptoBulk]
  | map entries => simp [Rows.uptoBulk]
  | held h => simp [Rows.uptoBulk]
theorem bulk_len {H : Type} (l : List (DataW H)) : l.length ≤ Rows.uptoBulkAll l := by
  induction l with
  | nil => simp [Rows.uptoBulkAll]
  | cons x r ih => have := bulk_pos x; simp only [Rows.uptoBulkAll, List.length_cons]; omega

theorem open_bytes {H : Type} {enc : TypeId × Value → H} {W : World} {v : Value} {d : DataW H} {p : List MemPlace} {base : Nat} {held : Bool} (h : DataW.Trod enc Tryd.prog W base (fun _ => true) held 24 v d p) (hs : ∃ a n c, v = .slice a n c) :
    ∃ bs : List Nat, (bs.length ≤ 281474976710656 → Rd W v bs) ∧ bs.length + 1 ≤ Rows.uptoBulk d ∧ (bs = [] ∨ ∃ elems spare, d = .slice elems spare ∧ elems.length = bs.length) := by
  obtain ⟨a, n, c, rfl⟩ := hs
  obtain ⟨fuel, hf⟩ := h
  rcases open_ints und_bytes und_byte cells_byte hf with ⟨hcs, hx⟩ | ⟨x, l, c', zs, hcs, _, hl, hm, hz, hx, hcell, hwz⟩
  · simp [Value.cells] at hcs
    obtain ⟨rfl, rfl, rfl⟩ := hcs
    refine ⟨[], fun _ => Rd.nil W, ?_, .inl rfl⟩
    have := bulk_pos d
    simpa using this
  · simp [Value.cells] at hcs
    obtain ⟨rfl, rfl, rfl⟩ := hcs
    simp only [if_true] at hz
    simp only [Prod.mk.injEq] at hx
    obtain ⟨rfl, _⟩ := hx
    have hby : ∀ i, i < zs.length → 0 ≤ zs.getD i 0 ∧ zs.getD i 0 < 256 := by
      intro i hi
      have hmem : zs.getD i 0 ∈ zs := by simp [List.getD, List.getElem?_eq_getElem hi]
      have := bounds_u8 (hwz _ hmem)
      omega
    refine ⟨(zs.take n).map Int.toNat, fun hlen => ⟨?_, some x, c, ?_, ?_, hm, hlen, ?_, ?_⟩, ?_, .inr ⟨_, _, rfl, by simp [lits]⟩⟩
    · intro y hy
      simp only [List.mem_map] at hy
      obtain ⟨z, hz1, rfl⟩ := hy
      have := bounds_u8 (hwz z (List.mem_of_mem_take hz1))
      omega
    · simp; omega
    · simp; omega
    · by_cases hc0 : c = 0
      · exact .inl hc0
      · right
        obtain ⟨b, off, spot⟩ := x
        have hc := hcell 0 (by omega)
        have hspot : spot = none := by simpa [Addr.add] using World.cell?_spot hc
        subst hspot
        exact ⟨b, off, rfl⟩
    · by_cases hn0 : n = 0
      · left; simp [hn0]
      · right
        obtain ⟨b, off, spot⟩ := x
        have hc := hcell 0 (by omega)
        have hspot : spot = none := by simpa [Addr.add] using World.cell?_spot hc
        subst hspot
        refine ⟨b, off, rfl, fun i hi => ?_⟩
        have hin : i < n := by simp at hi; omega
        have hc := hcell i (by omega)
        have e : (⟨b, off, none⟩ : Addr).add i = ⟨b, off + i, none⟩ := by unfold Addr.add; split <;> simp_all
        rw [e] at hc
        rw [hc]
        have hb := hby i (by omega)
        have e2 : ((zs.take n).map Int.toNat).getD i 0 = (zs.getD i 0).toNat := by
          simp [List.getElem?_take_of_lt hin, List.getElem?_eq_getElem (show i < zs.length by omega)]
        rw [e2, Int.toNat_of_nonneg hb.1]
    · have h1 := bulk_len (H := H) (lits .u8 (zs.take n))
      simp only [Rows.uptoBulk]
      simp [lits] at h1 ⊢
      omega

theorem reach_bytes {H : Type} {ts : List TypeId} {ds gs : List (DataW H)} (h : (DataW.weightsEach Tryd.prog ts (ds ++ gs)).all (fun x => decide (x ≤ reachBytes)) = true) (j : Nat) (ht : ts[j]? = some 24) {d : DataW H} (hd : ds[j]? = some d) {bs : List Nat} (hx : bs = [] ∨ ∃ elems spare, d = .slice elems spare ∧ elems.length = bs.length) : bs.length ≤ 140737488351232 := by
  rcases hx with rfl | ⟨elems, spare, rfl, hl⟩
  · simp
  · have hd2 : (ds ++ gs)[j]? = some (.slice elems spare) := by
      rw [List.getElem?_append_left (List.getElem?_eq_some_iff.1 hd).1]
      exact hd
    have := sized_slice h ht hd2 und_bytes
    rw [show Tryd.prog.bytesOf 5 = 1 by kernel_rfl] at this
    unfold reachBytes at this
    omega

end Go.Proofs.YtjpklncfmbjicaaDoor
