import Derived.Test.YtganmnckdmkcbaaGreatK26
import Derived.Deep.CutBlock
namespace Go.Proofs.YtganmnckdmkcbaaGreat
open Go.RowKit Go.Maps
set_option linter.unusedVariables false

theorem refFate_any {W0 : World} {fa a : Option Addr} {fc cap : Nat} {fs : List FamD} {l : List EntD} {i : Nat} {e : EntD} (clock low : Int) (major : Bool) (hr : RdF W0 (.slice fa fs.length fc) fs) (hU : LU fs l) (hl : RdL3 W0 a cap l) (hn : l.length ≤ 1353245080300) (hi : l[i]? = some e) (hne : (l.map EntD.dat).Pairwise (fun a b => a.seq ≠ b.seq)) :
    Calls Tryz.prog 56 #[.agg #[.slice fa fs.length fc], .int .i64 clock, .bool major, .int .i64 low, .slice a l.length cap, .int .i64 (i : Int)] W0 fun r W' => ∃ (N : Int) (y : EntD), r = .returned (.tuple #[.agg y.cells, .int .i64 N]) ∧ FateP fs clock major low (l.map EntD.dat) W0 e N y W' := by
  by_cases k4 : 4 ≤ e.kind
  · exact refFate_mark clock low major hr hU hl hn hi hne k4
  · exact refFate_ver clock low major hr hU hl hn hi hne k4
theorem shrt_fate {x y : EntD} (hs : Shrt x) (h : y.row = x.row ∧ y.qual = x.qual ∧ (y.val = x.val ∨ y.val = [])) : Shrt y := by
  obtain ⟨h1, h2, h3⟩ := h
  unfold Shrt at hs ⊢
  rw [h1, h2]
  rcases h3 with h3 | h3
  · rw [h3]; exact hs
  · rw [h3]; exact ⟨hs.1, hs.2.1, by simp⟩
set_option maxRecDepth 100000 in
set_option maxHeartbeats 8000000 in
theorem refSquash_any {W : World} {fa a : Option Addr} {fc cap : Nat} {fs : List FamD} {l : List EntD} (hr : RdF W (.slice fa fs.length fc) fs) (C : Nat) (hC : (C = 0 ↔ SchemaOk fs) ∧ (C = 0 ∨ C = 28)) (clock low : Int) (major : Bool) (hl : RdL3 W a cap l) (hn : l.length ≤ 1353245080300) :
    Calls Tryz.prog 24 #[.agg #[.slice fa fs.length fc], .int .i64 clock, .bool major, .int .i64 low, .slice a l.length cap] W fun r W' => Below W.heap.size W W' ∧ (askE C fs clock low 0 1 l ≠ 0 → r = .returned (.tuple #[.slice none 0 0, .int .i64 (askE C fs clock low 0 1 l)])) ∧ (askE C fs clock low 0 1 l = 0 → ∃ (zs : List EntD) (v : Value) (m : List En), r = .returned (.tuple #[v, .int .i64 0]) ∧ IsOrd fs.length (l.map EntD.dat) m ∧ Vw W W' zs v (leftL (mt fs) clock m major low)) := by
  obtain ⟨W1, hW, A, hb⟩ := sch_box W fa fs.length fc
  obtain ⟨E, hE⟩ : ∃ E, E = askE C fs clock low 0 1 l := ⟨_, rfl⟩
  have up : ∀ Z, Below W1.heap.size W1 Z → Below W.heap.size W Z := fun Z b => A.trans (b.mono A.size)
  have HAs := Lib.hid (refAsked_any (hr.later A) C hC clock low 0 1 (hl.later A) hn)
  rw [← hE] at HAs ⊢
  have HOr : Hid (E = 0 → ∀ Z, Below W1.heap.size W1 Z → Calls Tryz.prog 51 #[.slice a l.length cap] Z _) := fun z Z b => ordered_ok (fs := fs) (hl.later (up Z b)) hn (askE_ok (hE.symm.trans z)).2 (hC.1.1 (askE_ok (hE.symm.trans z)).1)
  have HFt := Lib.hid (fun (zs : List EntD) (hU : LU fs zs) (hln : zs.length ≤ l.length) (hne : (zs.map EntD.dat).Pairwise (fun a b => a.seq ≠ b.seq)) (Z : World) (b : Below W1.heap.size W1 Z) (a' : Option Addr) (c' : Nat) (hz : RdL3 Z a' c' zs) (q : Nat) (x : EntD) (hx : zs[q]? = some x) => refFate_any clock low major (hr.later (up Z b)) hU hz (Nat.le_trans hln hn) hx hne)
  obtain ⟨N, hN⟩ : ∃ N, N = l.length := ⟨_, rfl⟩
  obtain ⟨K, hK⟩ : ∃ K, K = fs.length := ⟨_, rfl⟩
  rw [← hN, ← hK] at HAs
  rw [← hN] at HOr
  rw [← hK] at HFt hb hW
  rw [← hN, ← hK]
  have HHn := Lib.hid hn
  have HK := Lib.hid hK
  have HN := Lib.hid hN
  have HW := Lib.hid hW
  have HA := Lib.hid A
  have HB := Lib.hid hb
  clear hl hE hN hr hC hn hK hW A hb up
  go_enter Tryz.func24, Tryz.ntmps24
  go_upto_region 1 with fail
  rw [← HW.out]
  clear HW
  have s0 := HB.out _ (Below.refl _ _)
  go_wp2_with fail
  refine Calls.mono HAs.out ?_
  rintro z w1 ⟨rfl, b1⟩
  have B1 := Lib.hid b1
  have s1 := HB.out _ b1
  clear s0
  by_cases hz : E = 0
  · have HK2 := Lib.hid (HOr.out hz _ b1)
    subst hz
    clear b1 HAs HOr
    go_wp2_with fail
    refine Calls.mono HK2.out ?_
    rintro z w2 ⟨zs, a', c', rfl, b2, ho, hU, hs, hrd, hle⟩
    have HBz := Lib.hid (B1.out.trans (b2.mono B1.out.size))
    have hle' : zs.length ≤ l.length := by rw [← HN.out]; exact hle
    have HF := Lib.hid (HFt.out zs hU hle' ho.ne)
    obtain ⟨m, hm⟩ : ∃ m, m = zs.map EntD.dat := ⟨_, rfl⟩
    have HOd : Hid (IsOrd K (l.map EntD.dat) m) := by rw [HK.out, hm]; exact ho
    have HRd : Hid (∀ Z, Below w2.heap.size w2 Z → RdL3 Z a' c' zs) := fun Z b => hrd.later b
    have HSh := Lib.hid hs
    obtain ⟨M, hM⟩ : ∃ M, M = zs.length := ⟨_, rfl⟩
    have hMn : M ≤ 1353245080300 := by rw [hM]; exact Nat.le_trans hle' HHn.out
    have hMc := hrd.cap
    rw [← hM, ← hm] at HF
    rw [← hM] at hMc ⊢
    have HM := Lib.hid hM
    have HMd := Lib.hid hm
    have HDb : Hid (∀ Z, Below w2.heap.size w2 Z → Below W1.heap.size W1 Z) := fun Z b => HBz.out.trans (b.mono HBz.out.size)
    clear b2 ho hU hs hrd hle hle' hM hm HFt HK2 s1
    go_wp2
    go_loopw [14, 15, 16, 17] (fun rv i _ _ wr => ∃ (q : Nat) (rs : List EntD) (ar : Option Addr) (cr : Nat), q ≤ M ∧ i = .int .i64 (q : Int) ∧ rv = .slice ar rs.length cr ∧ Hid (Vw w2 wr rs (.slice ar rs.length cr) (((zs.take q).map EntD.dat).filterMap (fateR (mt fs) clock major low m))) ∧ rs.length ≤ q) (fun _ i _ _ _ => M - (intOf i).toNat)
    case atStart => exact ⟨0, [], none, 0, Nat.zero_le _, rfl, rfl, ⟨(Rw.nil w2 w2.heap.size (fun _ => True)).row, by simp, Below.refl _ _, by simp, by simp⟩, Nat.le_refl _⟩
    case round =>
      obtain ⟨q, rs, ar, cr, hq, rfl, rfl, HQ, hrq⟩ := hrel
      have q0 : (0 : Int) ≤ (q : Int) := by omega
      obtain ⟨L, hL⟩ : ∃ L, L = rs.length := ⟨_, rfl⟩
      have HLz := Lib.hid hL
      rw [← hL] at HQ hrq ⊢
      clear hL
      by_cases hlt : q < M
      · have hlt2 : (q : Int) < (M : Int) := by omega
        obtain ⟨x, hx⟩ : ∃ x, zs[q]? = some x := ⟨zs[q]'(by rw [← HM.out]; exact hlt), List.getElem?_eq_getElem _⟩
        have HXm := Lib.hid (List.mem_of_getElem? hx)
        have HBw := Lib.hid HQ.out.below
        have HF1 := Lib.hid (HF.out _ (HDb.out _ HBw.out) a' c' (HRd.out _ HBw.out) q x hx)
        have HS : Hid (((zs.take (q + 1)).map EntD.dat).filterMap (fateR (mt fs) clock major low m) = ((zs.take q).map EntD.dat).filterMap (fateR (mt fs) clock major low m) ++ (if fateN (mt fs) clock major low m x.dat = 0 then [fateE m x.dat] else [])) := by
          unfold Hid
          rw [List.take_add_one, hx, List.map_append, List.filterMap_append]
          congr 1
          simp only [Option.toList_some, List.map_singleton, List.filterMap_cons, List.filterMap_nil, fate_ref]
          by_cases z : fateN (mt fs) clock major low m x.dat = 0
          · simp [z]
          · simp [z]
        clear hx
        have s1 := HB.out _ (HDb.out _ HBw.out)
        go_wp2_with fail
        refine Calls.mono HF1.out ?_
        rintro r w4 ⟨Nn, y, rfl, hP⟩
        obtain ⟨hN4, hok4, hsm4, hd4, b4⟩ := hP
        obtain ⟨_, a1, n1, e1, -⟩ := id hok4.1
        obtain ⟨_, a2, n2, e2, -⟩ := id hok4.2.1
        obtain ⟨_, a3, n3, e3, -⟩ := id hok4.2.2
        obtain ⟨X, hX, AX, hbx, -⟩ := box1 w4 y
        have HXb := Lib.hid (And.intro AX (And.intro hbx (hok4.later AX)))
        have HB4 := Lib.hid b4
        have HN4 := Lib.hid hN4
        have HD4 := Lib.hid hd4
        have HSy := Lib.hid (shrt_fate (HSh.out x HXm.out) hsm4)
        unfold EntD.cells at hX ⊢
        rw [e1, e2, e3] at hX ⊢
        have HX := Lib.hid hX
        clear hX hN4 hok4 hsm4 hd4 b4 AX hbx e1 e2 e3 s1 HF1
        go_upto_region 10 with fail
        rw [← HX.out]
        clear HX
        obtain ⟨AX, hbx, hokX⟩ := HXb.out
        have HBX : Hid (Below wr.heap.size wr X) := HB4.out.trans (AX.mono HB4.out.size)
        obtain ⟨y0, y1, y2, y3, y4, y5, y6⟩ := (hbx X (Below.refl _ _)).cells7
        have HC1 := Lib.hid (cloneR_own hokX HSy.out)
        unfold EntD.cells at HC1
        have HBy := Lib.hid hokX.by
        clear AX hbx hokX
        by_cases cN : Nn = 0
        · have qN : (Nn == 0) = true := by simpa using cN
          have HDy := Lib.hid (HD4.out cN)
          have HS2 : Hid (((zs.take (q + 1)).map EntD.dat).filterMap (fateR (mt fs) clock major low m) = ((zs.take q).map EntD.dat).filterMap (fateR (mt fs) clock major low m) ++ [y.dat]) := by unfold Hid; rw [HS.out, if_pos (HN4.out.symm.trans cN), HDy.out]
          clear cN
          go_wp2_with fail
          refine Calls.mono HC1.out ?_
          rintro z1 w6 ⟨x', rfl, sx, ok1, o31, b6⟩
          have HSx := Lib.hid (EntD.dat_same.2 sx)
          have O31 := Lib.hid o31
          have B6 := Lib.hid b6
          obtain ⟨xr, xf, xq, xt, xs2, xk, xv, xrow, xqual, xval⟩ := x'
          obtain ⟨ar', cr', er⟩ := own_form' o31.row
          obtain ⟨aq, cq, eq⟩ := own_form' o31.qual
          obtain ⟨aw, cw, ew⟩ := own_form' o31.val
          simp only at er eq ew
          subst er eq ew
          dsimp only
          clear sx ok1 o31 b6 y0 y1 y2 y3 y4 y5 y6
          have HAl := Lib.hid ((Below.refl w6.heap.size w6).alloc (Nat.le_refl _) (.cells #[.slice ar' xrow.length cr', .int .i64 xf, .slice aq xqual.length cq, .int .i64 xt, .int .i64 xs2, .int .i64 xk, .slice aw xval.length cw] 84))
          have HQ6 := Lib.hid (HQ.out.later HBX.out |>.later B6.out |>.later HAl.out)
          have HRow := HQ6.out.row
          have HSz := HQ6.out.below.size
          have HRr := Lib.hid HRow
          have HSs := Lib.hid HSz
          clear HRow HSz
          go_wp2_with (at_builtin; refine wpl_append_ent (x := (⟨.slice ar' xrow.length cr', xf, .slice aq xqual.length cq, xt, xs2, xk, .slice aw xval.length cw, xrow, xqual, xval⟩ : EntD)) (xs := rs) rfl _ _ rfl rfl HRr.out ⟨w6.heap.size, 0, none⟩ rfl (ent_new w6 (⟨.slice ar' xrow.length cr', xf, .slice aq xqual.length cq, xt, xs2, xk, .slice aw xval.length cw, xrow, xqual, xval⟩ : EntD)) (O3.cells_one O31.out) (by rw [← HLz.out]; omega) HSs.out ?_)
          intro a7 c7 w7 row7 gr7
          obtain ⟨xx, hxx⟩ : ∃ xx : EntD, xx = ⟨.slice ar' xrow.length cr', xf, .slice aq xqual.length cq, xt, xs2, xk, .slice aw xval.length cw, xrow, xqual, xval⟩ := ⟨_, rfl⟩
          rw [← hxx] at row7 HSx O31
          have HF7 : Hid (Vw w2 w7 (rs ++ [xx]) (.slice a7 (L + 1) c7) (((zs.take (q + 1)).map EntD.dat).filterMap (fateR (mt fs) clock major low m))) := by
            have bw := HQ6.out.below
            have ku7 : KU w6 w7 := (KU.of HAl.out).trans (row_ku (W := w2) HRr.out gr7)
            have kz : KU (w6.alloc (.cells #[.slice ar' xrow.length cr', .int .i64 xf, .slice aq xqual.length cq, .int .i64 xt, .int .i64 xs2, .int .i64 xk, .slice aw xval.length cw] 84)) w7 := row_ku (W := w2) HRr.out gr7
            refine ⟨by rw [List.length_append]; rw [HLz.out]; exact row7, fun y' hy => ?_, bw.grown gr7 bw.size (fun k hk => (HRr.out.lt k hk).1), ?_, fun y' hy => ?_⟩
            · rcases List.mem_append.1 hy with q | q
              · exact (HQ6.out.ents y' q).ku kz
              · rw [List.mem_singleton] at q
                rw [q]
                exact (O31.out.mono (Nat.le_trans HBw.out.size HBX.out.size)).ku ku7
            · rw [HS2.out, List.map_append, HQ.out.dat, List.map_singleton, HSx.out]
            · rcases List.mem_append.1 hy with q | q
              · exact HQ.out.by_ y' q
              · rw [List.mem_singleton] at q
                rw [q, HSx.out]
                exact HBy.out
          clear row7 gr7
          rw [← HLz.out]
          go_wp2
          go_roundw
          case rel => exact ⟨q + 1, rs ++ [xx], a7, c7, by omega, by go_num, by rw [List.length_append, ← HLz.out]; rfl, by rw [List.length_append, ← HLz.out]; exact HF7.out, by rw [List.length_append, ← HLz.out]; simp; omega⟩
          case measure => simp only [intOf]; omega
        · have qN : (Nn == 0) = false := by simpa using cN
          have HV2 : Hid (Vw w2 X rs (.slice ar L cr) (((zs.take (q + 1)).map EntD.dat).filterMap (fateR (mt fs) clock major low m))) := by
            have h := HQ.out.later HBX.out
            unfold Hid
            rw [HS.out, if_neg (fun z => cN (HN4.out.trans z)), List.append_nil]
            exact h
          clear cN
          go_wp2
          go_roundw
          case rel => exact ⟨q + 1, rs, ar, cr, by omega, by go_num, by rw [← HLz.out], by rw [← HLz.out]; exact HV2.out, by rw [← HLz.out]; omega⟩
          case measure => simp only [intOf]; omega
      · have hge : ¬ (q : Int) < (M : Int) := by omega
        have HF9 : Hid (Vw W wr rs (.slice ar L cr) (leftL (mt fs) clock m major low)) := by
          have h := HQ.out
          rw [List.take_of_length_le (by rw [← HM.out]; omega), ← HMd.out, ← squash_ref] at h
          exact h.low (HA.out.trans (HBz.out.mono HA.out.size))
        go_wp2
        go_ret2
        exact ⟨HF9.out.below, rs, _, rfl, _, HOd.out, HF9.out⟩
  · have hz2 : (E == 0) = false := by simpa using hz
    clear b1 HAs HOr
    go_wp2
    go_ret2
    exact ⟨HA.out.trans (B1.out.mono HA.out.size), fun _ => rfl, fun z => absurd z hz⟩
end Go.Proofs.YtganmnckdmkcbaaGreat

namespace Go.Proofs.YtganmnckdmkcbaaGreat
open Go.RowKit Go.Maps
set_option linter.unusedVariables false

theorem firstBad_dat {chk : EntD → Int} (hk : ∀ x y : EntD, x.dat = y.dat → chk x = chk y) : ∀ {l l' : List EntD}, l.map EntD.dat = l'.map EntD.dat → firstBad chk l = firstBad chk l'
  | [], [], _ => rfl
  | [], y :: l', h => by simp at h
  | x :: l, [], h => by simp at h
  | x :: l, y :: l', h => by
    rw [List.map_cons, List.map_cons] at h
    injection h with h1 h2
    rw [firstBad, firstBad, hk x y h1, firstBad_dat hk h2]
theorem oneS_dat {l l' : List EntD} (h : l.map EntD.dat = l'.map EntD.dat) (k : OneS l) : OneS l' := by
  intro x hx y hy e
  have hx' : x.dat ∈ l.map EntD.dat := by rw [h]; exact List.mem_map_of_mem hx
  have hy' : y.dat ∈ l.map EntD.dat := by rw [h]; exact List.mem_map_of_mem hy
  obtain ⟨a, ha, ea⟩ := List.mem_map.1 hx'
  obtain ⟨b, hb, eb⟩ := List.mem_map.1 hy'
  rw [← ea, ← eb]
  exact k a ha b hb (by
    have e1 : a.seq = x.seq := congrArg En.seq ea
    have e2 : b.seq = y.seq := congrArg En.seq eb
    omega)
theorem once_dat {l l' : List EntD} (h : l.map EntD.dat = l'.map EntD.dat) : (onceS l = none) = (onceS l' = none) := by
  have e1 := oneS_once l
  have e2 := oneS_once l'
  apply propext
  constructor
  · intro z
    by_cases q : onceS l' = none
    · exact q
    · exact absurd z (e1.1 (oneS_dat h.symm (e2.2 q)))
  · intro z
    by_cases q : onceS l = none
    · exact q
    · exact absurd z (e2.1 (oneS_dat h (e1.2 q)))
theorem inOrder_dat {chk : EntD → Int} (hk : ∀ x y : EntD, x.dat = y.dat → chk x = chk y) {l l' : List EntD} (h : l.map EntD.dat = l'.map EntD.dat) : inOrderE chk l = inOrderE chk l' := by
  unfold inOrderE
  rw [firstBad_dat hk h]
  simp only [once_dat h]
theorem check3_dat (k : Nat) (x y : EntD) (h : x.dat = y.dat) : check3S k x = check3S k y := by rw [check_dat k x, check_dat k y, h]
theorem chkC_dat (x y : EntD) (h : x.dat = y.dat) : chkC x = chkC y := by rw [← chkF_neg (k := -1) (by omega) x, ← chkF_neg (k := -1) (by omega) y]; unfold chkF; rw [show checkS x = checkS y from by
  have e1 : checkS x = checkS (EntD.ofEn x.dat) := rfl
  have e2 : checkS y = checkS (EntD.ofEn y.dat) := rfl
  rw [e1, e2, h], show x.fam = y.fam from congrArg En.fam h]
theorem ask_vis (C : Nat) (fs : List FamD) (clock : Int) (l : List EntD) : askE C fs clock 0 0 1 l = visE C fs clock l := by
  unfold askE visE readE readerS boundsS
  by_cases c : C = 0
  · subst c
    by_cases b : badT clock = true
    · simp [b]
    · simp only [Bool.not_eq_true] at b
      have b0 : badT 0 = false := by decide
      have b1 : badT 1099511627776 = false := by decide
      simp [b, b0, b1]
  · have : (C : Int) ≠ 0 := by omega
    simp [c]
theorem ask_top (C : Nat) (fs : List FamD) (clock : Int) (l : List EntD) : askE C fs clock 0 0 1 l = topE C fs clock l := by
  unfold askE topE boundsS
  by_cases c : C = 0
  · subst c
    by_cases b : badT clock = true
    · simp [b]
    · simp only [Bool.not_eq_true] at b
      have b0 : badT 0 = false := by decide
      simp [b, b0]
  · simp [c]
theorem ask_squash (C : Nat) (fs : List FamD) (clock low : Int) (l : List EntD) : askE C fs clock low 0 1 l = squashE C fs clock low l := by
  unfold askE squashE boundsS
  by_cases c : C = 0
  · subst c
    have b0 : badT 0 = false := by decide
    cases b : badT clock <;> cases d : badT low <;> simp [b, d, b0]
  · simp [c]
theorem ask_read (C : Nat) (fs : List FamD) (clock t n : Int) (l : List EntD) : askE C fs clock 0 t n l = readE C fs clock t n l := by
  unfold askE readE readerS boundsS
  by_cases c : C = 0
  · subst c
    have b0 : badT 0 = false := by decide
    cases b : badT clock <;> cases d : badT t <;> simp [b, d, b0]
    by_cases h : n < 1 ∨ 16 < n
    · simp [h]
      intro z
      omega
    · simp [h]
      intro z
      omega
  · simp [c]
theorem ask_dat {C : Nat} {fs : List FamD} {clock low t n : Int} {l l' : List EntD} (h : l.map EntD.dat = l'.map EntD.dat) : askE C fs clock low t n l = askE C fs clock low t n l' := by
  unfold askE
  rw [inOrder_dat (check3_dat fs.length) h]
def orNone (E : Int) (D : List En) : List En := if E = 0 then D else []
theorem Vw.none (W : World) {W' : World} (b : Below W.heap.size W W') : Vw W W' [] (.slice none 0 0) [] := ⟨row_same (Rw.nil W W.heap.size (fun _ => True)).row (fun g hg => by cases hg), by simp, b, rfl, by simp⟩
theorem vw_rw {W W' : World} {v : Value} {zs : List EntD} {O : Nat → Prop} {D : List En} (h : Rw W' W.heap.size v zs O) (b : Below W.heap.size W W') (hd : zs.map EntD.dat = D) (hb : ∀ e ∈ D, ByE e) : Vw W W' zs v D :=
  ⟨h.row, h.ents, b, hd, fun x hx => hb _ (by rw [← hd]; exact List.mem_map_of_mem hx)⟩
theorem ord_by {k : Nat} {l m : List En} (h : IsOrd k l m) (hb : ∀ e ∈ l, ByE e) : ∀ e ∈ m, ByE e := fun e he => hb e ((h.mem e).1 he)
theorem read_sub {t n : Int} {v : List En} : ∀ e ∈ readR t n v, e ∈ v := by
  have key : ∀ (v acc : List En), ∀ e ∈ v.foldl (fun r e => if e.ts ≤ t ∧ ((r.filter fun y => mates y e).length : Int) < n then r ++ [e] else r) acc, e ∈ acc ∨ e ∈ v := by
    intro v
    induction v with
    | nil => intro acc e he; exact .inl he
    | cons x v ih =>
      intro acc e he
      rw [List.foldl_cons] at he
      rcases ih _ e he with h | h
      · split at h
        · rcases List.mem_append.1 h with h | h
          · exact .inl h
          · rw [List.mem_singleton] at h
            exact .inr (by rw [h]; exact List.mem_cons_self)
        · exact .inl h
      · exact .inr (List.mem_cons_of_mem _ h)
  intro e he
  rcases key v [] e he with h | h
  · cases h
  · exact h
theorem show_vis {fs : List FamD} {clock : Int} {l m : List En} (h : IsOrd fs.length l m) : (m.filter fun x => shw 1099511627776 (sv (mt fs) clock m x)).map (tld m) = m.filter (visB (mt fs) clock m) := by
  rw [vis_five]
  unfold fiveL
  rw [List.filter_map, List.filter_filter]
  congr 1
  apply List.filter_congr
  intro x hx
  rw [Bool.eq_iff_iff]
  unfold shw
  simp only [decide_eq_true_eq, Bool.and_eq_true, Function.comp, sv_e]
  constructor
  · rintro ⟨a, b, c⟩
    exact ⟨b, a⟩
  · rintro ⟨b, a⟩
    refine ⟨a, b, ?_⟩
    rw [(tld_eq m x).2.2.2.1]
    have hc := check_zero.1 (h.ck x hx)
    have : (EntD.ofEn x).ts ≤ 1099511627776 := by omega
    exact this
section
variable {W : World} {cap fc : Nat} {a fa : Option Addr} {fs : List FamD} {l : List EntD} {m : List En} {E : Int}
theorem p_sort (h0 : RdL3 W a cap l) (hl : l.length ≤ 1353245080300) (hE : inOrderE chkC l = E) (hm : E = 0 → IsOrd 8 (l.map EntD.dat) m) :
    Calls Tryz.prog 15 #[.slice a l.length cap] W fun r W' => ∃ v zs, r = .returned (.tuple #[v, .int .i64 E]) ∧ Vw W W' zs v (orNone E m) := by
  refine Calls.mono (sort_any h0 hl) ?_
  rw [hE]
  rintro r W' ⟨b, h1, h2⟩
  unfold orNone
  by_cases z : E = 0
  · obtain ⟨zs, m', v, O, k1, k2, k3, k4, k5, k6⟩ := h2 z
    have em := k1.unique (hm z)
    subst em
    rw [if_pos z, z]
    exact ⟨v, zs, k2, vw_rw k3 b k5 (ord_by k1 h0.by)⟩
  · rw [if_neg z]
    exact ⟨_, [], h1 z, Vw.none W b⟩
theorem Od.vw {W W' : World} {l zs : List EntD} {v : Value} {t : Nat} (h : Od W W' l t zs v) : Vw W W' zs v (zs.map EntD.dat) := ⟨h.row, h.ents, h.below, rfl, h.by_⟩
theorem r_sort (h0 : RdL3 W a cap l) (hl : l.length ≤ 1353245080300) (hE : inOrderE chkC l = E) (hm : E = 0 → IsOrd 8 (l.map EntD.dat) m) :
    Calls Tryz.prog 16 #[.slice a l.length cap] W fun r W' => ∃ v zs, r = .returned (.tuple #[v, .int .i64 E]) ∧ Vw W W' zs v (orNone E m) := by
  refine Calls.mono (refSort_any h0 hl) ?_
  rw [hE]
  rintro r W' ⟨b, h1, h2⟩
  unfold orNone
  by_cases z : E = 0
  · obtain ⟨zs, v, k1, k2, k3⟩ := h2 z
    have em := k3.unique (hm z)
    rw [if_pos z, z, ← em]
    exact ⟨v, zs, k1, k2.vw⟩
  · rw [if_neg z]
    exact ⟨_, [], h1 z, Vw.none W b⟩
variable (hr : RdF W (.slice fa fs.length fc) fs) (hn : fa = none → fc = 0) (C : Nat) (hC : (C = 0 ↔ SchemaOk fs) ∧ (C = 0 ∨ C = 28)) (clock t n low : Int) (major : Bool)
include hr hC
theorem r_read (h0 : RdL3 W a cap l) (hl : l.length ≤ 1353245080300) (hE : askE C fs clock 0 t n l = E) (hm : E = 0 → IsOrd fs.length (l.map EntD.dat) m) :
    Calls Tryz.prog 22 #[.agg #[.slice fa fs.length fc], .int .i64 clock, .int .i64 t, .int .i64 n, .slice a l.length cap] W fun r W' => ∃ v zs, r = .returned (.tuple #[v, .int .i64 E]) ∧ Vw W W' zs v (orNone E (readR t n (m.filter (visB (mt fs) clock m)))) := by
  refine Calls.mono (refRead_any hr C hC clock t n h0 hl) ?_
  rw [hE]
  rintro r W' ⟨b, h1, h2⟩
  unfold orNone
  by_cases z : E = 0
  · obtain ⟨zs, v, m', k1, k2, k3⟩ := h2 z
    have em := k2.unique (hm z)
    subst em
    rw [if_pos z, z]
    exact ⟨v, zs, k1, k3⟩
  · rw [if_neg z]
    exact ⟨_, [], h1 z, Vw.none W b⟩
theorem r_vis (h0 : RdL3 W a cap l) (hl : l.length ≤ 1353245080300) (hE : askE C fs clock 0 0 1 l = E) (hm : E = 0 → IsOrd fs.length (l.map EntD.dat) m) :
    Calls Tryz.prog 20 #[.agg #[.slice fa fs.length fc], .int .i64 clock, .slice a l.length cap] W fun r W' => ∃ v zs, r = .returned (.tuple #[v, .int .i64 E]) ∧ Vw W W' zs v (orNone E (m.filter (visB (mt fs) clock m))) := by
  refine Calls.mono (refVis_any hr C hC clock h0 hl) ?_
  rw [hE]
  rintro r W' ⟨b, h1, h2⟩
  unfold orNone
  by_cases z : E = 0
  · obtain ⟨zs, v, m', k1, k2, k3⟩ := h2 z
    have em := k2.unique (hm z)
    subst em
    rw [if_pos z, z]
    exact ⟨v, zs, k1, k3⟩
  · rw [if_neg z]
    exact ⟨_, [], h1 z, Vw.none W b⟩
theorem r_squash (h0 : RdL3 W a cap l) (hl : l.length ≤ 1353245080300) (hE : askE C fs clock low 0 1 l = E) (hm : E = 0 → IsOrd fs.length (l.map EntD.dat) m) :
    Calls Tryz.prog 24 #[.agg #[.slice fa fs.length fc], .int .i64 clock, .bool major, .int .i64 low, .slice a l.length cap] W fun r W' => ∃ v zs, r = .returned (.tuple #[v, .int .i64 E]) ∧ Vw W W' zs v (orNone E (leftL (mt fs) clock m major low)) := by
  refine Calls.mono (refSquash_any hr C hC clock low major h0 hl) ?_
  rw [hE]
  rintro r W' ⟨b, h1, h2⟩
  unfold orNone
  by_cases z : E = 0
  · obtain ⟨zs, v, m', k1, k2, k3⟩ := h2 z
    have em := k2.unique (hm z)
    subst em
    rw [if_pos z, z]
    exact ⟨v, zs, k1, k3⟩
  · rw [if_neg z]
    exact ⟨_, [], h1 z, Vw.none W b⟩
theorem r_top (h0 : RdL3 W a cap l) (hl : l.length ≤ 1353245080300) (hE : askE C fs clock 0 0 1 l = E) (hm : E = 0 → IsOrd fs.length (l.map EntD.dat) m) :
    Calls Tryz.prog 26 #[.agg #[.slice fa fs.length fc], .int .i64 clock, .slice a l.length cap] W fun r W' => r = .returned (.tuple #[.int .i64 (if E = 0 then topR (mt fs) clock m m else 0), .int .i64 E]) ∧ Below W.heap.size W W' := by
  refine Calls.mono (refTop_any hr C hC clock h0 hl) ?_
  rw [hE]
  rintro r W' ⟨b, h1, h2⟩
  by_cases z : E = 0
  · obtain ⟨m', k2, k1⟩ := h2 z
    have em := k2.unique (hm z)
    subst em
    rw [if_pos z, z]
    exact ⟨k1, b⟩
  · rw [if_neg z]
    exact ⟨h1 z, b⟩
include hn
theorem p_read (h0 : RdL3 W a cap l) (hl : l.length ≤ 1353245080300) (hE : askE C fs clock 0 t n l = E) (hm : E = 0 → IsOrd fs.length (l.map EntD.dat) m) :
    Calls Tryz.prog 21 #[.agg #[.slice fa fs.length fc], .int .i64 clock, .int .i64 t, .int .i64 n, .slice a l.length cap] W fun r W' => ∃ v zs, r = .returned (.tuple #[v, .int .i64 E]) ∧ Vw W W' zs v (orNone E (readR t n (m.filter (visB (mt fs) clock m)))) := by
  rw [ask_read] at hE
  refine Calls.mono (read_any sort_ok hr hn C hC clock t n h0 hl) ?_
  rw [hE]
  rintro r W' ⟨b, h1, h2⟩
  unfold orNone
  by_cases z : E = 0
  · obtain ⟨xs, ys, zs, v, O, k1, k2, k3, k4, k5, k6⟩ := h2 z
    have hz : readE C fs clock t n l = 0 := hE.trans z
    have hz2 : readerS C clock t n = 0 ∧ inOrderE (check3S fs.length) l = 0 := by
      unfold readE at hz
      by_cases q : readerS C clock t n = 0
      · rw [if_neg (by simpa using q)] at hz; exact ⟨q, hz⟩
      · rw [if_pos q] at hz; exact absurd hz q
    have ho := isOrd_of hz2.2 k1 k2 k3
    have em := ho.unique (hm z)
    have hS := hC.1.1 (bounds_ok (reader_ok hz2.1).1).1
    rw [em] at k6 ho
    rw [read_ref (ho.max hS) ho.ah ho.va (by have := (reader_ok hz2.1).2.1; omega)] at k6
    rw [if_pos z, z]
    refine ⟨v, zs, k4, vw_rw k5 b k6 (fun e he => ?_)⟩
    have := read_sub e he
    exact ord_by ho h0.by e (List.mem_filter.1 this).1
  · rw [if_neg z]
    exact ⟨_, [], h1 z, Vw.none W b⟩
theorem p_vis (h0 : RdL3 W a cap l) (hl : l.length ≤ 1353245080300) (hE : askE C fs clock 0 0 1 l = E) (hm : E = 0 → IsOrd fs.length (l.map EntD.dat) m) :
    Calls Tryz.prog 19 #[.agg #[.slice fa fs.length fc], .int .i64 clock, .slice a l.length cap] W fun r W' => ∃ v zs, r = .returned (.tuple #[v, .int .i64 E]) ∧ Vw W W' zs v (orNone E (m.filter (visB (mt fs) clock m))) := by
  rw [ask_vis] at hE
  refine Calls.mono (vis_any sort_ok hr hn C hC clock h0 hl) ?_
  have hE' : readE C fs clock 1099511627776 16 l = E := hE
  rw [hE']
  rintro r W' ⟨b, h1, h2⟩
  unfold orNone
  by_cases z : E = 0
  · obtain ⟨xs, ys, zs, v, O, k1, k2, k3, k4, k5, k6⟩ := h2 z
    obtain ⟨c0, hi⟩ := vis_zero (hE.trans z)
    have ho := isOrd_of hi k1 k2 k3
    have em := ho.unique (hm z)
    have hS := hC.1.1 c0
    rw [em] at k6 ho
    rw [show_spec (fun i => famAt_mt hS i) ho.ah ho.va, show_vis ho] at k6
    rw [if_pos z, z]
    exact ⟨v, zs, k4, vw_rw k5 b k6 (fun e he => ord_by ho h0.by e (List.mem_filter.1 he).1)⟩
  · rw [if_neg z]
    exact ⟨_, [], h1 z, Vw.none W b⟩
theorem p_squash (h0 : RdL3 W a cap l) (hl : l.length ≤ 1353245080300) (hE : askE C fs clock low 0 1 l = E) (hm : E = 0 → IsOrd fs.length (l.map EntD.dat) m) :
    Calls Tryz.prog 23 #[.agg #[.slice fa fs.length fc], .int .i64 clock, .bool major, .int .i64 low, .slice a l.length cap] W fun r W' => ∃ v zs, r = .returned (.tuple #[v, .int .i64 E]) ∧ Vw W W' zs v (orNone E (leftL (mt fs) clock m major low)) := by
  rw [ask_squash] at hE
  refine Calls.mono (squash_all hr hn C hC clock low major h0 hl) ?_
  rw [hE]
  rintro r W' ⟨b, h1, h2⟩
  unfold orNone
  by_cases z : E = 0
  · obtain ⟨zs, m', v, O, k1, k2, k3, k4, k5⟩ := h2 z
    have em := k1.unique (hm z)
    subst em
    have hb := by_out (fs := mt fs) (clock := clock) (low := low) (major := major) k1 h0.by
    rw [out_tld k1.ah k1.va] at k4 hb
    rw [if_pos z, z]
    exact ⟨v, zs, k2, vw_rw k3 b k4 hb⟩
  · rw [if_neg z]
    exact ⟨_, [], h1 z, Vw.none W b⟩
theorem p_top (h0 : RdL3 W a cap l) (hl : l.length ≤ 1353245080300) (hE : askE C fs clock 0 0 1 l = E) (hm : E = 0 → IsOrd fs.length (l.map EntD.dat) m) :
    Calls Tryz.prog 25 #[.agg #[.slice fa fs.length fc], .int .i64 clock, .slice a l.length cap] W fun r W' => r = .returned (.tuple #[.int .i64 (if E = 0 then topR (mt fs) clock m m else 0), .int .i64 E]) ∧ Below W.heap.size W W' := by
  have hV := hE
  rw [ask_vis] at hV
  rw [ask_top] at hE
  refine Calls.mono (top_any sort_ok hr hn C hC clock h0 hl) ?_
  rw [hE]
  rintro r W' ⟨b, h1, h2⟩
  by_cases z : E = 0
  · obtain ⟨xs, ys, k1, k2, k3, k4⟩ := h2 z
    obtain ⟨c0, hi⟩ := vis_zero (hV.trans z)
    have ho := isOrd_of hi k1 k2 k3
    have em := ho.unique (hm z)
    rw [em] at k4 ho
    rw [top_ref ho.ah ho.va] at k4
    rw [if_pos z, z]
    exact ⟨k4, b⟩
  · rw [if_neg z]
    exact ⟨h1 z, b⟩
end
end Go.Proofs.YtganmnckdmkcbaaGreat

namespace Go.Proofs.YtganmnckdmkcbaaGreat
open Go.RowKit Go.Maps
set_option linter.unusedVariables false

structure AskD where
  k : Int
  fa : Option Addr
  fc : Nat
  fs : List FamD
  clock : Int
  t : Int
  n : Int
  major : Bool
  la : Option Addr
  lc : Nat
  l : List EntD
def AskD.cells (o : AskD) : List Value := [.int .i64 o.k, .slice o.fa o.fs.length o.fc, .int .i64 o.clock, .int .i64 o.t, .int .i64 o.n, .bool o.major, .slice o.la o.l.length o.lc]
def AskD.Ok (w : World) (o : AskD) : Prop := RdF w (.slice o.fa o.fs.length o.fc) o.fs ∧ (o.fa = none → o.fc = 0) ∧ RdL3 w o.la o.lc o.l ∧ o.l.length ≤ 1353245080300 ∧ ∀ x ∈ o.l, ShrtW x
def RdA (w : World) (v : Value) (os : List AskD) : Prop :=
  os.length ≤ 281474976710656 ∧ ∃ a cap, v = .slice a os.length cap ∧ (os = [] ∨ ∃ b off, a = some ⟨b, off, none⟩ ∧ ∀ i o, os[i]? = some o → (∀ j x, o.cells[j]? = some x → w.cell? ⟨b, off + i * 7 + j, none⟩ = some x) ∧ AskD.Ok w o)
theorem schema_c (fs : List FamD) : ∃ C : Nat, (C = 0 ↔ SchemaOk fs) ∧ (C = 0 ∨ C = 28) := by
  by_cases h : SchemaOk fs
  · exact ⟨0, ⟨fun _ => h, fun _ => rfl⟩, .inl rfl⟩
  · exact ⟨28, ⟨(fun z => by cases z), fun z => absurd z h⟩, .inr rfl⟩
theorem ord_or {k : Nat} {l : List EntD} (E : Int) (h : E = 0 → inOrderE (check3S k) l = 0) : ∃ m : List En, E = 0 → IsOrd k (l.map EntD.dat) m := by
  by_cases z : E = 0
  · obtain ⟨m, hm⟩ := ord_exists (h z)
    exact ⟨m, fun _ => hm⟩
  · exact ⟨[], fun q => absurd q z⟩
def RdL3E (w : World) (v : Value) (zs : List EntD) : Prop := ∃ a c, v = .slice a zs.length c ∧ RdL3 w a c zs
theorem Vw.fz {W W1 w w' : World} {B : Nat} {zs : List EntD} {v : Value} {p : List En} (h : Vw W w zs v p) (hW : W1.heap.size ≤ W.heap.size) (k : Fz B W1.heap.size w w') : RdL3E w' v zs := by
  have kk : ∀ g, W.heap.size ≤ g → g < w.heap.size → w'.heap[g]? = w.heap[g]? := fun g h1 h2 => k.block g h2 (.inr (by omega))
  have row := row_same h.row (fun g hg => kk g (h.row.lt g hg).1 (h.row.lt g hg).2)
  have ents : ∀ x ∈ zs, O3 w' W.heap.size x := fun x hx => (h.ents x hx).keepO (fun g hg => by
    have := (h.ents x hx).lt g hg
    exact kk g this.1 this.2)
  obtain ⟨a, c, e, hr⟩ := row_rdl row (fun x hx => (ents x hx).okB (h.by_ x hx))
  exact ⟨a, c, e, hr⟩
theorem ord_len {k : Nat} {l : List EntD} {m : List En} (hi : inOrderE (check3S k) l = 0) (h : IsOrd k (l.map EntD.dat) m) : m.length ≤ l.length := by
  obtain ⟨hc, xs, hx⟩ := inOrder_ok hi
  have ho := isOrd_of hi hx (List.mergeSort_perm xs (fun x y => decide (compareS x y ≤ 0))) (by
    have := List.pairwise_mergeSort (le := fun x y : EntD => decide (compareS x y ≤ 0)) (fun a b c h1 h2 => by
      simp only [decide_eq_true_eq] at *
      exact cmp_trans h1 h2) (fun a b => by
      have := compareS_swap a b
      simp only [Bool.or_eq_true, decide_eq_true_eq]
      omega) xs
    exact this.imp (fun h => by simpa using h))
  rw [h.unique ho, List.length_map, List.length_mergeSort]
  exact onceS_len hx
theorem read_len {t n : Int} (v : List En) : (readR t n v).length ≤ v.length := by
  have key : ∀ (v acc : List En), (v.foldl (fun r e => if e.ts ≤ t ∧ ((r.filter fun y => mates y e).length : Int) < n then r ++ [e] else r) acc).length ≤ acc.length + v.length := by
    intro v
    induction v with
    | nil => intro acc; simp
    | cons x v ih =>
      intro acc
      rw [List.foldl_cons]
      refine Nat.le_trans (ih _) ?_
      split
      · simp only [List.length_append, List.length_cons, List.length_nil]; omega
      · simp only [List.length_cons]; omega
  have := key v []
  simpa [readR] using this
theorem orNone_len {E : Int} {D : List En} {n : Nat} (h : E = 0 → D.length ≤ n) : (orNone E D).length ≤ n := by
  unfold orNone
  split
  · rename_i z; exact h z
  · simp
def Both (f g : Nat) (xs ys : Array Value) (W : World) : Prop :=
  ∃ (E : Int) (D : List En), D.length ≤ 1353245080300 ∧ (∀ Z, Below W.heap.size W Z → Calls Tryz.prog f xs Z fun r W' => ∃ v zs, r = .returned (.tuple #[v, .int .i64 E]) ∧ Vw Z W' zs v D) ∧ (∀ Z, Below W.heap.size W Z → Calls Tryz.prog g ys Z fun r W' => ∃ v zs, r = .returned (.tuple #[v, .int .i64 E]) ∧ Vw Z W' zs v D)
section
variable {W : World} {aL la fa : Option Addr} {cL lc fc : Nat} {ys l : List EntD} {fs : List FamD} (hy : RdL3 W aL cL ys) (hl : RdL3 W la lc l) (hz : ys.map EntD.dat = l.map EntD.dat) (hn : l.length ≤ 1353245080300)
include hy hl hz hn
theorem both_sort : Both 15 16 #[.slice aL l.length cL] #[.slice la l.length lc] W := by
  have ln : ys.length = l.length := by have := congrArg List.length hz; simpa using this
  obtain ⟨m, hm⟩ := ord_or (k := 8) (l := l) (inOrderE chkC l) (fun z => inOrderC_8 z)
  refine ⟨inOrderE chkC l, orNone (inOrderE chkC l) m, orNone_len (fun z => Nat.le_trans (ord_len (inOrderC_8 z) (hm z)) hn), fun Z b => ?_, fun Z b => r_sort (hl.later b) hn rfl hm⟩
  have := p_sort (hy.later b) (by rw [ln]; exact hn) (E := inOrderE chkC l) (m := m) (inOrder_dat chkC_dat hz) (fun z => by rw [hz]; exact hm z)
  rw [ln] at this
  exact this
variable (hr : RdF W (.slice fa fs.length fc) fs) (hnn : fa = none → fc = 0) (C : Nat) (hC : (C = 0 ↔ SchemaOk fs) ∧ (C = 0 ∨ C = 28)) (clock t n low : Int) (major : Bool)
include hr hnn hC
theorem both_vis : Both 19 20 #[.agg #[.slice fa fs.length fc], .int .i64 clock, .slice aL l.length cL] #[.agg #[.slice fa fs.length fc], .int .i64 clock, .slice la l.length lc] W := by
  have ln : ys.length = l.length := by have := congrArg List.length hz; simpa using this
  obtain ⟨m, hm⟩ := ord_or (k := fs.length) (l := l) (askE C fs clock 0 0 1 l) (fun z => (askE_ok z).2)
  refine ⟨askE C fs clock 0 0 1 l, _, orNone_len (fun z => ?_), fun Z b => ?_, fun Z b => r_vis (hr.later b) C hC clock (hl.later b) hn rfl hm⟩
  · exact Nat.le_trans (List.length_filter_le _ _) (Nat.le_trans (ord_len (askE_ok z).2 (hm z)) hn)
  · have := p_vis (hr.later b) hnn C hC clock (hy.later b) (by rw [ln]; exact hn) (E := askE C fs clock 0 0 1 l) (m := m) (ask_dat hz) (fun z => by rw [hz]; exact hm z)
    rw [ln] at this
    exact this
theorem both_read : Both 21 22 #[.agg #[.slice fa fs.length fc], .int .i64 clock, .int .i64 t, .int .i64 n, .slice aL l.length cL] #[.agg #[.slice fa fs.length fc], .int .i64 clock, .int .i64 t, .int .i64 n, .slice la l.length lc] W := by
  have ln : ys.length = l.length := by have := congrArg List.length hz; simpa using this
  obtain ⟨m, hm⟩ := ord_or (k := fs.length) (l := l) (askE C fs clock 0 t n l) (fun z => (askE_ok z).2)
  refine ⟨askE C fs clock 0 t n l, _, orNone_len (fun z => ?_), fun Z b => ?_, fun Z b => r_read (hr.later b) C hC clock t n (hl.later b) hn rfl hm⟩
  · exact Nat.le_trans (read_len _) (Nat.le_trans (List.length_filter_le _ _) (Nat.le_trans (ord_len (askE_ok z).2 (hm z)) hn))
  · have := p_read (hr.later b) hnn C hC clock t n (hy.later b) (by rw [ln]; exact hn) (E := askE C fs clock 0 t n l) (m := m) (ask_dat hz) (fun z => by rw [hz]; exact hm z)
    rw [ln] at this
    exact this
theorem both_squash : Both 23 24 #[.agg #[.slice fa fs.length fc], .int .i64 clock, .bool major, .int .i64 low, .slice aL l.length cL] #[.agg #[.slice fa fs.length fc], .int .i64 clock, .bool major, .int .i64 low, .slice la l.length lc] W := by
  have ln : ys.length = l.length := by have := congrArg List.length hz; simpa using this
  obtain ⟨m, hm⟩ := ord_or (k := fs.length) (l := l) (askE C fs clock low 0 1 l) (fun z => (askE_ok z).2)
  refine ⟨askE C fs clock low 0 1 l, _, orNone_len (fun z => ?_), fun Z b => ?_, fun Z b => r_squash (hr.later b) C hC clock low major (hl.later b) hn rfl hm⟩
  · unfold leftL
    rw [List.length_map]
    exact Nat.le_trans (List.length_filter_le _ _) (Nat.le_trans (ord_len (askE_ok z).2 (hm z)) hn)
  · have := p_squash (hr.later b) hnn C hC clock low major (hy.later b) (by rw [ln]; exact hn) (E := askE C fs clock low 0 1 l) (m := m) (ask_dat hz) (fun z => by rw [hz]; exact hm z)
    rw [ln] at this
    exact this
theorem both_top : ∃ (E T : Int), (∀ Z, Below W.heap.size W Z → Calls Tryz.prog 25 #[.agg #[.slice fa fs.length fc], .int .i64 clock, .slice aL l.length cL] Z fun r W' => r = .returned (.tuple #[.int .i64 T, .int .i64 E]) ∧ Below Z.heap.size Z W') ∧ (∀ Z, Below W.heap.size W Z → Calls Tryz.prog 26 #[.agg #[.slice fa fs.length fc], .int .i64 clock, .slice la l.length lc] Z fun r W' => r = .returned (.tuple #[.int .i64 T, .int .i64 E]) ∧ Below Z.heap.size Z W') := by
  have ln : ys.length = l.length := by have := congrArg List.length hz; simpa using this
  obtain ⟨m, hm⟩ := ord_or (k := fs.length) (l := l) (askE C fs clock 0 0 1 l) (fun z => (askE_ok z).2)
  refine ⟨askE C fs clock 0 0 1 l, _, fun Z b => ?_, fun Z b => r_top (hr.later b) C hC clock (hl.later b) hn rfl hm⟩
  have := p_top (hr.later b) hnn C hC clock (hy.later b) (by rw [ln]; exact hn) (E := askE C fs clock 0 0 1 l) (m := m) (ask_dat hz) (fun z => by rw [hz]; exact hm z)
  rw [ln] at this
  exact this
end
end Go.Proofs.YtganmnckdmkcbaaGreat

namespace Go.Proofs.YtganmnckdmkcbaaGreat
open Go.RowKit Go.Maps
set_option linter.unusedVariables false

theorem same_fz {w1 wx : World} {B : Nat} {za zb : List EntD} {D : List En} {aa ab : Option Addr} {ca cb : Nat} (h1 : Vw w1 wx za (.slice aa za.length ca) D) (h2 : Vw w1 wx zb (.slice ab zb.length cb) D) (hD : D.length ≤ 1353245080300) (w5 : World) (fz : Fz B w1.heap.size wx w5) : Calls Tryz.prog 18 #[.slice aa za.length ca, .slice ab zb.length cb] w5 fun e w' => e = .returned (.bool true) ∧ Below w5.heap.size w5 w' := by
  obtain ⟨a1, c1, e1, r1⟩ := h1.fz (Nat.le_refl _) fz
  obtain ⟨a2, c2, e2, r2⟩ := h2.fz (Nat.le_refl _) fz
  simp only [Value.slice.injEq] at e1 e2
  obtain ⟨rfl, -, rfl⟩ := e1
  obtain ⟨rfl, -, rfl⟩ := e2
  exact sameAll_ok r1 r2 (h1.dat.trans h2.dat.symm) (by have := congrArg List.length h1.dat; rw [List.length_map] at this; rw [this]; exact hD)
theorem ask_box (w : World) (o : AskD) : ∃ X, X = w.alloc (.cells o.cells.toArray 30) ∧ Below w.heap.size w X ∧ (∀ Z, Below X.heap.size X Z → ∀ j v, o.cells[j]? = some v → Z.cell? ⟨w.heap.size, j, none⟩ = some v) := by
  refine ⟨_, rfl, (Below.refl _ _).alloc (Nat.le_refl _) _, fun Z b j v hj => ?_⟩
  have hn : (w.alloc (.cells o.cells.toArray 30)).heap[w.heap.size]? = some (.cells o.cells.toArray 30 (0, 0)) := heap_new w _
  have : (w.alloc (.cells o.cells.toArray 30)).cell? ⟨w.heap.size, j, none⟩ = some v := by
    simp only [World.cell?, hn]
    simpa using hj
  rw [b.cell (World.block_lt_of_cell? _ _ this)]
  exact this
end Go.Proofs.YtganmnckdmkcbaaGreat
