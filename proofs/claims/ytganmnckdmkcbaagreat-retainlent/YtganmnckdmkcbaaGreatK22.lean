import Derived.Test.YtganmnckdmkcbaaGreatK21
namespace Go.Proofs.YtganmnckdmkcbaaGreat
open Go.RowKit Go.Maps
set_option linter.unusedVariables false

structure Vw (W wr : World) (zs : List EntD) (v : Value) (p : List En) : Prop where
  row : wr.ownsRow W.heap.size 84 7 v zs.length (evals zs)
  ents : ∀ x ∈ zs, O3 wr W.heap.size x
  below : Below W.heap.size W wr
  dat : zs.map EntD.dat = p
  by_ : ∀ x ∈ zs, ByE x.dat
theorem Vw.later {W wr wr' : World} {zs : List EntD} {v : Value} {p : List En} (h : Vw W wr zs v p) (b : Below wr.heap.size wr wr') : Vw W wr' zs v p :=
  ⟨row_same h.row (fun g hg => b.block g (h.row.lt g hg).2), fun x hx => (h.ents x hx).later b, h.below.trans (b.mono h.below.size), h.dat, h.by_⟩
theorem Vw.form {W wr : World} {zs : List EntD} {v : Value} {p : List En} (h : Vw W wr zs v p) : ∃ a c, v = .slice a zs.length c := by
  obtain ⟨a, c, e, -⟩ := row_rdl h.row (fun x hx => (h.ents x hx).okB (h.by_ x hx))
  exact ⟨a, c, e⟩
set_option maxRecDepth 100000 in
set_option maxHeartbeats 8000000 in
theorem refVisible_any {W0 : World} {fa a : Option Addr} {fc cap : Nat} {fs : List FamD} {l : List EntD} (clock : Int) (hr : RdF W0 (.slice fa fs.length fc) fs) (hU : LU fs l) (hl : RdL3 W0 a cap l) (hs : ∀ x ∈ l, Shrt x) (hn : l.length ≤ 1353245080300) :
    Calls Tryz.prog 53 #[.agg #[.slice fa fs.length fc], .int .i64 clock, .slice a l.length cap] W0 fun r W' => ∃ v zs, r = .returned v ∧ Vw W0 W' zs v ((l.map EntD.dat).filter (visB (mt fs) clock (l.map EntD.dat))) := by
  obtain ⟨W, hW, A, hb⟩ := sch_box W0 fa fs.length fc
  obtain ⟨N, hN⟩ : ∃ N, N = l.length := ⟨_, rfl⟩
  obtain ⟨K, hK⟩ : ∃ K, K = fs.length := ⟨_, rfl⟩
  obtain ⟨m, hm⟩ : ∃ m, m = l.map EntD.dat := ⟨_, rfl⟩
  have up : ∀ Z, Below W.heap.size W Z → Below W0.heap.size W0 Z := fun Z b => A.trans (b.mono A.size)
  have hc := hl.cap
  have HL := Lib.hid (fun (Z : World) (b : Below W.heap.size W Z) => hl.later (up Z b))
  have HGr := Lib.hid (fun (Z : World) (b : Below W.heap.size W Z) (x : EntD) (hx : x ∈ l) (h3 : x.kind ≤ 3) => group_in (fa := fa) (fc := fc) clock hU (hl.later (up Z b)) hx h3 hn)
  have HIn := Lib.hid (fun (Z : World) (b : Below W.heap.size W Z) (x : EntD) (hx : x ∈ l) (h3 : x.kind ≤ 3) => refIn_any clock (hr.later (up Z b)) (hU.un x hx) hU.tl (hl.later (up Z b)) ((hl.later (up Z b)).ok x hx) h3 hn)
  have HRk := Lib.hid (fun (Z : World) (b : Below W.heap.size W Z) (x : EntD) (hx : x ∈ l) => refRank_any clock (hr.later (up Z b)) hU (hl.later (up Z b)) ((hl.later (up Z b)).ok x hx) hn)
  have HCl := Lib.hid (fun (Z : World) (b : Below W.heap.size W Z) (x : EntD) (hx : x ∈ l) => cloneR_own ((hl.later (up Z b)).ok x hx) (hs x hx))
  rw [← hN, ← hm] at HGr
  rw [← hN, ← hm, ← hK] at HIn HRk
  have HF := Lib.hid (fun (k : Nat) (hk : k < fs.length) => fam_cell hr hk)
  have HUp := Lib.hid up
  rw [← hK] at hb hW
  rw [← hN] at hn hc
  rw [← hm, ← hN, ← hK]
  have HW := Lib.hid hW
  have HA := Lib.hid A
  have HN := Lib.hid hN
  have HK := Lib.hid hK
  have HM := Lib.hid hm
  have HB := Lib.hid hb
  have HU := Lib.hid hU
  have HBy : Hid (∀ x ∈ l, ByE x.dat) := fun x hx => hl.by _ (List.mem_map_of_mem hx)
  unfold EntD.cells at HGr HIn HRk HCl
  clear hW A hb hN hl hr hU up hm hK hs
  go_enter Tryz.func53, Tryz.ntmps53
  go_upto_region 1 with fail
  rw [← HW.out]
  clear HW
  go_wp2
  go_loopw [7, 8, 9, 10, 11] (fun v i _ _ _ wr => ∃ (t : Nat) (zs : List EntD) (am : Option Addr) (cm : Nat), t ≤ N ∧ i = .int .i64 (t : Int) ∧ v = .slice am zs.length cm ∧ Hid (Vw W wr zs (.slice am zs.length cm) (((l.take t).map EntD.dat).filter (visB (mt fs) clock m))) ∧ zs.length ≤ t) (fun _ i _ _ _ _ => N - (intOf i).toNat)
  case atStart => exact ⟨0, [], none, 0, Nat.zero_le _, rfl, rfl, ⟨(Rw.nil W W.heap.size (fun _ => True)).row, by simp, Below.refl _ _, by simp, by simp⟩, Nat.le_refl _⟩
  case round =>
    obtain ⟨t, zs, am, cm, ht, rfl, rfl, HQ, hzt⟩ := hrel
    have t0 : (0 : Int) ≤ (t : Int) := by omega
    obtain ⟨L, hL⟩ : ∃ L, L = zs.length := ⟨_, rfl⟩
    have HLz := Lib.hid hL
    rw [← hL] at HQ hzt ⊢
    clear hL
    by_cases hlt : t < N
    · have hlt2 : (t : Int) < (N : Int) := by omega
      obtain ⟨x, hx⟩ : ∃ x, l[t]? = some x := ⟨l[t]'(by rw [← HN.out]; exact hlt), List.getElem?_eq_getElem _⟩
      have HX := Lib.hid hx
      have HXm := Lib.hid (List.mem_of_getElem? hx)
      obtain ⟨kf, hkf⟩ : ∃ kf : Nat, x.fam = (kf : Int) := ⟨x.fam.toNat, by have := (HU.out.un x HXm.out).f0; omega⟩
      have hkl : kf < K := by have := (HU.out.un x HXm.out).fK; rw [HK.out]; omega
      obtain ⟨bf, of, fd, rfl, hfd, hcf⟩ := HF.out kf (by rw [← HK.out]; exact hkl)
      obtain ⟨bl, ol, rfl⟩ : ∃ b off, a = some ⟨b, off, none⟩ := by
        rcases (HL.out _ (Below.refl _ _)).at_ with h0 | ⟨b, off, q, _⟩
        · rw [h0] at hx; simp at hx
        · exact ⟨b, off, q⟩
      have HC : Hid (∀ Z, Below W.heap.size W Z → Z.cell? ⟨W0.heap.size, 0, none⟩ = some (.slice (some ⟨bf, of, none⟩) K fc) ∧ Z.cell? ⟨bf, of + kf * 3 + 1, none⟩ = some (.int .i64 fd.mx) ∧ Z.cell? ⟨bl, ol + t * 7, none⟩ = some x.vr ∧ Z.cell? ⟨bl, ol + t * 7 + 1, none⟩ = some (.int .i64 (kf : Int)) ∧ Z.cell? ⟨bl, ol + t * 7 + 2, none⟩ = some x.vq ∧ Z.cell? ⟨bl, ol + t * 7 + 3, none⟩ = some (.int .i64 x.ts) ∧ Z.cell? ⟨bl, ol + t * 7 + 4, none⟩ = some (.int .i64 x.seq) ∧ Z.cell? ⟨bl, ol + t * 7 + 5, none⟩ = some (.int .i64 x.kind) ∧ Z.cell? ⟨bl, ol + t * 7 + 6, none⟩ = some x.vv) := fun Z b => by
        have cx := (HL.out Z b).cells (Below.refl _ _) hx
        exact ⟨HB.out Z b, (hcf Z (HUp.out Z b)).1, by have := cx 0 _ rfl; simpa using this, by have := cx 1 _ rfl; rwa [hkf] at this, cx 2 _ rfl, cx 3 _ rfl, cx 4 _ rfl, cx 5 _ rfl, cx 6 _ rfl⟩
      have HS : Hid (((l.take (t + 1)).map EntD.dat).filter (visB (mt fs) clock m) = ((l.take t).map EntD.dat).filter (visB (mt fs) clock m) ++ if visB (mt fs) clock m x.dat then [x.dat] else []) := by
        unfold Hid
        rw [List.take_add_one, hx, List.map_append, List.filter_append]
        congr 1
        cases z : visB (mt fs) clock m x.dat <;> simp [z]
      have HV : Hid (visB (mt fs) clock m x.dat = (decide (x.kind = 1) && (decidesS m x.dat && inB fs clock m x.dat && decide (above (mt fs) clock m x.dat + 1 ≤ fd.mx)))) := by
        unfold Hid visB inB
        have : famAt (mt fs) x.dat.fam = (fd.mx, fd.tl) := by
          show famAt (mt fs) x.fam = _
          rw [hkf, fam_mt hfd]
        rw [this]
        rfl
      have k0 : (0 : Int) ≤ (kf : Int) := by omega
      have kK : (kf : Int) < (K : Int) := by omega
      have HNo : Hid (visB (mt fs) clock m x.dat = false → ∀ Z, Below wr.heap.size wr Z → Vw W Z zs (.slice am L cm) (((l.take (t + 1)).map EntD.dat).filter (visB (mt fs) clock m))) := fun h Z b => by
        rw [HS.out, h, if_neg (by simp), List.append_nil]
        exact HQ.out.later b
      have HFk := Lib.hid hkf
      have HBw := Lib.hid HQ.out.below
      clear hx hfd hcf hkf
      by_cases c1 : x.kind = 1
      · have HG1 := Lib.hid (fun (Z : World) (k : Below W.heap.size W Z) => HGr.out Z k x HXm.out (by omega))
        have HI1 := Lib.hid (fun (Z : World) (k : Below W.heap.size W Z) => HIn.out Z k x HXm.out (by omega))
        have HR1 := Lib.hid (fun (Z : World) (k : Below W.heap.size W Z) => HRk.out Z k x HXm.out)
        have HC1 := Lib.hid (fun (Z : World) (k : Below W.heap.size W Z) => HCl.out Z k x HXm.out)
        rw [HFk.out] at HG1 HI1 HR1 HC1
        obtain ⟨dd, hdd⟩ : ∃ dd, dd = decidesS m x.dat := ⟨_, rfl⟩
        obtain ⟨ii, hii⟩ : ∃ ii, ii = inB fs clock m x.dat := ⟨_, rfl⟩
        obtain ⟨rk, hrk⟩ : ∃ rk, rk = above (mt fs) clock m x.dat + 1 := ⟨_, rfl⟩
        rw [← hdd] at HG1 HV
        rw [← hii] at HI1 HV
        rw [← hrk] at HR1 HV
        rw [decide_eq_true c1, Bool.true_and] at HV
        clear hdd hii hrk
        obtain ⟨s0, s1, x0, x1, x2, x3, x4, x5, x6⟩ := HC.out _ HBw.out
        have n1 : (x.kind != 1) = false := by simpa using c1
        clear c1
        go_wp2_with fail
        refine Calls.mono (HG1.out _ HBw.out) ?_
        rintro r w4 ⟨kk, rfl, -, -, b4⟩
        have B4 := Lib.hid b4
        have D0 : Below wr.heap.size wr w4.drew := b4.drew
        clear b4 s0 s1 x0 x1 x2 x3 x4 x5 x6
        have HCb : Hid (∀ Z, Below wr.heap.size wr Z → Z.cell? ⟨W0.heap.size, 0, none⟩ = some (.slice (some ⟨bf, of, none⟩) K fc) ∧ Z.cell? ⟨bf, of + kf * 3 + 1, none⟩ = some (.int .i64 fd.mx) ∧ Z.cell? ⟨bl, ol + t * 7, none⟩ = some x.vr ∧ Z.cell? ⟨bl, ol + t * 7 + 1, none⟩ = some (.int .i64 (kf : Int)) ∧ Z.cell? ⟨bl, ol + t * 7 + 2, none⟩ = some x.vq ∧ Z.cell? ⟨bl, ol + t * 7 + 3, none⟩ = some (.int .i64 x.ts) ∧ Z.cell? ⟨bl, ol + t * 7 + 4, none⟩ = some (.int .i64 x.seq) ∧ Z.cell? ⟨bl, ol + t * 7 + 5, none⟩ = some (.int .i64 x.kind) ∧ Z.cell? ⟨bl, ol + t * 7 + 6, none⟩ = some x.vv) := fun Z b => HC.out Z (HBw.out.trans (b.mono HBw.out.size))
        have HDb : Hid (∀ Z, Below wr.heap.size wr Z → Below W.heap.size W Z) := fun Z b => HBw.out.trans (b.mono HBw.out.size)
        go_wp2_with fail
        go_region_held3 (fun Z => Z.cell? ⟨W0.heap.size, 0, none⟩ = some (.slice (some ⟨bf, of, none⟩) K fc) ∧ Z.cell? ⟨bf, of + kf * 3 + 1, none⟩ = some (.int .i64 fd.mx) ∧ Z.cell? ⟨bl, ol + t * 7, none⟩ = some x.vr ∧ Z.cell? ⟨bl, ol + t * 7 + 1, none⟩ = some (.int .i64 (kf : Int)) ∧ Z.cell? ⟨bl, ol + t * 7 + 2, none⟩ = some x.vq ∧ Z.cell? ⟨bl, ol + t * 7 + 3, none⟩ = some (.int .i64 x.ts) ∧ Z.cell? ⟨bl, ol + t * 7 + 4, none⟩ = some (.int .i64 x.seq) ∧ Z.cell? ⟨bl, ol + t * 7 + 5, none⟩ = some (.int .i64 x.kind) ∧ Z.cell? ⟨bl, ol + t * 7 + 6, none⟩ = some x.vv) (first | exact HCb.out _ D1 | exact HCb.out _ D0) ((go_at_call 63; refine Calls.mono (HI1.out _ (HDb.out _ D0)) ?_; rintro e1 w2 ⟨rfl, hb1⟩; have D1 := D0.trans (hb1.mono D0.size)))
        have BD := Lib.hid D1
        clear D0 D1
        cases dd with
        | false =>
          have HN2 := Lib.hid (HNo.out (by rw [HV.out]; rfl))
          go_wp2_with fail
          go_quiet (fail)
          go_wp2
          go_roundw
          case rel => exact ⟨t + 1, zs, am, cm, by omega, by go_num, by rw [← HLz.out], by rw [← HLz.out]; exact HN2.out _ (below_dn BD.out _), by rw [← HLz.out]; omega⟩
          case measure => simp only [intOf]; omega
        | true =>
          cases ii with
          | false =>
            have HN2 := Lib.hid (HNo.out (by rw [HV.out]; rfl))
            go_wp2_with fail
            go_quiet (fail)
            go_wp2
            go_roundw
            case rel => exact ⟨t + 1, zs, am, cm, by omega, by go_num, by rw [← HLz.out], by rw [← HLz.out]; exact HN2.out _ (below_dn BD.out _), by rw [← HLz.out]; omega⟩
            case measure => simp only [intOf]; omega
          | true =>
            rw [show (true && true && decide (rk ≤ fd.mx)) = decide (rk ≤ fd.mx) from rfl] at HV
            have D0 : Below wr.heap.size wr w2.drew := BD.out.drew
            by_cases ck : rk ≤ fd.mx
            · have HYe : Hid (visB (mt fs) clock m x.dat = true) := by unfold Hid; rw [HV.out]; exact decide_eq_true ck
              go_wp2_with fail
              go_region_held3 (fun Z => Z.cell? ⟨W0.heap.size, 0, none⟩ = some (.slice (some ⟨bf, of, none⟩) K fc) ∧ Z.cell? ⟨bf, of + kf * 3 + 1, none⟩ = some (.int .i64 fd.mx) ∧ Z.cell? ⟨bl, ol + t * 7, none⟩ = some x.vr ∧ Z.cell? ⟨bl, ol + t * 7 + 1, none⟩ = some (.int .i64 (kf : Int)) ∧ Z.cell? ⟨bl, ol + t * 7 + 2, none⟩ = some x.vq ∧ Z.cell? ⟨bl, ol + t * 7 + 3, none⟩ = some (.int .i64 x.ts) ∧ Z.cell? ⟨bl, ol + t * 7 + 4, none⟩ = some (.int .i64 x.seq) ∧ Z.cell? ⟨bl, ol + t * 7 + 5, none⟩ = some (.int .i64 x.kind) ∧ Z.cell? ⟨bl, ol + t * 7 + 6, none⟩ = some x.vv) (first | exact HCb.out _ D1 | exact HCb.out _ D0) ((go_at_call 88; refine Calls.mono (HR1.out _ (HDb.out _ D0)) ?_; rintro e1 w3 ⟨rfl, hb1⟩; have D1 := D0.trans (hb1.mono D0.size)))
              have BE := Lib.hid D1
              clear D0 D1 ck
              obtain ⟨s0, s1, x0, x1, x2, x3, x4, x5, x6⟩ := HCb.out _ BE.out
              go_wp2_with fail
              refine Calls.mono (HC1.out _ (HDb.out _ BE.out)) ?_
              rintro z1 w6 ⟨x', rfl, sx, ok1, o31, b6⟩
              have HSx := Lib.hid (EntD.dat_same.2 sx)
              have O31 := Lib.hid o31
              have B6 := Lib.hid b6
              obtain ⟨xr, xf, xq, xt, xs2, xk, xv, xrow, xqual, xval⟩ := x'
              obtain ⟨ar, cr, er⟩ := own_form' o31.row
              obtain ⟨aq, cq, eq⟩ := own_form' o31.qual
              obtain ⟨aw, cw, ew⟩ := own_form' o31.val
              simp only at er eq ew
              subst er eq ew
              dsimp only
              clear sx ok1 o31 b6 s0 s1 x0 x1 x2 x3 x4 x5 x6
              have HAl := Lib.hid ((Below.refl w6.heap.size w6).alloc (Nat.le_refl _) (.cells #[.slice ar xrow.length cr, .int .i64 xf, .slice aq xqual.length cq, .int .i64 xt, .int .i64 xs2, .int .i64 xk, .slice aw xval.length cw] 84))
              have HQ6 := Lib.hid (HQ.out.later BE.out |>.later B6.out |>.later HAl.out)
              have HRow := HQ6.out.row
              have HSz := HQ6.out.below.size
              have HRr := Lib.hid HRow
              have HSs := Lib.hid HSz
              clear HRow HSz
              go_wp2_with (at_builtin; refine wpl_append_ent (x := (⟨.slice ar xrow.length cr, xf, .slice aq xqual.length cq, xt, xs2, xk, .slice aw xval.length cw, xrow, xqual, xval⟩ : EntD)) (xs := zs) rfl _ _ rfl rfl HRr.out ⟨w6.heap.size, 0, none⟩ rfl (ent_new w6 (⟨.slice ar xrow.length cr, xf, .slice aq xqual.length cq, xt, xs2, xk, .slice aw xval.length cw, xrow, xqual, xval⟩ : EntD)) (O3.cells_one O31.out) (by rw [← HLz.out]; omega) HSs.out ?_)
              intro a7 c7 w7 row7 gr7
              obtain ⟨xx, hxx⟩ : ∃ xx : EntD, xx = ⟨.slice ar xrow.length cr, xf, .slice aq xqual.length cq, xt, xs2, xk, .slice aw xval.length cw, xrow, xqual, xval⟩ := ⟨_, rfl⟩
              rw [← hxx] at row7 HSx O31
              have HF7 : Hid (Vw W w7 (zs ++ [xx]) (.slice a7 (L + 1) c7) (((l.take (t + 1)).map EntD.dat).filter (visB (mt fs) clock m))) := by
                have bw := HQ6.out.below
                have ku7 : KU w6 w7 := (KU.of HAl.out).trans (row_ku (W := W) HRr.out gr7)
                have kz : KU (w6.alloc (.cells #[.slice ar xrow.length cr, .int .i64 xf, .slice aq xqual.length cq, .int .i64 xt, .int .i64 xs2, .int .i64 xk, .slice aw xval.length cw] 84)) w7 := row_ku (W := W) HRr.out gr7
                refine ⟨by rw [List.length_append]; rw [HLz.out]; exact row7, fun y hy => ?_, bw.grown gr7 bw.size (fun k hk => (HRr.out.lt k hk).1), ?_, fun y hy => ?_⟩
                · rcases List.mem_append.1 hy with q | q
                  · exact (HQ6.out.ents y q).ku kz
                  · rw [List.mem_singleton] at q
                    rw [q]
                    exact (O31.out.mono (HDb.out _ BE.out).size).ku ku7
                · rw [HS.out, HYe.out, if_pos rfl, List.map_append, HQ.out.dat, List.map_singleton, HSx.out]
                · rcases List.mem_append.1 hy with q | q
                  · exact HQ.out.by_ y q
                  · rw [List.mem_singleton] at q
                    rw [q, HSx.out]
                    exact HBy.out x HXm.out
              clear row7 gr7
              rw [← HLz.out]
              go_wp2
              go_roundw
              case rel => exact ⟨t + 1, zs ++ [xx], a7, c7, by omega, by go_num, by rw [List.length_append, ← HLz.out]; rfl, by rw [List.length_append, ← HLz.out]; exact HF7.out, by rw [List.length_append, ← HLz.out]; simp; omega⟩
              case measure => simp only [intOf]; omega
            · have HN2 := Lib.hid (HNo.out (by rw [HV.out]; exact decide_eq_false ck))
              go_wp2_with fail
              go_region_held3 (fun Z => Z.cell? ⟨W0.heap.size, 0, none⟩ = some (.slice (some ⟨bf, of, none⟩) K fc) ∧ Z.cell? ⟨bf, of + kf * 3 + 1, none⟩ = some (.int .i64 fd.mx) ∧ Z.cell? ⟨bl, ol + t * 7, none⟩ = some x.vr ∧ Z.cell? ⟨bl, ol + t * 7 + 1, none⟩ = some (.int .i64 (kf : Int)) ∧ Z.cell? ⟨bl, ol + t * 7 + 2, none⟩ = some x.vq ∧ Z.cell? ⟨bl, ol + t * 7 + 3, none⟩ = some (.int .i64 x.ts) ∧ Z.cell? ⟨bl, ol + t * 7 + 4, none⟩ = some (.int .i64 x.seq) ∧ Z.cell? ⟨bl, ol + t * 7 + 5, none⟩ = some (.int .i64 x.kind) ∧ Z.cell? ⟨bl, ol + t * 7 + 6, none⟩ = some x.vv) (first | exact HCb.out _ D1 | exact HCb.out _ D0) ((go_at_call 88; refine Calls.mono (HR1.out _ (HDb.out _ D0)) ?_; rintro e1 w3 ⟨rfl, hb1⟩; have D1 := D0.trans (hb1.mono D0.size)))
              go_wp2
              go_roundw
              case rel => exact ⟨t + 1, zs, am, cm, by omega, by go_num, by rw [← HLz.out], by rw [← HLz.out]; exact HN2.out _ D1, by rw [← HLz.out]; omega⟩
              case measure => simp only [intOf]; omega
      · have hno : visB (mt fs) clock m x.dat = false := by rw [HV.out]; simp [c1]
        have HN2 := Lib.hid (HNo.out hno)
        obtain ⟨s0, s1, x0, x1, x2, x3, x4, x5, x6⟩ := HC.out _ HBw.out
        have n1 : (x.kind != 1) = true := by simpa using c1
        clear c1 hno
        go_wp2
        go_roundw
        case rel => exact ⟨t + 1, zs, am, cm, by omega, by go_num, by rw [← HLz.out], by rw [← HLz.out]; exact HN2.out _ (Below.refl _ _), by rw [← HLz.out]; omega⟩
        case measure => simp only [intOf]; omega
    · have hge : ¬ (t : Int) < (N : Int) := by omega
      have HF9 : Hid (Vw W0 wr zs (.slice am L cm) (m.filter (visB (mt fs) clock m))) := by
        have h := HQ.out
        rw [List.take_of_length_le (by rw [← HN.out]; omega), ← HM.out] at h
        exact ⟨row_low h.row HA.out.size, fun x hx => (h.ents x hx).low HA.out.size, HA.out.trans (h.below.mono HA.out.size), h.dat, h.by_⟩
      go_wp2
      go_ret
      exact ⟨_, rfl, zs, HF9.out⟩
end Go.Proofs.YtganmnckdmkcbaaGreat

namespace Go.Proofs.YtganmnckdmkcbaaGreat
open Go.RowKit Go.Maps
set_option linter.unusedVariables false

set_option maxRecDepth 100000 in
set_option maxHeartbeats 2000000 in
theorem refOut_any {w : World} (v : Int) : Calls Tryz.prog 87 #[.int .i64 v] w fun r w' => r = .returned (.bool (badT v)) ∧ w' = w := by
  obtain ⟨q, hq⟩ : ∃ q, q = badT v := ⟨_, rfl⟩
  rw [← hq]
  have HQ : Hid (q = (decide (v < 0) || decide (1099511627776 < v))) := by
    unfold Hid
    rw [hq]
    rfl
  clear hq
  go_enter Tryz.func87, Tryz.ntmps87
  by_cases c1 : v < 0
  · have d1 : decide (v < 0) = true := decide_eq_true c1
    have q' : Hid (q = true) := by unfold Hid; rw [HQ.out]; simp [c1]
    clear HQ
    go_wp2
    go_ret
    exact ⟨by rw [q'.out]; rfl, rfl⟩
  · by_cases c2 : 1099511627776 < v
    · have d1 : decide (1099511627776 < v) = true := decide_eq_true c2
      have q' : Hid (q = true) := by unfold Hid; rw [HQ.out]; simp [c2]
      clear HQ
      go_wp2
      go_ret
      exact ⟨by rw [q'.out]; rfl, rfl⟩
    · have d1 : decide (1099511627776 < v) = false := decide_eq_false c2
      have q' : Hid (q = false) := by unfold Hid; rw [HQ.out]; simp [c1, c2]
      clear HQ
      go_wp2
      go_ret
      exact ⟨by rw [q'.out]; rfl, rfl⟩
def askE (C : Nat) (fs : List FamD) (clock low t n : Int) (l : List EntD) : Int := if C ≠ 0 then (C : Int) else if (badT clock || badT low || badT t || decide (n < 1) || decide (16 < n)) = true then 32 else inOrderE (check3S fs.length) l
set_option maxRecDepth 100000 in
set_option maxHeartbeats 8000000 in
theorem refAsked_any {w : World} {fa a : Option Addr} {fc cap : Nat} {fs : List FamD} {l : List EntD} (hr : RdF w (.slice fa fs.length fc) fs) (C : Nat) (hC : (C = 0 ↔ SchemaOk fs) ∧ (C = 0 ∨ C = 28)) (clock low t n : Int) (hl : RdL3 w a cap l) (hn : l.length ≤ 1353245080300) :
    Calls Tryz.prog 52 #[.agg #[.slice fa fs.length fc], .int .i64 clock, .int .i64 low, .int .i64 t, .int .i64 n, .slice a l.length cap] w fun r w' => r = .returned (.int .i64 (askE C fs clock low t n l)) ∧ Below w.heap.size w w' := by
  obtain ⟨W, hW, A, hb⟩ := sch_box w fa fs.length fc
  have HS := Lib.hid (refCheckSchema_is (hr.later A) C hC)
  have HK := Lib.hid (fun (Z : World) (b : Below W.heap.size W Z) => refChecked_any (fs.length : Int) (hl.later (A.trans (b.mono A.size))) hn)
  have eK : inOrderE (chkF (fs.length : Int)) l = inOrderE (check3S fs.length) l := by
    congr 1
    funext x
    exact chkF_k _ x
  obtain ⟨E, hE⟩ : ∃ E, E = inOrderE (check3S fs.length) l := ⟨_, rfl⟩
  rw [eK, ← hE] at HK
  obtain ⟨R, hR⟩ : ∃ R, R = askE C fs clock low t n l := ⟨_, rfl⟩
  rw [← hR]
  have HR : Hid (R = if C ≠ 0 then (C : Int) else if (badT clock || badT low || badT t || decide (n < 1) || decide (16 < n)) = true then 32 else E) := by
    unfold Hid
    rw [hR, hE]
    rfl
  obtain ⟨N, hN⟩ : ∃ N, N = l.length := ⟨_, rfl⟩
  obtain ⟨K, hK⟩ : ∃ K, K = fs.length := ⟨_, rfl⟩
  rw [← hN, ← hK] at HK
  rw [← hK] at HS hb hW
  rw [← hN, ← hK]
  have HW := Lib.hid hW
  have HA := Lib.hid A
  have HB := Lib.hid hb
  have HO : Hid (∀ (v : Int) (Z : World), Calls Tryz.prog 87 #[.int .i64 v] Z fun r w' => r = .returned (.bool (badT v)) ∧ w' = Z) := fun v Z => refOut_any v
  obtain ⟨bt, hbt⟩ : ∃ f : Int → Bool, f = badT := ⟨_, rfl⟩
  rw [← hbt] at HO HR
  clear hW A hb hN hK hl hr hR hE eK hbt hC hn
  go_enter Tryz.func52, Tryz.ntmps52
  go_upto_region 1 with fail
  rw [← HW.out]
  clear HW
  have s0 := HB.out _ (Below.refl _ _)
  go_wp2_with fail
  refine Calls.mono HS.out ?_
  rintro r w1 ⟨rfl, b1⟩
  have B1 := Lib.hid b1
  have s1 := HB.out _ b1
  clear s0 b1
  by_cases c0 : C = 0
  · subst c0
    rw [if_neg (by simp)] at HR
    have H1 := Lib.hid (fun (Z : World) => HO.out clock Z)
    have H2 := Lib.hid (fun (Z : World) => HO.out low Z)
    have H3 := Lib.hid (fun (Z : World) => HO.out t Z)
    cases e1 : bt clock with
    | true =>
      rw [e1] at H1 HR
      have q : Hid (R = 32) := by unfold Hid; rw [HR.out]; simp []
      clear HR
      go_wp2_with (first | (have hq := T2; clear hq; (go_at_call 87; refine Calls.mono (H3.out _) ?_; rintro r w' ⟨rfl, rfl⟩)) | (have hq := T1; clear hq; (go_at_call 87; refine Calls.mono (H2.out _) ?_; rintro r w' ⟨rfl, rfl⟩; have T2 : True := trivial)) | (go_at_call 87; refine Calls.mono (H1.out _) ?_; rintro r w' ⟨rfl, rfl⟩; have T1 : True := trivial))
      go_ret
      exact ⟨by rw [q.out]; rfl, HA.out.trans (B1.out.mono HA.out.size)⟩
    | false =>
      rw [e1] at H1 HR
      cases e2 : bt low with
      | true =>
        rw [e2] at H2 HR
        have q : Hid (R = 32) := by unfold Hid; rw [HR.out]; simp []
        clear HR
        go_wp2_with (first | (have hq := T2; clear hq; (go_at_call 87; refine Calls.mono (H3.out _) ?_; rintro r w' ⟨rfl, rfl⟩)) | (have hq := T1; clear hq; (go_at_call 87; refine Calls.mono (H2.out _) ?_; rintro r w' ⟨rfl, rfl⟩; have T2 : True := trivial)) | (go_at_call 87; refine Calls.mono (H1.out _) ?_; rintro r w' ⟨rfl, rfl⟩; have T1 : True := trivial))
        go_ret
        exact ⟨by rw [q.out]; rfl, HA.out.trans (B1.out.mono HA.out.size)⟩
      | false =>
        rw [e2] at H2 HR
        cases e3 : bt t with
        | true =>
          rw [e3] at H3 HR
          have q : Hid (R = 32) := by unfold Hid; rw [HR.out]; simp []
          clear HR
          go_wp2_with (first | (have hq := T2; clear hq; (go_at_call 87; refine Calls.mono (H3.out _) ?_; rintro r w' ⟨rfl, rfl⟩)) | (have hq := T1; clear hq; (go_at_call 87; refine Calls.mono (H2.out _) ?_; rintro r w' ⟨rfl, rfl⟩; have T2 : True := trivial)) | (go_at_call 87; refine Calls.mono (H1.out _) ?_; rintro r w' ⟨rfl, rfl⟩; have T1 : True := trivial))
          go_ret
          exact ⟨by rw [q.out]; rfl, HA.out.trans (B1.out.mono HA.out.size)⟩
        | false =>
          rw [e3] at H3 HR
          by_cases c4 : n < 1
          · have d4 : decide (n < 1) = true := decide_eq_true c4
            have q : Hid (R = 32) := by unfold Hid; rw [HR.out]; simp [c4]
            clear HR
            go_wp2_with (first | (have hq := T2; clear hq; (go_at_call 87; refine Calls.mono (H3.out _) ?_; rintro r w' ⟨rfl, rfl⟩)) | (have hq := T1; clear hq; (go_at_call 87; refine Calls.mono (H2.out _) ?_; rintro r w' ⟨rfl, rfl⟩; have T2 : True := trivial)) | (go_at_call 87; refine Calls.mono (H1.out _) ?_; rintro r w' ⟨rfl, rfl⟩; have T1 : True := trivial))
            go_ret
            exact ⟨by rw [q.out]; rfl, HA.out.trans (B1.out.mono HA.out.size)⟩
          · have d4 : decide (n < 1) = false := decide_eq_false c4
            by_cases c5 : 16 < n
            · have d5 : decide (16 < n) = true := decide_eq_true c5
              have q : Hid (R = 32) := by unfold Hid; rw [HR.out]; simp [c5]
              clear HR
              go_wp2_with (first | (have hq := T2; clear hq; (go_at_call 87; refine Calls.mono (H3.out _) ?_; rintro r w' ⟨rfl, rfl⟩)) | (have hq := T1; clear hq; (go_at_call 87; refine Calls.mono (H2.out _) ?_; rintro r w' ⟨rfl, rfl⟩; have T2 : True := trivial)) | (go_at_call 87; refine Calls.mono (H1.out _) ?_; rintro r w' ⟨rfl, rfl⟩; have T1 : True := trivial))
              go_ret
              exact ⟨by rw [q.out]; rfl, HA.out.trans (B1.out.mono HA.out.size)⟩
            · have d5 : decide (16 < n) = false := decide_eq_false c5
              have q : Hid (R = E) := by unfold Hid; rw [HR.out]; simp [c4, c5]
              clear HR
              go_wp2_with (first | (have hq := T2; clear hq; (go_at_call 87; refine Calls.mono (H3.out _) ?_; rintro r w' ⟨rfl, rfl⟩)) | (have hq := T1; clear hq; (go_at_call 87; refine Calls.mono (H2.out _) ?_; rintro r w' ⟨rfl, rfl⟩; have T2 : True := trivial)) | (go_at_call 87; refine Calls.mono (H1.out _) ?_; rintro r w' ⟨rfl, rfl⟩; have T1 : True := trivial))
              refine Calls.mono (HK.out _ B1.out) ?_
              rintro r w2 ⟨rfl, b2⟩
              have B2 := Lib.hid (B1.out.trans (b2.mono B1.out.size))
              clear b2
              go_wp2
              go_ret
              exact ⟨by rw [q.out]; rfl, HA.out.trans (B2.out.mono HA.out.size)⟩
  · have q : Hid (R = C) := by unfold Hid; rw [HR.out, if_pos c0]
    have n1 : ((C : Int) != 0) = true := by simpa using c0
    go_wp2
    go_ret
    exact ⟨by rw [q.out]; rfl, HA.out.trans (B1.out.mono HA.out.size)⟩
end Go.Proofs.YtganmnckdmkcbaaGreat

namespace Go.Proofs.YtganmnckdmkcbaaGreat
open Go.RowKit Go.Maps
set_option linter.unusedVariables false

theorem lu_of {fs : List FamD} {l : List En} {zs : List EntD} (hS : SchemaOk fs) (h : IsOrd fs.length l (zs.map EntD.dat)) : LU fs zs := by
  refine ⟨h.va, fun x hx => ?_, fun f hf => ?_⟩
  · have ck : check3S fs.length x = 0 := by rw [check_dat]; exact h.ck x.dat (List.mem_map_of_mem hx)
    have := check_zero.1 ck
    exact ⟨by omega, by omega, by omega, by omega⟩
  · obtain ⟨i, hi⟩ := List.mem_iff_getElem?.1 hf
    exact (hS.2 i f hi).1.2.2
theorem shrt_ord {k : Nat} {l : List En} {zs : List EntD} (h : IsOrd k l (zs.map EntD.dat)) : ∀ x ∈ zs, Shrt x := fun x hx => shrt_check (k := k) (by rw [check_dat]; exact h.ck x.dat (List.mem_map_of_mem hx))
theorem askE_ok {C : Nat} {fs : List FamD} {clock low t n : Int} {l : List EntD} (h : askE C fs clock low t n l = 0) : C = 0 ∧ inOrderE (check3S fs.length) l = 0 := by
  unfold askE at h
  by_cases c : C = 0
  · rw [if_neg (by simpa using c)] at h
    split at h
    · cases h
    · exact ⟨c, h⟩
  · rw [if_pos c] at h
    omega
theorem ordered_ok {W : World} {a : Option Addr} {cap : Nat} {fs : List FamD} {l : List EntD} (hl : RdL3 W a cap l) (hn : l.length ≤ 1353245080300) (hio : inOrderE (check3S fs.length) l = 0) (hS : SchemaOk fs) :
    Calls Tryz.prog 51 #[.slice a l.length cap] W fun r W' => ∃ (zs : List EntD) (a' : Option Addr) (c' : Nat), r = .returned (.slice a' zs.length c') ∧ Below W.heap.size W W' ∧ IsOrd fs.length (l.map EntD.dat) (zs.map EntD.dat) ∧ LU fs zs ∧ (∀ x ∈ zs, Shrt x) ∧ RdL3 W' a' c' zs ∧ zs.length ≤ l.length := by
  obtain ⟨hall, xs, hx⟩ := inOrder_ok hio
  refine Calls.mono (refOrdered_any hl (fun x hx => shrt_check (hall x hx)) ((oneS_once l).2 (by rw [hx]; simp)) hn) ?_
  rintro r W' ⟨v, zs, rfl, hod, hle⟩
  have ho := hod.ord hio
  obtain ⟨a', c', rfl, -, -, hrd⟩ := hod.rd
  exact ⟨zs, a', c', rfl, hod.below, ho, lu_of hS ho, shrt_ord ho, hrd, hle⟩
theorem Vw.low {W W1 W' : World} {zs : List EntD} {v : Value} {p : List En} (h : Vw W1 W' zs v p) (b : Below W.heap.size W W1) : Vw W W' zs v p :=
  ⟨row_low h.row b.size, fun x hx => (h.ents x hx).low b.size, b.trans (h.below.mono b.size), h.dat, h.by_⟩
set_option maxRecDepth 100000 in
set_option maxHeartbeats 8000000 in
theorem refVis_any {W : World} {fa a : Option Addr} {fc cap : Nat} {fs : List FamD} {l : List EntD} (hr : RdF W (.slice fa fs.length fc) fs) (C : Nat) (hC : (C = 0 ↔ SchemaOk fs) ∧ (C = 0 ∨ C = 28)) (clock : Int) (hl : RdL3 W a cap l) (hn : l.length ≤ 1353245080300) :
    Calls Tryz.prog 20 #[.agg #[.slice fa fs.length fc], .int .i64 clock, .slice a l.length cap] W fun r W' => Below W.heap.size W W' ∧ (askE C fs clock 0 0 1 l ≠ 0 → r = .returned (.tuple #[.slice none 0 0, .int .i64 (askE C fs clock 0 0 1 l)])) ∧ (askE C fs clock 0 0 1 l = 0 → ∃ (zs : List EntD) (v : Value) (m : List En), r = .returned (.tuple #[v, .int .i64 0]) ∧ IsOrd fs.length (l.map EntD.dat) m ∧ Vw W W' zs v (m.filter (visB (mt fs) clock m))) := by
  obtain ⟨W1, hW, A, hb⟩ := sch_box W fa fs.length fc
  obtain ⟨E, hE⟩ : ∃ E, E = askE C fs clock 0 0 1 l := ⟨_, rfl⟩
  have up : ∀ Z, Below W1.heap.size W1 Z → Below W.heap.size W Z := fun Z b => A.trans (b.mono A.size)
  have HAs := Lib.hid (refAsked_any (hr.later A) C hC clock 0 0 1 (hl.later A) hn)
  rw [← hE] at HAs ⊢
  have HOr : Hid (E = 0 → ∀ Z, Below W1.heap.size W1 Z → Calls Tryz.prog 51 #[.slice a l.length cap] Z _) := fun z Z b => ordered_ok (fs := fs) (hl.later (up Z b)) hn (askE_ok (hE.symm.trans z)).2 (hC.1.1 (askE_ok (hE.symm.trans z)).1)
  have HVi := Lib.hid (fun (Z : World) (b : Below W1.heap.size W1 Z) (zs : List EntD) (a' : Option Addr) (c' : Nat) (hU : LU fs zs) (hs : ∀ x ∈ zs, Shrt x) (hz : RdL3 Z a' c' zs) (hln : zs.length ≤ l.length) => refVisible_any clock (hr.later (up Z b)) hU hz hs (Nat.le_trans hln hn))
  obtain ⟨N, hN⟩ : ∃ N, N = l.length := ⟨_, rfl⟩
  obtain ⟨K, hK⟩ : ∃ K, K = fs.length := ⟨_, rfl⟩
  rw [← hN, ← hK] at HAs
  rw [← hN] at HOr
  rw [← hK] at HVi hb hW
  rw [← hN, ← hK]
  have HK := Lib.hid hK
  have HN := Lib.hid hN
  have HW := Lib.hid hW
  have HA := Lib.hid A
  have HB := Lib.hid hb
  clear hl hE hN hr hC hn hK hW A hb up
  go_enter Tryz.func20, Tryz.ntmps20
  go_upto_region 1 with fail
  rw [← HW.out]
  clear HW
  have s0 := HB.out _ (Below.refl _ _)
  go_wp2_with fail
  refine Calls.mono HAs.out ?_
  rintro z w1 ⟨rfl, b1⟩
  have B1 := Lib.hid b1
  have s1 := HB.out _ b1
  clear s0
  by_cases hz : E = 0
  · have D0 : Below W1.heap.size W1 w1.drew := b1.drew
    have HK2 := Lib.hid (HOr.out hz _ D0)
    subst hz
    clear b1 HAs HOr
    go_wp2_with fail
    go_region_held3 (fun Z => Z.cell? ⟨W.heap.size, 0, none⟩ = some (.slice fa K fc)) (first | exact HB.out _ D2 | exact HB.out _ D1 | exact HB.out _ D0) (first | (have hq := D1; clear hq; (go_at_call 53; refine Calls.mono HV2.out ?_; rintro z w3 ⟨v, ys, rfl, hv⟩; have D2 : Below W1.heap.size W1 w3 := D1.trans (hv.below.mono D1.size))) | (go_at_call 51; refine Calls.mono HK2.out ?_; rintro z w2 ⟨zs, a', c', rfl, b2, ho, hU, hs, hrd, hle⟩; have D1 : Below W1.heap.size W1 w2 := D0.trans (b2.mono D0.size); have HV2 := Lib.hid (HVi.out _ D1 zs a' c' hU hs hrd (by rw [← HN.out]; exact hle))))
    have HOd : Hid (IsOrd K (l.map EntD.dat) (zs.map EntD.dat)) := by rw [HK.out]; exact ho
    have HF := Lib.hid (hv.low (HA.out.trans (D1.mono HA.out.size)))
    clear hv HV2
    go_wp2
    go_ret2
    exact ⟨HF.out.below, ys, _, rfl, _, HOd.out, HF.out⟩
  · have hz2 : (E == 0) = false := by simpa using hz
    clear b1 HAs HOr
    go_wp2
    go_ret2
    exact ⟨HA.out.trans (B1.out.mono HA.out.size), fun _ => rfl, fun z => absurd z hz⟩
end Go.Proofs.YtganmnckdmkcbaaGreat

namespace Go.Proofs.YtganmnckdmkcbaaGreat
open Go.RowKit Go.Maps
set_option linter.unusedVariables false

set_option maxRecDepth 100000 in
set_option maxHeartbeats 8000000 in
theorem refTop_any {W : World} {fa a : Option Addr} {fc cap : Nat} {fs : List FamD} {l : List EntD} (hr : RdF W (.slice fa fs.length fc) fs) (C : Nat) (hC : (C = 0 ↔ SchemaOk fs) ∧ (C = 0 ∨ C = 28)) (clock : Int) (hl : RdL3 W a cap l) (hn : l.length ≤ 1353245080300) :
    Calls Tryz.prog 26 #[.agg #[.slice fa fs.length fc], .int .i64 clock, .slice a l.length cap] W fun r W' => Below W.heap.size W W' ∧ (askE C fs clock 0 0 1 l ≠ 0 → r = .returned (.tuple #[.int .i64 0, .int .i64 (askE C fs clock 0 0 1 l)])) ∧ (askE C fs clock 0 0 1 l = 0 → ∃ (m : List En), IsOrd fs.length (l.map EntD.dat) m ∧ r = .returned (.tuple #[.int .i64 (topR (mt fs) clock m m), .int .i64 0])) := by
  obtain ⟨W1, hW, A, hb⟩ := sch_box W fa fs.length fc
  obtain ⟨E, hE⟩ : ∃ E, E = askE C fs clock 0 0 1 l := ⟨_, rfl⟩
  have up : ∀ Z, Below W1.heap.size W1 Z → Below W.heap.size W Z := fun Z b => A.trans (b.mono A.size)
  have HAs := Lib.hid (refAsked_any (hr.later A) C hC clock 0 0 1 (hl.later A) hn)
  rw [← hE] at HAs ⊢
  have HOr : Hid (E = 0 → ∀ Z, Below W1.heap.size W1 Z → Calls Tryz.prog 51 #[.slice a l.length cap] Z _) := fun z Z b => ordered_ok (fs := fs) (hl.later (up Z b)) hn (askE_ok (hE.symm.trans z)).2 (hC.1.1 (askE_ok (hE.symm.trans z)).1)
  have HGr := Lib.hid (fun (zs : List EntD) (hU : LU fs zs) (hln : zs.length ≤ l.length) (Z : World) (a' : Option Addr) (c' : Nat) (hz : RdL3 Z a' c' zs) (x : EntD) (hx : x ∈ zs) (h3 : x.kind ≤ 3) => group_in (fa := fa) (fc := fc) clock hU hz hx h3 (Nat.le_trans hln hn))
  have HIn := Lib.hid (fun (zs : List EntD) (hU : LU fs zs) (hln : zs.length ≤ l.length) (Z : World) (b : Below W1.heap.size W1 Z) (a' : Option Addr) (c' : Nat) (hz : RdL3 Z a' c' zs) (x : EntD) (hx : x ∈ zs) (h3 : x.kind ≤ 3) => refIn_any clock (hr.later (up Z b)) (hU.un x hx) hU.tl hz (hz.ok x hx) h3 (Nat.le_trans hln hn))
  obtain ⟨N, hN⟩ : ∃ N, N = l.length := ⟨_, rfl⟩
  obtain ⟨K, hK⟩ : ∃ K, K = fs.length := ⟨_, rfl⟩
  rw [← hN, ← hK] at HAs
  rw [← hN] at HOr
  rw [← hK] at HIn hb hW
  rw [← hN, ← hK]
  have HHn := Lib.hid hn
  have HK := Lib.hid hK
  have HN := Lib.hid hN
  have HW := Lib.hid hW
  have HA := Lib.hid A
  have HB := Lib.hid hb
  clear hl hE hN hr hC hn hK hW A hb up
  go_enter Tryz.func26, Tryz.ntmps26
  go_upto_region 1 with fail
  rw [← HW.out]
  clear HW
  have s0 := HB.out _ (Below.refl _ _)
  go_wp2_with fail
  refine Calls.mono HAs.out ?_
  rintro z w1 ⟨rfl, b1⟩
  have B1 := Lib.hid b1
  have s1 := HB.out _ b1
  clear s0
  by_cases hz : E = 0
  · have HK2 := Lib.hid (HOr.out hz _ b1)
    subst hz
    clear b1 HAs HOr
    go_wp2_with fail
    refine Calls.mono HK2.out ?_
    rintro z w2 ⟨zs, a', c', rfl, b2, ho, hU, hs, hrd, hle⟩
    have HBz := Lib.hid (B1.out.trans (b2.mono B1.out.size))
    have hle' : zs.length ≤ l.length := by rw [← HN.out]; exact hle
    have HG := Lib.hid (HGr.out zs hU hle')
    have HI := Lib.hid (HIn.out zs hU hle')
    obtain ⟨m, hm⟩ : ∃ m, m = zs.map EntD.dat := ⟨_, rfl⟩
    have HOd : Hid (IsOrd K (l.map EntD.dat) m) := by rw [HK.out, hm]; exact ho
    have HRd : Hid (∀ Z, Below w2.heap.size w2 Z → RdL3 Z a' c' zs) := fun Z b => hrd.later b
    obtain ⟨M, hM⟩ : ∃ M, M = zs.length := ⟨_, rfl⟩
    have hMn : M ≤ 1353245080300 := by rw [hM]; exact Nat.le_trans hle' HHn.out
    have hMc := hrd.cap
    rw [← hM, ← hm] at HG HI
    rw [← hM] at hMc ⊢
    have HM := Lib.hid hM
    have HMd := Lib.hid hm
    unfold EntD.cells at HG HI
    clear b2 ho hU hs hrd hle hle' hM hm HGr HIn HK2 s1
    go_wp2
    go_loopw [10, 11, 12, 13, 14] (fun tv i _ _ _ wr => ∃ q : Nat, q ≤ M ∧ i = .int .i64 (q : Int) ∧ tv = .int .i64 (topR (mt fs) clock m ((zs.take q).map EntD.dat)) ∧ Hid (Below w2.heap.size w2 wr)) (fun _ i _ _ _ _ => M - (intOf i).toNat)
    case atStart => exact ⟨0, Nat.zero_le _, rfl, rfl, Below.refl _ _⟩
    case round =>
      obtain ⟨q, hq, rfl, rfl, HBw⟩ := hrel
      have q0 : (0 : Int) ≤ (q : Int) := by omega
      obtain ⟨T, hT⟩ : ∃ T, T = topR (mt fs) clock m ((zs.take q).map EntD.dat) := ⟨_, rfl⟩
      rw [← hT]
      have HT := Lib.hid hT
      clear hT
      by_cases hlt : q < M
      · have hlt2 : (q : Int) < (M : Int) := by omega
        obtain ⟨x, hx⟩ : ∃ x, zs[q]? = some x := ⟨zs[q]'(by rw [← HM.out]; exact hlt), List.getElem?_eq_getElem _⟩
        have HXm := Lib.hid (List.mem_of_getElem? hx)
        obtain ⟨bl, ol, rfl⟩ : ∃ b off, a' = some ⟨b, off, none⟩ := by
          rcases (HRd.out _ (Below.refl _ _)).at_ with h0 | ⟨b, off, q, _⟩
          · rw [h0] at hx; simp at hx
          · exact ⟨b, off, q⟩
        have HDb : Hid (∀ Z, Below w2.heap.size w2 Z → Below W1.heap.size W1 Z) := fun Z b => HBz.out.trans (b.mono HBz.out.size)
        have HC : Hid (∀ Z, Below w2.heap.size w2 Z → Z.cell? ⟨W.heap.size, 0, none⟩ = some (.slice fa K fc) ∧ Z.cell? ⟨bl, ol + q * 7, none⟩ = some x.vr ∧ Z.cell? ⟨bl, ol + q * 7 + 1, none⟩ = some (.int .i64 x.fam) ∧ Z.cell? ⟨bl, ol + q * 7 + 2, none⟩ = some x.vq ∧ Z.cell? ⟨bl, ol + q * 7 + 3, none⟩ = some (.int .i64 x.ts) ∧ Z.cell? ⟨bl, ol + q * 7 + 4, none⟩ = some (.int .i64 x.seq) ∧ Z.cell? ⟨bl, ol + q * 7 + 5, none⟩ = some (.int .i64 x.kind) ∧ Z.cell? ⟨bl, ol + q * 7 + 6, none⟩ = some x.vv) := fun Z b => by
          have cx := (HRd.out Z b).cells (Below.refl _ _) hx
          exact ⟨HB.out Z (HDb.out Z b), by have := cx 0 _ rfl; simpa using this, cx 1 _ rfl, cx 2 _ rfl, cx 3 _ rfl, cx 4 _ rfl, cx 5 _ rfl, cx 6 _ rfl⟩
        have HS : Hid (topR (mt fs) clock m ((zs.take (q + 1)).map EntD.dat) = if (x.kind ≤ 3 ∧ hasPut m x.dat = true ∧ maskOf m x.dat < x.ts ∧ expS (mt fs) clock x.dat = false) ∧ T < x.ts then x.ts else T) := by
          unfold Hid
          rw [List.take_add_one, hx, List.map_append, Option.toList_some, List.map_singleton, topR_snoc, ← HT.out]
          rfl
        have HV : Hid (∀ Z : World, Calls Tryz.prog 61 #[.agg x.cells] Z fun r w' => r = .returned (.bool (decide (x.kind ≤ 3))) ∧ Below Z.heap.size Z w') := fun Z => version_any
        unfold EntD.cells at HV
        clear hx
        obtain ⟨s0, x0, x1, x2, x3, x4, x5, x6⟩ := HC.out _ HBw.out
        go_wp2_with fail
        refine Calls.mono (HV.out _) ?_
        rintro r w3 ⟨rfl, b3⟩
        have B3 := Lib.hid (HBw.out.trans (b3.mono HBw.out.size))
        clear b3 s0 x0 x1 x2 x3 x4 x5 x6
        by_cases c3 : x.kind ≤ 3
        · rw [decide_eq_true c3]
          have HG1 := Lib.hid (HG.out _ _ _ (HRd.out _ B3.out) x HXm.out c3)
          have HI1 := Lib.hid (fun (Z : World) (b : Below w2.heap.size w2 Z) => HI.out Z (HDb.out Z b) _ _ (HRd.out Z b) x HXm.out c3)
          obtain ⟨dd, hdd⟩ : ∃ dd, dd = decidesS m x.dat := ⟨_, rfl⟩
          obtain ⟨ii, hii⟩ : ∃ ii, ii = inB fs clock m x.dat := ⟨_, rfl⟩
          rw [← hdd] at HG1
          rw [← hii] at HI1
          have HIi := Lib.hid hii
          have HC3 := Lib.hid c3
          clear hdd hii c3
          obtain ⟨s0, x0, x1, x2, x3, x4, x5, x6⟩ := HC.out _ B3.out
          go_wp2_with fail
          refine Calls.mono HG1.out ?_
          rintro r w4 ⟨kk, rfl, hk0, -, b4⟩
          have HK0 := Lib.hid hk0
          have D0 : Below w2.heap.size w2 w4.drew := (B3.out.trans (b4.mono B3.out.size)).drew
          clear b4 hk0 HG1 s0 x0 x1 x2 x3 x4 x5 x6
          go_wp2_with fail
          go_region_held3 (fun Z => Z.cell? ⟨W.heap.size, 0, none⟩ = some (.slice fa K fc) ∧ Z.cell? ⟨bl, ol + q * 7, none⟩ = some x.vr ∧ Z.cell? ⟨bl, ol + q * 7 + 1, none⟩ = some (.int .i64 x.fam) ∧ Z.cell? ⟨bl, ol + q * 7 + 2, none⟩ = some x.vq ∧ Z.cell? ⟨bl, ol + q * 7 + 3, none⟩ = some (.int .i64 x.ts) ∧ Z.cell? ⟨bl, ol + q * 7 + 4, none⟩ = some (.int .i64 x.seq) ∧ Z.cell? ⟨bl, ol + q * 7 + 5, none⟩ = some (.int .i64 x.kind) ∧ Z.cell? ⟨bl, ol + q * 7 + 6, none⟩ = some x.vv) (first | exact HC.out _ D1 | exact HC.out _ D0) ((go_at_call 63; refine Calls.mono (HI1.out _ D0) ?_; rintro e1 w5 ⟨rfl, hb1⟩; have D1 := D0.trans (hb1.mono D0.size)))
          have HB5 := Lib.hid D1
          obtain ⟨s0, x0, x1, x2, x3, x4, x5, x6⟩ := HC.out _ D1
          clear D0 D1 HI1
          by_cases ck : kk = 0
          · have qk : (kk != 0) = false := by simpa using ck
            have hp : Hid (hasPut m x.dat = false) := HK0.out.1 ck
            clear ck
            have hk : Hid (topR (mt fs) clock m ((zs.take (q + 1)).map EntD.dat) = T) := by unfold Hid; rw [HS.out, if_neg (fun z => by rw [hp.out] at z; exact absurd z.1.2.1 (by simp))]
            go_wp2
            go_roundw
            case rel => exact ⟨q + 1, by omega, by go_num, by rw [hk.out], HB5.out⟩
            case measure => simp only [intOf]; omega
          · have qk : (kk != 0) = true := by simpa using ck
            have hp : Hid (hasPut m x.dat = true) := by
              unfold Hid
              cases z : hasPut m x.dat with
              | true => rfl
              | false => exact absurd (HK0.out.2 z) ck
            clear ck HK0
            cases ii with
            | false =>
              have hk : Hid (topR (mt fs) clock m ((zs.take (q + 1)).map EntD.dat) = T) := by unfold Hid; rw [HS.out, if_neg (fun z => by have h := HIi.out; unfold inB at h; rw [show decide (maskOf m x.dat < x.dat.ts) = true from decide_eq_true z.1.2.2.1, z.1.2.2.2] at h; exact absurd h (by simp))]
              go_wp2
              go_roundw
              case rel => exact ⟨q + 1, by omega, by go_num, by rw [hk.out], HB5.out⟩
              case measure => simp only [intOf]; omega
            | true =>
              have hin : Hid (maskOf m x.dat < x.ts ∧ expS (mt fs) clock x.dat = false) := by
                have := HIi.out.symm
                unfold inB at this
                simp only [Bool.and_eq_true, decide_eq_true_eq, Bool.not_eq_true'] at this
                exact this
              by_cases ct : T < x.ts
              · have hk : Hid (topR (mt fs) clock m ((zs.take (q + 1)).map EntD.dat) = x.ts) := by unfold Hid; rw [HS.out, if_pos ⟨⟨HC3.out, hp.out, hin.out⟩, ct⟩]
                go_wp2
                go_roundw
                case rel => exact ⟨q + 1, by omega, by go_num, by rw [hk.out], HB5.out⟩
                case measure => simp only [intOf]; omega
              · have HCt := Lib.hid ct
                have hk : Hid (topR (mt fs) clock m ((zs.take (q + 1)).map EntD.dat) = T) := by unfold Hid; rw [HS.out, if_neg (fun z => HCt.out z.2)]
                go_wp2
                go_roundw
                case rel => exact ⟨q + 1, by omega, by go_num, by rw [hk.out], HB5.out⟩
                case measure => simp only [intOf]; omega
        · rw [decide_eq_false c3]
          have HC3 := Lib.hid c3
          clear c3
          have hk : Hid (topR (mt fs) clock m ((zs.take (q + 1)).map EntD.dat) = T) := by unfold Hid; rw [HS.out, if_neg (fun z => HC3.out z.1.1)]
          go_wp2
          go_roundw
          case rel => exact ⟨q + 1, by omega, by go_num, by rw [hk.out], B3.out⟩
          case measure => simp only [intOf]; omega
      · have hge : ¬ (q : Int) < (M : Int) := by omega
        have hk : Hid (T = topR (mt fs) clock m m) := by
          unfold Hid
          rw [HT.out, List.take_of_length_le (by rw [← HM.out]; omega), ← HMd.out]
        go_wp2
        go_ret2
        exact ⟨HA.out.trans ((HBz.out.trans (HBw.out.mono HBz.out.size)).mono HA.out.size), m, HOd.out, by rw [hk.out]; rfl⟩
  · have hz2 : (E == 0) = false := by simpa using hz
    clear b1 HAs HOr
    go_wp2
    go_ret2
    exact ⟨HA.out.trans (B1.out.mono HA.out.size), fun _ => rfl, fun z => absurd z hz⟩
end Go.Proofs.YtganmnckdmkcbaaGreat

namespace Go.Proofs.YtganmnckdmkcbaaGreat
open Go.RowKit
set_option linter.unusedVariables false

section
variable {fs : List (Int × Int)} {clock : Int}
def readR (t n : Int) (v : List En) : List En := v.foldl (fun r e => if e.ts ≤ t ∧ ((r.filter fun y => mates y e).length : Int) < n then r ++ [e] else r) []
theorem readR_snoc (t n : Int) (v : List En) (e : En) : readR t n (v ++ [e]) = if e.ts ≤ t ∧ (((readR t n v).filter fun y => mates y e).length : Int) < n then readR t n v ++ [e] else readR t n v := by
  unfold readR
  rw [List.foldl_append]
  rfl
theorem readR_sub (t n : Int) (v : List En) (e : En) (h : e ∈ readR t n v) : e ∈ v := by
  have key : ∀ (v r : List En), e ∈ v.foldl (fun r e => if e.ts ≤ t ∧ ((r.filter fun y => mates y e).length : Int) < n then r ++ [e] else r) r → e ∈ r ∨ e ∈ v := by
    intro v
    induction v with
    | nil => intro r h; exact .inl h
    | cons x v ih =>
      intro r h
      rw [List.foldl_cons] at h
      rcases ih _ h with q | q
      · split at q
        · rcases List.mem_append.1 q with q | q
          · exact .inl q
          · rw [List.mem_singleton] at q
            exact .inr (by rw [q]; exact List.mem_cons_self)
        · exact .inl q
      · exact .inr (List.mem_cons_of_mem _ q)
  rcases key v [] h with q | q
  · cases q
  · exact q
structure RI (t n : Int) (E P : List En) : Prop where
  out : (showS t n (P.map fun e => ⟨e, 5, rankIn E e⟩)).2 = readR t n (P.filter fun e => decide (e.kind = 1))
  cnt : ∀ l, P.getLast? = some l → (showS t n (P.map fun e => ⟨e, 5, rankIn E e⟩)).1 = (((showS t n (P.map fun e => ⟨e, 5, rankIn E e⟩)).2.filter fun y => mates y l).length : Int)
  le : (showS t n (P.map fun e => ⟨e, 5, rankIn E e⟩)).1 ≤ n
theorem RI.step {t n : Int} {E P Q : List En} {e : En} (hE : E = P ++ e :: Q) (hs : E.Pairwise Ah) (h3 : ∀ x ∈ E, x.kind ≤ 3) (hD : ∀ x ∈ E, ∀ y ∈ E, mates x y = true → x.ts = y.ts → x = y) (hn : 0 ≤ n) (h : RI t n E P) : RI t n E (P ++ [e]) := by
  have hp := List.pairwise_append.1 (hE ▸ hs)
  have hq := List.pairwise_cons.1 hp.2.1
  have eE : e ∈ E := by rw [hE]; simp
  have pE : ∀ y ∈ P, y ∈ E := fun y hy => by rw [hE]; exact List.mem_append_left _ hy
  have above : ∀ y ∈ P, mates y e = true → e.ts < y.ts := fun y hy M => by
    have a := hp.2.2 y hy e List.mem_cons_self
    have m := mates_iff.1 M
    have k1 := h3 y (pE y hy)
    have k2 := h3 e eE
    have t1 := a.ts m.1 m.2.1 (by omega) m.2.2 (by omega)
    have : y.ts ≠ e.ts := fun z => by
      have := hD y (pE y hy) e eE M z
      subst this
      exact ah_irrefl a
    omega
  obtain ⟨S, hS⟩ : ∃ S, S = showS t n (P.map fun e => (⟨e, 5, rankIn E e⟩ : Vd)) := ⟨_, rfl⟩
  have sub : ∀ y ∈ S.2, y ∈ P := fun y hy => by
    rw [hS, h.out] at hy
    exact (List.mem_filter.1 (readR_sub t n _ y hy)).1
  obtain ⟨c, hc⟩ : ∃ c : Int, c = if rankIn E e = 1 then 0 else S.1 := ⟨_, rfl⟩
  have hcc : c = ((S.2.filter fun y => mates y e).length : Int) := by
    by_cases hno : ∃ y ∈ P, mates y e = true
    · obtain ⟨y, hy, M⟩ := hno
      have hr : rankIn E e ≠ 1 := fun z => by
        unfold rankIn at z
        have : y ∈ E.filter fun y => mates y e && decide (e.ts < y.ts) := List.mem_filter.2 ⟨pE y hy, by simp [M, above y hy M]⟩
        have := List.length_pos_of_mem this
        omega
      rw [hc, if_neg hr]
      cases hl : P.getLast? with
      | none => rw [List.getLast?_eq_none_iff] at hl; rw [hl] at hy; cases hy
      | some l =>
        obtain ⟨P', hP⟩ := List.getLast?_eq_some_iff.1 hl
        have lP : l ∈ P := by rw [hP]; simp
        have al := hp.2.2 l lP e List.mem_cons_self
        have yl : y = l ∨ Ah y l := by
          rw [hP] at hy
          rcases List.mem_append.1 hy with q | q
          · have := (List.pairwise_append.1 (hP ▸ hp.1)).2.2 y q l (by simp)
            exact .inr this
          · rw [List.mem_singleton] at q; exact .inl q
        have m := mates_iff.1 M
        have f := Ah.midF yl al m.1 m.2.1
        have k1 := h3 y (pE y hy)
        have q := Ah.midC yl al m.1 m.2.1 (by omega) m.2.2
        have ml : mates l e = true := mates_iff.2 ⟨f.1, f.2, q.2.1⟩
        rw [hS, h.cnt l hl, ← hS]
        congr 2
        apply List.filter_congr
        intro z _
        exact mates_same ml z
    · have no : ∀ y ∈ P, mates y e = false := fun y hy => by
        cases z : mates y e with
        | false => rfl
        | true => exact absurd ⟨y, hy, z⟩ hno
      have hr : rankIn E e = 1 := by
        unfold rankIn
        have : (E.filter fun y => mates y e && decide (e.ts < y.ts)) = [] := List.filter_eq_nil_iff.2 fun y hy hyy => by
          simp only [Bool.and_eq_true, decide_eq_true_eq] at hyy
          rw [hE] at hy
          rcases List.mem_append.1 hy with q | q
          · rw [no y q] at hyy; exact absurd hyy.1 (by simp)
          · rcases List.mem_cons.1 q with rfl | q
            · omega
            · have a := hq.1 y q
              have m := mates_iff.1 hyy.1
              have k1 := h3 y (by rw [hE]; exact List.mem_append_right _ (List.mem_cons_of_mem _ q))
              have k2 := h3 e eE
              have := a.ts m.1.symm m.2.1.symm (by omega) m.2.2.symm (by omega)
              omega
        rw [this]; rfl
      rw [hc, if_pos hr]
      have : (S.2.filter fun y => mates y e) = [] := List.filter_eq_nil_iff.2 fun y hy => by rw [no y (sub y hy)]; simp
      rw [this]; rfl
  have hcn : c ≤ n := by
    rw [hc]
    split
    · exact hn
    · rw [hS]; exact h.le
  have c0 : 0 ≤ c := by rw [hcc]; omega
  have es : showS t n ((P ++ [e]).map fun e => (⟨e, 5, rankIn E e⟩ : Vd)) = if e.kind = 1 ∧ e.ts ≤ t ∧ c < n then (c + 1, S.2 ++ [e]) else (c, S.2) := by
    rw [List.map_append, List.map_singleton, showS_snoc, ← hS]
    unfold showStep
    simp only
    rw [← hc]
    by_cases z : e.kind = 1 ∧ e.ts ≤ t ∧ c < n
    · rw [if_pos z, if_pos ⟨by trivial, z.1, z.2.1, by omega⟩]
    · rw [if_neg z, if_neg (fun y => z ⟨y.2.1, y.2.2.1, by omega⟩)]
  have er : readR t n ((P ++ [e]).filter fun e => decide (e.kind = 1)) = if e.kind = 1 ∧ e.ts ≤ t ∧ c < n then S.2 ++ [e] else S.2 := by
    rw [List.filter_append]
    by_cases k : e.kind = 1
    · rw [show ([e].filter fun e => decide (e.kind = 1)) = [e] by simp [k], readR_snoc, ← h.out, ← hS, ← hcc]
      by_cases z : e.ts ≤ t ∧ c < n
      · rw [if_pos z, if_pos ⟨k, z⟩]
      · rw [if_neg z, if_neg (fun y => z y.2)]
    · rw [show ([e].filter fun e => decide (e.kind = 1)) = [] by simp [k], List.append_nil, ← h.out, ← hS, if_neg (fun y => k y.1)]
  refine ⟨?_, fun l hl => ?_, ?_⟩
  · rw [es, er]
    split <;> rfl
  · have : l = e := by simpa using hl.symm
    subst this
    rw [es]
    split
    · simp only [List.filter_append, List.length_append]
      have : mates l l = true := mates_iff.2 ⟨rfl, rfl, rfl⟩
      simp [this, hcc]
    · exact hcc
  · rw [es]
    split
    · rename_i z; simp only; omega
    · exact hcn
theorem RI.all {t n : Int} {E : List En} (hs : E.Pairwise Ah) (h3 : ∀ x ∈ E, x.kind ≤ 3) (hD : ∀ x ∈ E, ∀ y ∈ E, mates x y = true → x.ts = y.ts → x = y) (hn : 0 ≤ n) : ∀ (Q P : List En), E = P ++ Q → RI t n E P → RI t n E E
  | [], P, e, h => by rw [List.append_nil] at e; rw [e] at h ⊢; exact h
  | x :: Q, P, e, h => RI.all hs h3 hD hn Q (P ++ [x]) (by rw [e, List.append_assoc]; rfl) (h.step e hs h3 hD hn)
theorem read_five {t n : Int} {E : List En} (hs : E.Pairwise Ah) (h3 : ∀ x ∈ E, x.kind ≤ 3) (hD : ∀ x ∈ E, ∀ y ∈ E, mates x y = true → x.ts = y.ts → x = y) (hn : 0 ≤ n) : (showS t n (E.map fun e => ⟨e, 5, rankIn E e⟩)).2 = readR t n (E.filter fun e => decide (e.kind = 1)) :=
  (RI.all hs h3 hD hn E [] rfl ⟨rfl, (fun l hl => by cases hl), hn⟩).out
theorem read_ref {m : List En} (hM : ∀ e ∈ m, 1 ≤ (famAt fs e.fam).1) (hs : m.Pairwise Ah) (hv : ∀ e ∈ m, Va e) {t n : Int} (hn : 0 ≤ n) : (showS t n (verdictsS fs clock m)).2 = readR t n (m.filter (visB fs clock m)) := by
  rw [show_five hM hs hv, read_five (five_sorted hs) five_three (five_dist hs) hn, vis_five]
end
end Go.Proofs.YtganmnckdmkcbaaGreat
