import Derived.Test.YthhkpkfpifllkaaGreatK18
namespace Go.Proofs.YthhkpkfpifllkaaGreat
open Go.RowKit Go.Maps
set_option linter.unusedVariables false

structure Vw (W wr : World) (zs : List EntD) (v : Value) (p : List En) : Prop where
  row : wr.ownsRow W.heap.size 84 7 v zs.length (evals zs)
  ents : ∀ x ∈ zs, O3 wr W.heap.size x
  below : Below W.heap.size W wr
  dat : zs.map EntD.dat = p
  by_ : ∀ x ∈ zs, ByE x.dat
theorem Vw.later {W wr wr' : World} {zs : List EntD} {v : Value} {p : List En} (h : Vw W wr zs v p) (b : Below wr.heap.size wr wr') : Vw W wr' zs v p :=
  ⟨row_same h.row (fun g hg => b.block g (h.row.lt g hg).2), fun x hx => (h.ents x hx).later b, h.below.trans (b.mono h.below.size), h.dat, h.by_⟩
theorem Vw.form {W wr : World} {zs : List EntD} {v : Value} {p : List En} (h : Vw W wr zs v p) : ∃ a c, v = .slice a zs.length c := by
  obtain ⟨a, c, e, -⟩ := row_rdl h.row (fun x hx => (h.ents x hx).okB (h.by_ x hx))
  exact ⟨a, c, e⟩
set_option maxRecDepth 100000 in
set_option maxHeartbeats 8000000 in
theorem refVisible_any {W0 : World} {fa a : Option Addr} {fc cap : Nat} {fs : List FamD} {l : List EntD} (clock : Int) (hr : RdF W0 (.slice fa fs.length fc) fs) (hU : LU fs l) (hl : RdL3 W0 a cap l) (hs : ∀ x ∈ l, Shrt x) (hn : l.length ≤ 1353245080300) :
    Calls Tryz.prog 53 #[.agg #[.slice fa fs.length fc], .int .i64 clock, .slice a l.length cap] W0 fun r W' => ∃ v zs, r = .returned v ∧ Vw W0 W' zs v ((l.map EntD.dat).filter (visB (mt fs) clock (l.map EntD.dat))) := by
  obtain ⟨W, hW, A, hb⟩ := sch_box W0 fa fs.length fc
  obtain ⟨N, hN⟩ : ∃ N, N = l.length := ⟨_, rfl⟩
  obtain ⟨K, hK⟩ : ∃ K, K = fs.length := ⟨_, rfl⟩
  obtain ⟨m, hm⟩ : ∃ m, m = l.map EntD.dat := ⟨_, rfl⟩
  have up : ∀ Z, Below W.heap.size W Z → Below W0.heap.size W0 Z := fun Z b => A.trans (b.mono A.size)
  have hc := hl.cap
  have HL := Lib.hid (fun (Z : World) (b : Below W.heap.size W Z) => hl.later (up Z b))
  have HGr := Lib.hid (fun (Z : World) (b : Below W.heap.size W Z) (x : EntD) (hx : x ∈ l) (h3 : x.kind ≤ 3) => group_in (fa := fa) (fc := fc) clock hU (hl.later (up Z b)) hx h3 hn)
  have HIn := Lib.hid (fun (Z : World) (b : Below W.heap.size W Z) (x : EntD) (hx : x ∈ l) (h3 : x.kind ≤ 3) => refIn_any clock (hr.later (up Z b)) (hU.un x hx) hU.tl (hl.later (up Z b)) ((hl.later (up Z b)).ok x hx) h3 hn)
  have HRk := Lib.hid (fun (Z : World) (b : Below W.heap.size W Z) (x : EntD) (hx : x ∈ l) => refRank_any clock (hr.later (up Z b)) hU (hl.later (up Z b)) ((hl.later (up Z b)).ok x hx) hn)
  have HCl := Lib.hid (fun (Z : World) (b : Below W.heap.size W Z) (x : EntD) (hx : x ∈ l) => cloneR_own ((hl.later (up Z b)).ok x hx) (hs x hx))
  rw [← hN, ← hm] at HGr
  rw [← hN, ← hm, ← hK] at HIn HRk
  have HF := Lib.hid (fun (k : Nat) (hk : k < fs.length) => fam_cell hr hk)
  have HUp := Lib.hid up
  rw [← hK] at hb hW
  rw [← hN] at hn hc
  rw [← hm, ← hN, ← hK]
  have HW := Lib.hid hW
  have HA := Lib.hid A
  have HN := Lib.hid hN
  have HK := Lib.hid hK
  have HM := Lib.hid hm
  have HB := Lib.hid hb
  have HU := Lib.hid hU
  have HBy : Hid (∀ x ∈ l, ByE x.dat) := fun x hx => hl.by _ (List.mem_map_of_mem hx)
  unfold EntD.cells at HGr HIn HRk HCl
  clear hW A hb hN hl hr hU up hm hK hs
  go_enter Tryz.func53, Tryz.ntmps53
  go_upto_region 1 with fail
  rw [← HW.out]
  clear HW
  go_wp2
  go_loopw [7, 8, 9, 10, 11] (fun v i _ _ _ wr => ∃ (t : Nat) (zs : List EntD) (am : Option Addr) (cm : Nat), t ≤ N ∧ i = .int .i64 (t : Int) ∧ v = .slice am zs.length cm ∧ Hid (Vw W wr zs (.slice am zs.length cm) (((l.take t).map EntD.dat).filter (visB (mt fs) clock m))) ∧ zs.length ≤ t) (fun _ i _ _ _ _ => N - (intOf i).toNat)
  case atStart => exact ⟨0, [], none, 0, Nat.zero_le _, rfl, rfl, ⟨(Rw.nil W W.heap.size (fun _ => True)).row, by simp, Below.refl _ _, by simp, by simp⟩, Nat.le_refl _⟩
  case round =>
    obtain ⟨t, zs, am, cm, ht, rfl, rfl, HQ, hzt⟩ := hrel
    have t0 : (0 : Int) ≤ (t : Int) := by omega
    obtain ⟨L, hL⟩ : ∃ L, L = zs.length := ⟨_, rfl⟩
    have HLz := Lib.hid hL
    rw [← hL] at HQ hzt ⊢
    clear hL
    by_cases hlt : t < N
    · have hlt2 : (t : Int) < (N : Int) := by omega
      obtain ⟨x, hx⟩ : ∃ x, l[t]? = some x := ⟨l[t]'(by rw [← HN.out]; exact hlt), List.getElem?_eq_getElem _⟩
      have HX := Lib.hid hx
      have HXm := Lib.hid (List.mem_of_getElem? hx)
      obtain ⟨kf, hkf⟩ : ∃ kf : Nat, x.fam = (kf : Int) := ⟨x.fam.toNat, by have := (HU.out.un x HXm.out).f0; omega⟩
      have hkl : kf < K := by have := (HU.out.un x HXm.out).fK; rw [HK.out]; omega
      obtain ⟨bf, of, fd, rfl, hfd, hcf⟩ := HF.out kf (by rw [← HK.out]; exact hkl)
      obtain ⟨bl, ol, rfl⟩ : ∃ b off, a = some ⟨b, off, none⟩ := by
        rcases (HL.out _ (Below.refl _ _)).at_ with h0 | ⟨b, off, q, _⟩
        · rw [h0] at hx; simp at hx
        · exact ⟨b, off, q⟩
      have HC : Hid (∀ Z, Below W.heap.size W Z → Z.cell? ⟨W0.heap.size, 0, none⟩ = some (.slice (some ⟨bf, of, none⟩) K fc) ∧ Z.cell? ⟨bf, of + kf * 3 + 1, none⟩ = some (.int .i64 fd.mx) ∧ Z.cell? ⟨bl, ol + t * 7, none⟩ = some x.vr ∧ Z.cell? ⟨bl, ol + t * 7 + 1, none⟩ = some (.int .i64 (kf : Int)) ∧ Z.cell? ⟨bl, ol + t * 7 + 2, none⟩ = some x.vq ∧ Z.cell? ⟨bl, ol + t * 7 + 3, none⟩ = some (.int .i64 x.ts) ∧ Z.cell? ⟨bl, ol + t * 7 + 4, none⟩ = some (.int .i64 x.seq) ∧ Z.cell? ⟨bl, ol + t * 7 + 5, none⟩ = some (.int .i64 x.kind) ∧ Z.cell? ⟨bl, ol + t * 7 + 6, none⟩ = some x.vv) := fun Z b => by
        have cx := (HL.out Z b).cells (Below.refl _ _) hx
        exact ⟨HB.out Z b, (hcf Z (HUp.out Z b)).1, by have := cx 0 _ rfl; simpa using this, by have := cx 1 _ rfl; rwa [hkf] at this, cx 2 _ rfl, cx 3 _ rfl, cx 4 _ rfl, cx 5 _ rfl, cx 6 _ rfl⟩
      have HS : Hid (((l.take (t + 1)).map EntD.dat).filter (visB (mt fs) clock m) = ((l.take t).map EntD.dat).filter (visB (mt fs) clock m) ++ if visB (mt fs) clock m x.dat then [x.dat] else []) := by
        unfold Hid
        rw [List.take_add_one, hx, List.map_append, List.filter_append]
        congr 1
        cases z : visB (mt fs) clock m x.dat <;> simp [z]
      have HV : Hid (visB (mt fs) clock m x.dat = (decide (x.kind = 1) && (decidesS m x.dat && inB fs clock m x.dat && decide (above (mt fs) clock m x.dat + 1 ≤ fd.mx)))) := by
        unfold Hid visB inB
        have : famAt (mt fs) x.dat.fam = (fd.mx, fd.tl) := by
          show famAt (mt fs) x.fam = _
          rw [hkf, fam_mt hfd]
        rw [this]
        rfl
      have k0 : (0 : Int) ≤ (kf : Int) := by omega
      have kK : (kf : Int) < (K : Int) := by omega
      have HNo : Hid (visB (mt fs) clock m x.dat = false → ∀ Z, Below wr.heap.size wr Z → Vw W Z zs (.slice am L cm) (((l.take (t + 1)).map EntD.dat).filter (visB (mt fs) clock m))) := fun h Z b => by
        rw [HS.out, h, if_neg (by simp), List.append_nil]
        exact HQ.out.later b
      have HFk := Lib.hid hkf
      have HBw := Lib.hid HQ.out.below
      clear hx hfd hcf hkf
      by_cases c1 : x.kind = 1
      · have HG1 := Lib.hid (fun (Z : World) (k : Below W.heap.size W Z) => HGr.out Z k x HXm.out (by omega))
        have HI1 := Lib.hid (fun (Z : World) (k : Below W.heap.size W Z) => HIn.out Z k x HXm.out (by omega))
        have HR1 := Lib.hid (fun (Z : World) (k : Below W.heap.size W Z) => HRk.out Z k x HXm.out)
        have HC1 := Lib.hid (fun (Z : World) (k : Below W.heap.size W Z) => HCl.out Z k x HXm.out)
        rw [HFk.out] at HG1 HI1 HR1 HC1
        obtain ⟨dd, hdd⟩ : ∃ dd, dd = decidesS m x.dat := ⟨_, rfl⟩
        obtain ⟨ii, hii⟩ : ∃ ii, ii = inB fs clock m x.dat := ⟨_, rfl⟩
        obtain ⟨rk, hrk⟩ : ∃ rk, rk = above (mt fs) clock m x.dat + 1 := ⟨_, rfl⟩
        rw [← hdd] at HG1 HV
        rw [← hii] at HI1 HV
        rw [← hrk] at HR1 HV
        rw [decide_eq_true c1, Bool.true_and] at HV
        clear hdd hii hrk
        obtain ⟨s0, s1, x0, x1, x2, x3, x4, x5, x6⟩ := HC.out _ HBw.out
        have n1 : (x.kind != 1) = false := by simpa using c1
        clear c1
        go_wp2_with fail
        refine Calls.mono (HG1.out _ HBw.out) ?_
        rintro r w4 ⟨kk, rfl, -, -, b4⟩
        have B4 := Lib.hid b4
        have D0 : Below wr.heap.size wr w4.drew := b4.drew
        clear b4 s0 s1 x0 x1 x2 x3 x4 x5 x6
        have HCb : Hid (∀ Z, Below wr.heap.size wr Z → Z.cell? ⟨W0.heap.size, 0, none⟩ = some (.slice (some ⟨bf, of, none⟩) K fc) ∧ Z.cell? ⟨bf, of + kf * 3 + 1, none⟩ = some (.int .i64 fd.mx) ∧ Z.cell? ⟨bl, ol + t * 7, none⟩ = some x.vr ∧ Z.cell? ⟨bl, ol + t * 7 + 1, none⟩ = some (.int .i64 (kf : Int)) ∧ Z.cell? ⟨bl, ol + t * 7 + 2, none⟩ = some x.vq ∧ Z.cell? ⟨bl, ol + t * 7 + 3, none⟩ = some (.int .i64 x.ts) ∧ Z.cell? ⟨bl, ol + t * 7 + 4, none⟩ = some (.int .i64 x.seq) ∧ Z.cell? ⟨bl, ol + t * 7 + 5, none⟩ = some (.int .i64 x.kind) ∧ Z.cell? ⟨bl, ol + t * 7 + 6, none⟩ = some x.vv) := fun Z b => HC.out Z (HBw.out.trans (b.mono HBw.out.size))
        have HDb : Hid (∀ Z, Below wr.heap.size wr Z → Below W.heap.size W Z) := fun Z b => HBw.out.trans (b.mono HBw.out.size)
        go_wp2_with fail
        go_region_held3 (fun Z => Z.cell? ⟨W0.heap.size, 0, none⟩ = some (.slice (some ⟨bf, of, none⟩) K fc) ∧ Z.cell? ⟨bf, of + kf * 3 + 1, none⟩ = some (.int .i64 fd.mx) ∧ Z.cell? ⟨bl, ol + t * 7, none⟩ = some x.vr ∧ Z.cell? ⟨bl, ol + t * 7 + 1, none⟩ = some (.int .i64 (kf : Int)) ∧ Z.cell? ⟨bl, ol + t * 7 + 2, none⟩ = some x.vq ∧ Z.cell? ⟨bl, ol + t * 7 + 3, none⟩ = some (.int .i64 x.ts) ∧ Z.cell? ⟨bl, ol + t * 7 + 4, none⟩ = some (.int .i64 x.seq) ∧ Z.cell? ⟨bl, ol + t * 7 + 5, none⟩ = some (.int .i64 x.kind) ∧ Z.cell? ⟨bl, ol + t * 7 + 6, none⟩ = some x.vv) (first | exact HCb.out _ D1 | exact HCb.out _ D0) ((go_at_call 63; refine Calls.mono (HI1.out _ (HDb.out _ D0)) ?_; rintro e1 w2 ⟨rfl, hb1⟩; have D1 := D0.trans (hb1.mono D0.size)))
        have BD := Lib.hid D1
        clear D0 D1
        cases dd with
        | false =>
          have HN2 := Lib.hid (HNo.out (by rw [HV.out]; rfl))
          go_wp2_with fail
          go_quiet (fail)
          go_wp2
          go_roundw
          case rel => exact ⟨t + 1, zs, am, cm, by omega, by go_num, by rw [← HLz.out], by rw [← HLz.out]; exact HN2.out _ (below_dn BD.out _), by rw [← HLz.out]; omega⟩
          case measure => simp only [intOf]; omega
        | true =>
          cases ii with
          | false =>
            have HN2 := Lib.hid (HNo.out (by rw [HV.out]; rfl))
            go_wp2_with fail
            go_quiet (fail)
            go_wp2
            go_roundw
            case rel => exact ⟨t + 1, zs, am, cm, by omega, by go_num, by rw [← HLz.out], by rw [← HLz.out]; exact HN2.out _ (below_dn BD.out _), by rw [← HLz.out]; omega⟩
            case measure => simp only [intOf]; omega
          | true =>
            rw [show (true && true && decide (rk ≤ fd.mx)) = decide (rk ≤ fd.mx) from rfl] at HV
            have D0 : Below wr.heap.size wr w2.drew := BD.out.drew
            by_cases ck : rk ≤ fd.mx
            · have HYe : Hid (visB (mt fs) clock m x.dat = true) := by unfold Hid; rw [HV.out]; exact decide_eq_true ck
              go_wp2_with fail
              go_region_held3 (fun Z => Z.cell? ⟨W0.heap.size, 0, none⟩ = some (.slice (some ⟨bf, of, none⟩) K fc) ∧ Z.cell? ⟨bf, of + kf * 3 + 1, none⟩ = some (.int .i64 fd.mx) ∧ Z.cell? ⟨bl, ol + t * 7, none⟩ = some x.vr ∧ Z.cell? ⟨bl, ol + t * 7 + 1, none⟩ = some (.int .i64 (kf : Int)) ∧ Z.cell? ⟨bl, ol + t * 7 + 2, none⟩ = some x.vq ∧ Z.cell? ⟨bl, ol + t * 7 + 3, none⟩ = some (.int .i64 x.ts) ∧ Z.cell? ⟨bl, ol + t * 7 + 4, none⟩ = some (.int .i64 x.seq) ∧ Z.cell? ⟨bl, ol + t * 7 + 5, none⟩ = some (.int .i64 x.kind) ∧ Z.cell? ⟨bl, ol + t * 7 + 6, none⟩ = some x.vv) (first | exact HCb.out _ D1 | exact HCb.out _ D0) ((go_at_call 88; refine Calls.mono (HR1.out _ (HDb.out _ D0)) ?_; rintro e1 w3 ⟨rfl, hb1⟩; have D1 := D0.trans (hb1.mono D0.size)))
              have BE := Lib.hid D1
              clear D0 D1 ck
              obtain ⟨s0, s1, x0, x1, x2, x3, x4, x5, x6⟩ := HCb.out _ BE.out
              go_wp2_with fail
              refine Calls.mono (HC1.out _ (HDb.out _ BE.out)) ?_
              rintro z1 w6 ⟨x', rfl, sx, ok1, o31, b6⟩
              have HSx := Lib.hid (EntD.dat_same.2 sx)
              have O31 := Lib.hid o31
              have B6 := Lib.hid b6
              obtain ⟨xr, xf, xq, xt, xs2, xk, xv, xrow, xqual, xval⟩ := x'
              obtain ⟨ar, cr, er⟩ := own_form' o31.row
              obtain ⟨aq, cq, eq⟩ := own_form' o31.qual
              obtain ⟨aw, cw, ew⟩ := own_form' o31.val
              simp only at er eq ew
              subst er eq ew
              dsimp only
              clear sx ok1 o31 b6 s0 s1 x0 x1 x2 x3 x4 x5 x6
              have HAl := Lib.hid ((Below.refl w6.heap.size w6).alloc (Nat.le_refl _) (.cells #[.slice ar xrow.length cr, .int .i64 xf, .slice aq xqual.length cq, .int .i64 xt, .int .i64 xs2, .int .i64 xk, .slice aw xval.length cw] 84))
              have HQ6 := Lib.hid (HQ.out.later BE.out |>.later B6.out |>.later HAl.out)
              have HRow := HQ6.out.row
              have HSz := HQ6.out.below.size
              have HRr := Lib.hid HRow
              have HSs := Lib.hid HSz
              clear HRow HSz
              go_wp2_with (at_builtin; refine wpl_append_ent (x := (⟨.slice ar xrow.length cr, xf, .slice aq xqual.length cq, xt, xs2, xk, .slice aw xval.length cw, xrow, xqual, xval⟩ : EntD)) (xs := zs) rfl _ _ rfl rfl HRr.out ⟨w6.heap.size, 0, none⟩ rfl (ent_new w6 (⟨.slice ar xrow.length cr, xf, .slice aq xqual.length cq, xt, xs2, xk, .slice aw xval.length cw, xrow, xqual, xval⟩ : EntD)) (O3.cells_one O31.out) (by rw [← HLz.out]; omega) HSs.out ?_)
              intro a7 c7 w7 row7 gr7
              obtain ⟨xx, hxx⟩ : ∃ xx : EntD, xx = ⟨.slice ar xrow.length cr, xf, .slice aq xqual.length cq, xt, xs2, xk, .slice aw xval.length cw, xrow, xqual, xval⟩ := ⟨_, rfl⟩
              rw [← hxx] at row7 HSx O31
              have HF7 : Hid (Vw W w7 (zs ++ [xx]) (.slice a7 (L + 1) c7) (((l.take (t + 1)).map EntD.dat).filter (visB (mt fs) clock m))) := by
                have bw := HQ6.out.below
                have ku7 : KU w6 w7 := (KU.of HAl.out).trans (row_ku (W := W) HRr.out gr7)
                have kz : KU (w6.alloc (.cells #[.slice ar xrow.length cr, .int .i64 xf, .slice aq xqual.length cq, .int .i64 xt, .int .i64 xs2, .int .i64 xk, .slice aw xval.length cw] 84)) w7 := row_ku (W := W) HRr.out gr7
                refine ⟨by rw [List.length_append]; rw [HLz.out]; exact row7, fun y hy => ?_, bw.grown gr7 bw.size (fun k hk => (HRr.out.lt k hk).1), ?_, fun y hy => ?_⟩
                · rcases List.mem_append.1 hy with q | q
                  · exact (HQ6.out.ents y q).ku kz
                  · rw [List.mem_singleton] at q
                    rw [q]
                    exact (O31.out.mono (HDb.out _ BE.out).size).ku ku7
                · rw [HS.out, HYe.out, if_pos rfl, List.map_append, HQ.out.dat, List.map_singleton, HSx.out]
                · rcases List.mem_append.1 hy with q | q
                  · exact HQ.out.by_ y q
                  · rw [List.mem_singleton] at q
                    rw [q, HSx.out]
                    exact HBy.out x HXm.out
              clear row7 gr7
              rw [← HLz.out]
              go_wp2
              go_roundw
              case rel => exact ⟨t + 1, zs ++ [xx], a7, c7, by omega, by go_num, by rw [List.length_append, ← HLz.out]; rfl, by rw [List.length_append, ← HLz.out]; exact HF7.out, by rw [List.length_append, ← HLz.out]; simp; omega⟩
              case measure => simp only [intOf]; omega
            · have HN2 := Lib.hid (HNo.out (by rw [HV.out]; exact decide_eq_false ck))
              go_wp2_with fail
              go_region_held3 (fun Z => Z.cell? ⟨W0.heap.size, 0, none⟩ = some (.slice (some ⟨bf, of, none⟩) K fc) ∧ Z.cell? ⟨bf, of + kf * 3 + 1, none⟩ = some (.int .i64 fd.mx) ∧ Z.cell? ⟨bl, ol + t * 7, none⟩ = some x.vr ∧ Z.cell? ⟨bl, ol + t * 7 + 1, none⟩ = some (.int .i64 (kf : Int)) ∧ Z.cell? ⟨bl, ol + t * 7 + 2, none⟩ = some x.vq ∧ Z.cell? ⟨bl, ol + t * 7 + 3, none⟩ = some (.int .i64 x.ts) ∧ Z.cell? ⟨bl, ol + t * 7 + 4, none⟩ = some (.int .i64 x.seq) ∧ Z.cell? ⟨bl, ol + t * 7 + 5, none⟩ = some (.int .i64 x.kind) ∧ Z.cell? ⟨bl, ol + t * 7 + 6, none⟩ = some x.vv) (first | exact HCb.out _ D1 | exact HCb.out _ D0) ((go_at_call 88; refine Calls.mono (HR1.out _ (HDb.out _ D0)) ?_; rintro e1 w3 ⟨rfl, hb1⟩; have D1 := D0.trans (hb1.mono D0.size)))
              go_wp2
              go_roundw
              case rel => exact ⟨t + 1, zs, am, cm, by omega, by go_num, by rw [← HLz.out], by rw [← HLz.out]; exact HN2.out _ D1, by rw [← HLz.out]; omega⟩
              case measure => simp only [intOf]; omega
      · have hno : visB (mt fs) clock m x.dat = false := by rw [HV.out]; simp [c1]
        have HN2 := Lib.hid (HNo.out hno)
        obtain ⟨s0, s1, x0, x1, x2, x3, x4, x5, x6⟩ := HC.out _ HBw.out
        have n1 : (x.kind != 1) = true := by simpa using c1
        clear c1 hno
        go_wp2
        go_roundw
        case rel => exact ⟨t + 1, zs, am, cm, by omega, by go_num, by rw [← HLz.out], by rw [← HLz.out]; exact HN2.out _ (Below.refl _ _), by rw [← HLz.out]; omega⟩
        case measure => simp only [intOf]; omega
    · have hge : ¬ (t : Int) < (N : Int) := by omega
      have HF9 : Hid (Vw W0 wr zs (.slice am L cm) (m.filter (visB (mt fs) clock m))) := by
        have h := HQ.out
        rw [List.take_of_length_le (by rw [← HN.out]; omega), ← HM.out] at h
        exact ⟨row_low h.row HA.out.size, fun x hx => (h.ents x hx).low HA.out.size, HA.out.trans (h.below.mono HA.out.size), h.dat, h.by_⟩
      go_wp2
      go_ret
      exact ⟨_, rfl, zs, HF9.out⟩
end Go.Proofs.YthhkpkfpifllkaaGreat

namespace Go.Proofs.YthhkpkfpifllkaaGreat
open Go.RowKit Go.Maps
set_option linter.unusedVariables false

set_option maxRecDepth 100000 in
set_option maxHeartbeats 2000000 in
theorem refOut_any {w : World} (v : Int) : Calls Tryz.prog 87 #[.int .i64 v] w fun r w' => r = .returned (.bool (badT v)) ∧ w' = w := by
  obtain ⟨q, hq⟩ : ∃ q, q = badT v := ⟨_, rfl⟩
  rw [← hq]
  have HQ : Hid (q = (decide (v < 0) || decide (1099511627776 < v))) := by
    unfold Hid
    rw [hq]
    rfl
  clear hq
  go_enter Tryz.func87, Tryz.ntmps87
  by_cases c1 : v < 0
  · have d1 : decide (v < 0) = true := decide_eq_true c1
    have q' : Hid (q = true) := by unfold Hid; rw [HQ.out]; simp [c1]
    clear HQ
    go_wp2
    go_ret
    exact ⟨by rw [q'.out]; rfl, rfl⟩
  · by_cases c2 : 1099511627776 < v
    · have d1 : decide (1099511627776 < v) = true := decide_eq_true c2
      have q' : Hid (q = true) := by unfold Hid; rw [HQ.out]; simp [c2]
      clear HQ
      go_wp2
      go_ret
      exact ⟨by rw [q'.out]; rfl, rfl⟩
    · have d1 : decide (1099511627776 < v) = false := decide_eq_false c2
      have q' : Hid (q = false) := by unfold Hid; rw [HQ.out]; simp [c1, c2]
      clear HQ
      go_wp2
      go_ret
      exact ⟨by rw [q'.out]; rfl, rfl⟩
def askE (C : Nat) (fs : List FamD) (clock low t n : Int) (l : List EntD) : Int := if C ≠ 0 then (C : Int) else if (badT clock || badT low || badT t || decide (n < 1) || decide (16 < n)) = true then 32 else inOrderE (check3S fs.length) l
set_option maxRecDepth 100000 in
set_option maxHeartbeats 8000000 in
theorem refAsked_any {w : World} {fa a : Option Addr} {fc cap : Nat} {fs : List FamD} {l : List EntD} (hr : RdF w (.slice fa fs.length fc) fs) (C : Nat) (hC : (C = 0 ↔ SchemaOk fs) ∧ (C = 0 ∨ C = 28)) (clock low t n : Int) (hl : RdL3 w a cap l) (hn : l.length ≤ 1353245080300) :
    Calls Tryz.prog 52 #[.agg #[.slice fa fs.length fc], .int .i64 clock, .int .i64 low, .int .i64 t, .int .i64 n, .slice a l.length cap] w fun r w' => r = .returned (.int .i64 (askE C fs clock low t n l)) ∧ Below w.heap.size w w' := by
  obtain ⟨W, hW, A, hb⟩ := sch_box w fa fs.length fc
  have HS := Lib.hid (refCheckSchema_is (hr.later A) C hC)
  have HK := Lib.hid (fun (Z : World) (b : Below W.heap.size W Z) => refChecked_any (fs.length : Int) (hl.later (A.trans (b.mono A.size))) hn)
  have eK : inOrderE (chkF (fs.length : Int)) l = inOrderE (check3S fs.length) l := by
    congr 1
    funext x
    exact chkF_k _ x
  obtain ⟨E, hE⟩ : ∃ E, E = inOrderE (check3S fs.length) l := ⟨_, rfl⟩
  rw [eK, ← hE] at HK
  obtain ⟨R, hR⟩ : ∃ R, R = askE C fs clock low t n l := ⟨_, rfl⟩
  rw [← hR]
  have HR : Hid (R = if C ≠ 0 then (C : Int) else if (badT clock || badT low || badT t || decide (n < 1) || decide (16 < n)) = true then 32 else E) := by
    unfold Hid
    rw [hR, hE]
    rfl
  obtain ⟨N, hN⟩ : ∃ N, N = l.length := ⟨_, rfl⟩
  obtain ⟨K, hK⟩ : ∃ K, K = fs.length := ⟨_, rfl⟩
  rw [← hN, ← hK] at HK
  rw [← hK] at HS hb hW
  rw [← hN, ← hK]
  have HW := Lib.hid hW
  have HA := Lib.hid A
  have HB := Lib.hid hb
  have HO : Hid (∀ (v : Int) (Z : World), Calls Tryz.prog 87 #[.int .i64 v] Z fun r w' => r = .returned (.bool (badT v)) ∧ w' = Z) := fun v Z => refOut_any v
  obtain ⟨bt, hbt⟩ : ∃ f : Int → Bool, f = badT := ⟨_, rfl⟩
  rw [← hbt] at HO HR
  clear hW A hb hN hK hl hr hR hE eK hbt hC hn
  go_enter Tryz.func52, Tryz.ntmps52
  go_upto_region 1 with fail
  rw [← HW.out]
  clear HW
  have s0 := HB.out _ (Below.refl _ _)
  go_wp2_with fail
  refine Calls.mono HS.out ?_
  rintro r w1 ⟨rfl, b1⟩
  have B1 := Lib.hid b1
  have s1 := HB.out _ b1
  clear s0 b1
  by_cases c0 : C = 0
  · subst c0
    rw [if_neg (by simp)] at HR
    have H1 := Lib.hid (fun (Z : World) => HO.out clock Z)
    have H2 := Lib.hid (fun (Z : World) => HO.out low Z)
    have H3 := Lib.hid (fun (Z : World) => HO.out t Z)
    cases e1 : bt clock with
    | true =>
      rw [e1] at H1 HR
      have q : Hid (R = 32) := by unfold Hid; rw [HR.out]; simp []
      clear HR
      go_wp2_with (first | (have hq := T2; clear hq; (go_at_call 87; refine Calls.mono (H3.out _) ?_; rintro r w' ⟨rfl, rfl⟩)) | (have hq := T1; clear hq; (go_at_call 87; refine Calls.mono (H2.out _) ?_; rintro r w' ⟨rfl, rfl⟩; have T2 : True := trivial)) | (go_at_call 87; refine Calls.mono (H1.out _) ?_; rintro r w' ⟨rfl, rfl⟩; have T1 : True := trivial))
      go_ret
      exact ⟨by rw [q.out]; rfl, HA.out.trans (B1.out.mono HA.out.size)⟩
    | false =>
      rw [e1] at H1 HR
      cases e2 : bt low with
      | true =>
        rw [e2] at H2 HR
        have q : Hid (R = 32) := by unfold Hid; rw [HR.out]; simp []
        clear HR
        go_wp2_with (first | (have hq := T2; clear hq; (go_at_call 87; refine Calls.mono (H3.out _) ?_; rintro r w' ⟨rfl, rfl⟩)) | (have hq := T1; clear hq; (go_at_call 87; refine Calls.mono (H2.out _) ?_; rintro r w' ⟨rfl, rfl⟩; have T2 : True := trivial)) | (go_at_call 87; refine Calls.mono (H1.out _) ?_; rintro r w' ⟨rfl, rfl⟩; have T1 : True := trivial))
        go_ret
        exact ⟨by rw [q.out]; rfl, HA.out.trans (B1.out.mono HA.out.size)⟩
      | false =>
        rw [e2] at H2 HR
        cases e3 : bt t with
        | true =>
          rw [e3] at H3 HR
          have q : Hid (R = 32) := by unfold Hid; rw [HR.out]; simp []
          clear HR
          go_wp2_with (first | (have hq := T2; clear hq; (go_at_call 87; refine Calls.mono (H3.out _) ?_; rintro r w' ⟨rfl, rfl⟩)) | (have hq := T1; clear hq; (go_at_call 87; refine Calls.mono (H2.out _) ?_; rintro r w' ⟨rfl, rfl⟩; have T2 : True := trivial)) | (go_at_call 87; refine Calls.mono (H1.out _) ?_; rintro r w' ⟨rfl, rfl⟩; have T1 : True := trivial))
          go_ret
          exact ⟨by rw [q.out]; rfl, HA.out.trans (B1.out.mono HA.out.size)⟩
        | false =>
          rw [e3] at H3 HR
          by_cases c4 : n < 1
          · have d4 : decide (n < 1) = true := decide_eq_true c4
            have q : Hid (R = 32) := by unfold Hid; rw [HR.out]; simp [c4]
            clear HR
            go_wp2_with (first | (have hq := T2; clear hq; (go_at_call 87; refine Calls.mono (H3.out _) ?_; rintro r w' ⟨rfl, rfl⟩)) | (have hq := T1; clear hq; (go_at_call 87; refine Calls.mono (H2.out _) ?_; rintro r w' ⟨rfl, rfl⟩; have T2 : True := trivial)) | (go_at_call 87; refine Calls.mono (H1.out _) ?_; rintro r w' ⟨rfl, rfl⟩; have T1 : True := trivial))
            go_ret
            exact ⟨by rw [q.out]; rfl, HA.out.trans (B1.out.mono HA.out.size)⟩
          · have d4 : decide (n < 1) = false := decide_eq_false c4
            by_cases c5 : 16 < n
            · have d5 : decide (16 < n) = true := decide_eq_true c5
              have q : Hid (R = 32) := by unfold Hid; rw [HR.out]; simp [c5]
              clear HR
              go_wp2_with (first | (have hq := T2; clear hq; (go_at_call 87; refine Calls.mono (H3.out _) ?_; rintro r w' ⟨rfl, rfl⟩)) | (have hq := T1; clear hq; (go_at_call 87; refine Calls.mono (H2.out _) ?_; rintro r w' ⟨rfl, rfl⟩; have T2 : True := trivial)) | (go_at_call 87; refine Calls.mono (H1.out _) ?_; rintro r w' ⟨rfl, rfl⟩; have T1 : True := trivial))
              go_ret
              exact ⟨by rw [q.out]; rfl, HA.out.trans (B1.out.mono HA.out.size)⟩
            · have d5 : decide (16 < n) = false := decide_eq_false c5
              have q : Hid (R = E) := by unfold Hid; rw [HR.out]; simp [c4, c5]
              clear HR
              go_wp2_with (first | (have hq := T2; clear hq; (go_at_call 87; refine Calls.mono (H3.out _) ?_; rintro r w' ⟨rfl, rfl⟩)) | (have hq := T1; clear hq; (go_at_call 87; refine Calls.mono (H2.out _) ?_; rintro r w' ⟨rfl, rfl⟩; have T2 : True := trivial)) | (go_at_call 87; refine Calls.mono (H1.out _) ?_; rintro r w' ⟨rfl, rfl⟩; have T1 : True := trivial))
              refine Calls.mono (HK.out _ B1.out) ?_
              rintro r w2 ⟨rfl, b2⟩
              have B2 := Lib.hid (B1.out.trans (b2.mono B1.out.size))
              clear b2
              go_wp2
              go_ret
              exact ⟨by rw [q.out]; rfl, HA.out.trans (B2.out.mono HA.out.size)⟩
  · have q : Hid (R = C) := by unfold Hid; rw [HR.out, if_pos c0]
    have n1 : ((C : Int) != 0) = true := by simpa using c0
    go_wp2
    go_ret
    exact ⟨by rw [q.out]; rfl, HA.out.trans (B1.out.mono HA.out.size)⟩
end Go.Proofs.YthhkpkfpifllkaaGreat

namespace Go.Proofs.YthhkpkfpifllkaaGreat
open Go.RowKit Go.Maps
set_option linter.unusedVariables false

theorem lu_of {fs : List FamD} {l : List En} {zs : List EntD} (hS : SchemaOk fs) (h : IsOrd fs.length l (zs.map EntD.dat)) : LU fs zs := by
  refine ⟨h.va, fun x hx => ?_, fun f hf => ?_⟩
  · have ck : check3S fs.length x = 0 := by rw [check_dat]; exact h.ck x.dat (List.mem_map_of_mem hx)
    have := check_zero.1 ck
    exact ⟨by omega, by omega, by omega, by omega⟩
  · obtain ⟨i, hi⟩ := List.mem_iff_getElem?.1 hf
    exact (hS.2 i f hi).1.2.2
theorem shrt_ord {k : Nat} {l : List En} {zs : List EntD} (h : IsOrd k l (zs.map EntD.dat)) : ∀ x ∈ zs, Shrt x := fun x hx => shrt_check (k := k) (by rw [check_dat]; exact h.ck x.dat (List.mem_map_of_mem hx))
theorem askE_ok {C : Nat} {fs : List FamD} {clock low t n : Int} {l : List EntD} (h : askE C fs clock low t n l = 0) : C = 0 ∧ inOrderE (check3S fs.length) l = 0 := by
  unfold askE at h
  by_cases c : C = 0
  · rw [if_neg (by simpa using c)] at h
    split at h
    · cases h
    · exact ⟨c, h⟩
  · rw [if_pos c] at h
    omega
theorem ordered_ok {W : World} {a : Option Addr} {cap : Nat} {fs : List FamD} {l : List EntD} (hl : RdL3 W a cap l) (hn : l.length ≤ 1353245080300) (hio : inOrderE (check3S fs.length) l = 0) (hS : SchemaOk fs) :
    Calls Tryz.prog 51 #[.slice a l.length cap] W fun r W' => ∃ (zs : List EntD) (a' : Option Addr) (c' : Nat), r = .returned (.slice a' zs.length c') ∧ Below W.heap.size W W' ∧ IsOrd fs.length (l.map EntD.dat) (zs.map EntD.dat) ∧ LU fs zs ∧ (∀ x ∈ zs, Shrt x) ∧ RdL3 W' a' c' zs ∧ zs.length ≤ l.length := by
  obtain ⟨hall, xs, hx⟩ := inOrder_ok hio
  refine Calls.mono (refOrdered_any hl (fun x hx => shrt_check (hall x hx)) ((oneS_once l).2 (by rw [hx]; simp)) hn) ?_
  rintro r W' ⟨v, zs, rfl, hod, hle⟩
  have ho := hod.ord hio
  obtain ⟨a', c', rfl, -, -, hrd⟩ := hod.rd
  exact ⟨zs, a', c', rfl, hod.below, ho, lu_of hS ho, shrt_ord ho, hrd, hle⟩
theorem Vw.low {W W1 W' : World} {zs : List EntD} {v : Value} {p : List En} (h : Vw W1 W' zs v p) (b : Below W.heap.size W W1) : Vw W W' zs v p :=
  ⟨row_low h.row b.size, fun x hx => (h.ents x hx).low b.size, b.trans (h.below.mono b.size), h.dat, h.by_⟩
end Go.Proofs.YthhkpkfpifllkaaGreat

namespace Go.Proofs.YthhkpkfpifllkaaGreat
open Go.RowKit Go.Maps
set_option linter.unusedVariables false

end Go.Proofs.YthhkpkfpifllkaaGreat

namespace Go.Proofs.YthhkpkfpifllkaaGreat
open Go.RowKit Go.Maps
set_option linter.unusedVariables false

set_option maxRecDepth 100000 in
set_option maxHeartbeats 8000000 in
theorem refRead_any {W : World} {fa a : Option Addr} {fc cap : Nat} {fs : List FamD} {l : List EntD} (hr : RdF W (.slice fa fs.length fc) fs) (C : Nat) (hC : (C = 0 ↔ SchemaOk fs) ∧ (C = 0 ∨ C = 28)) (clock t n : Int) (hl : RdL3 W a cap l) (hn : l.length ≤ 1353245080300) :
    Calls Tryz.prog 22 #[.agg #[.slice fa fs.length fc], .int .i64 clock, .int .i64 t, .int .i64 n, .slice a l.length cap] W fun r W' => Below W.heap.size W W' ∧ (askE C fs clock 0 t n l ≠ 0 → r = .returned (.tuple #[.slice none 0 0, .int .i64 (askE C fs clock 0 t n l)])) ∧ (askE C fs clock 0 t n l = 0 → ∃ (zs : List EntD) (v : Value) (m : List En), r = .returned (.tuple #[v, .int .i64 0]) ∧ IsOrd fs.length (l.map EntD.dat) m ∧ Vw W W' zs v (readR t n (m.filter (visB (mt fs) clock m)))) := by
  obtain ⟨W1, hW, A, hb⟩ := sch_box W fa fs.length fc
  obtain ⟨E, hE⟩ : ∃ E, E = askE C fs clock 0 t n l := ⟨_, rfl⟩
  have up : ∀ Z, Below W1.heap.size W1 Z → Below W.heap.size W Z := fun Z b => A.trans (b.mono A.size)
  have HAs := Lib.hid (refAsked_any (hr.later A) C hC clock 0 t n (hl.later A) hn)
  rw [← hE] at HAs ⊢
  have HOr : Hid (E = 0 → ∀ Z, Below W1.heap.size W1 Z → Calls Tryz.prog 51 #[.slice a l.length cap] Z _) := fun z Z b => ordered_ok (fs := fs) (hl.later (up Z b)) hn (askE_ok (hE.symm.trans z)).2 (hC.1.1 (askE_ok (hE.symm.trans z)).1)
  have HVi := Lib.hid (fun (Z : World) (b : Below W1.heap.size W1 Z) (zs : List EntD) (a' : Option Addr) (c' : Nat) (hU : LU fs zs) (hs : ∀ x ∈ zs, Shrt x) (hz : RdL3 Z a' c' zs) (hln : zs.length ≤ l.length) => refVisible_any clock (hr.later (up Z b)) hU hz hs (Nat.le_trans hln hn))
  obtain ⟨N, hN⟩ : ∃ N, N = l.length := ⟨_, rfl⟩
  obtain ⟨K, hK⟩ : ∃ K, K = fs.length := ⟨_, rfl⟩
  rw [← hN, ← hK] at HAs
  rw [← hN] at HOr
  rw [← hK] at HVi hb hW
  rw [← hN, ← hK]
  have HHn := Lib.hid hn
  have HK := Lib.hid hK
  have HN := Lib.hid hN
  have HW := Lib.hid hW
  have HA := Lib.hid A
  have HB := Lib.hid hb
  clear hl hE hN hr hC hn hK hW A hb up
  go_enter Tryz.func22, Tryz.ntmps22
  go_upto_region 1 with fail
  rw [← HW.out]
  clear HW
  have s0 := HB.out _ (Below.refl _ _)
  go_wp2_with fail
  refine Calls.mono HAs.out ?_
  rintro z w1 ⟨rfl, b1⟩
  have B1 := Lib.hid b1
  have s1 := HB.out _ b1
  clear s0
  by_cases hz : E = 0
  · have D0 : Below W1.heap.size W1 w1.drew := b1.drew
    have HK2 := Lib.hid (HOr.out hz _ D0)
    subst hz
    clear b1 HAs HOr
    go_wp2_with fail
    go_region_held3 (fun Z => Z.cell? ⟨W.heap.size, 0, none⟩ = some (.slice fa K fc)) (first | exact HB.out _ D2 | exact HB.out _ D1 | exact HB.out _ D0) (first | (have hq := D1; clear hq; (go_at_call 53; refine Calls.mono HV2.out ?_; rintro z w3 ⟨v, ys, rfl, hv⟩; have D2 : Below W1.heap.size W1 w3 := D1.trans (hv.below.mono D1.size))) | (go_at_call 51; refine Calls.mono HK2.out ?_; rintro z w2 ⟨zs, a', c', rfl, b2, ho, hU, hs, hrd, hle⟩; have D1 : Below W1.heap.size W1 w2 := D0.trans (b2.mono D0.size); have HV2 := Lib.hid (HVi.out _ D1 zs a' c' hU hs hrd (by rw [← HN.out]; exact hle))))
    have HOd : Hid (IsOrd K (l.map EntD.dat) (zs.map EntD.dat)) := by rw [HK.out]; exact ho
    obtain ⟨m, hm⟩ : ∃ m, m = zs.map EntD.dat := ⟨_, rfl⟩
    rw [← hm] at hv HOd
    have hyl : ys.length ≤ 1353245080300 := by
      have e := congrArg List.length hv.dat
      rw [List.length_map] at e
      rw [e]
      refine Nat.le_trans (List.length_filter_le _ _) ?_
      rw [hm, List.length_map]
      exact Nat.le_trans hle (by rw [HN.out]; exact HHn.out)
    obtain ⟨av, cv, ev, hrv⟩ := row_rdl hv.row (fun x hx => (hv.ents x hx).okB (hv.by_ x hx))
    subst ev
    obtain ⟨M, hM⟩ : ∃ M, M = ys.length := ⟨_, rfl⟩
    have hMc := hrv.cap
    rw [← hM] at hyl hMc ⊢
    have HM := Lib.hid hM
    have HVv := Lib.hid hv
    have HMd := Lib.hid hm
    have HRv : Hid (∀ Z, Below w3.heap.size w3 Z → RdL3 Z av cv ys) := fun Z b => hrv.later b
    have HB2 := Lib.hid (HA.out.trans (D1.mono HA.out.size))
    have HB3 := Lib.hid (HA.out.trans (D2.mono HA.out.size))
    clear hM hm hv hrv HV2 D0 D1 D2 ho hU hs hrd hle b2 HVi HK2 s1
    go_wp2
    go_loopw [14, 15, 16, 17, 18] (fun rv i _ _ _ wr => ∃ (q : Nat) (rs : List EntD) (ar : Option Addr) (cr : Nat), q ≤ M ∧ i = .int .i64 (q : Int) ∧ rv = .slice ar rs.length cr ∧ Hid (wr.ownsRow w3.heap.size 84 7 (.slice ar rs.length cr) rs.length (evals rs)) ∧ Hid (∀ x ∈ rs, x ∈ ys) ∧ Hid (rs.map EntD.dat = readR t n ((ys.take q).map EntD.dat)) ∧ Hid (Below w3.heap.size w3 wr) ∧ rs.length ≤ q) (fun _ i _ _ _ _ => M - (intOf i).toNat)
    case atStart => exact ⟨0, [], none, 0, Nat.zero_le _, rfl, rfl, (Rw.nil w3 w3.heap.size (fun _ => True)).row, (fun x hx => by cases hx), by unfold Hid; rfl, Below.refl _ _, Nat.le_refl _⟩
    case round =>
      obtain ⟨q, rs, ar, cr, hq, rfl, rfl, HRow, HSub, HDat, HBw, hrq⟩ := hrel
      have q0 : (0 : Int) ≤ (q : Int) := by omega
      obtain ⟨L, hL⟩ : ∃ L, L = rs.length := ⟨_, rfl⟩
      have HLr := Lib.hid hL
      rw [← hL] at hrq ⊢
      have HRo : Hid (wr.ownsRow w3.heap.size 84 7 (.slice ar L cr) rs.length (evals rs)) := by unfold Hid; rw [hL]; exact HRow.out
      clear hL
      obtain ⟨wo, hwo⟩ : ∃ wo, wo = wr := ⟨_, rfl⟩
      rw [← hwo] at HRow HBw HRo ⊢
      clear hwo
      by_cases hlt : q < M
      · have hlt2 : (q : Int) < (M : Int) := by omega
        obtain ⟨x, hx⟩ : ∃ x, ys[q]? = some x := ⟨ys[q]'(by rw [← HM.out]; exact hlt), List.getElem?_eq_getElem _⟩
        have HX := Lib.hid hx
        have HXm := Lib.hid (List.mem_of_getElem? hx)
        obtain ⟨bl, ol, rfl⟩ : ∃ b off, av = some ⟨b, off, none⟩ := by
          rcases (HRv.out _ (Below.refl _ _)).at_ with h0 | ⟨b, off, q, _⟩
          · rw [h0] at hx; simp at hx
          · exact ⟨b, off, q⟩
        obtain ⟨ar', cr', er, hrr⟩ := row_rdl HRow.out (fun y hy => ((HVv.out.ents y (HSub.out y hy)).later HBw.out).okB (HVv.out.by_ y (HSub.out y hy)))
        simp only [Value.slice.injEq] at er
        obtain ⟨rfl, -, rfl⟩ := er
        have HRr : Hid (∀ Z, Below wo.heap.size wo Z → RdL3 Z ar cr rs) := fun Z b => hrr.later b
        have hLc : L ≤ cr := by rw [HLr.out]; exact hrr.cap.1
        have HUp2 : Hid (∀ Z, Below wo.heap.size wo Z → Below w3.heap.size w3 Z) := fun Z b => HBw.out.trans (b.mono HBw.out.size)
        have HCx : Hid (∀ Z, Below wo.heap.size wo Z → Z.cell? ⟨bl, ol + q * 7, none⟩ = some x.vr ∧ Z.cell? ⟨bl, ol + q * 7 + 1, none⟩ = some (.int .i64 x.fam) ∧ Z.cell? ⟨bl, ol + q * 7 + 2, none⟩ = some x.vq ∧ Z.cell? ⟨bl, ol + q * 7 + 3, none⟩ = some (.int .i64 x.ts) ∧ Z.cell? ⟨bl, ol + q * 7 + 4, none⟩ = some (.int .i64 x.seq) ∧ Z.cell? ⟨bl, ol + q * 7 + 5, none⟩ = some (.int .i64 x.kind) ∧ Z.cell? ⟨bl, ol + q * 7 + 6, none⟩ = some x.vv) := fun Z b => by
          have cx := (HRv.out Z (HUp2.out Z b)).cells (Below.refl _ _) hx
          exact ⟨by have := cx 0 _ rfl; simpa using this, cx 1 _ rfl, cx 2 _ rfl, cx 3 _ rfl, cx 4 _ rfl, cx 5 _ rfl, cx 6 _ rfl⟩
        have HOkx : Hid (∀ Z, Below wo.heap.size wo Z → EntD.Ok Z x) := fun Z b => (HRv.out Z (HUp2.out Z b)).ok x HXm.out
        have HS : Hid (readR t n ((ys.take (q + 1)).map EntD.dat) = if x.ts ≤ t ∧ (((rs.map EntD.dat).filter fun y => mates y x.dat).length : Int) < n then rs.map EntD.dat ++ [x.dat] else rs.map EntD.dat) := by
          unfold Hid
          rw [List.take_add_one, hx, List.map_append, Option.toList_some, List.map_singleton, readR_snoc, ← HDat.out]
          rfl
        clear hx hrr
        go_wp2
        go_loopw [16, 17, 18] (fun kv j _ wq => ∃ u : Nat, u ≤ L ∧ j = .int .i64 (u : Int) ∧ kv = .int .i64 ((((rs.take u).map EntD.dat).filter fun y => mates y x.dat).length : Int) ∧ Hid (Below wo.heap.size wo wq)) (fun _ j _ _ => L - (intOf j).toNat)
        case atStart => exact ⟨0, Nat.zero_le _, rfl, rfl, Below.refl _ _⟩
        case round =>
          obtain ⟨u, hu, rfl, rfl, HBq⟩ := hrel
          have u0 : (0 : Int) ≤ (u : Int) := by omega
          obtain ⟨G, hG⟩ : ∃ G, G = (((rs.take u).map EntD.dat).filter fun y => mates y x.dat).length := ⟨_, rfl⟩
          have hGl : G ≤ L := by
            rw [hG]
            refine Nat.le_trans (List.length_filter_le _ _) ?_
            rw [List.length_map, List.length_take]
            omega
          rw [← hG]
          have HG := Lib.hid hG
          clear hG
          by_cases hlu : u < L
          · have hlu2 : (u : Int) < (L : Int) := by omega
            obtain ⟨y, hy⟩ : ∃ y, rs[u]? = some y := ⟨rs[u]'(by rw [← HLr.out]; exact hlu), List.getElem?_eq_getElem _⟩
            have HYm := Lib.hid (List.mem_of_getElem? hy)
            obtain ⟨br, or_, rfl⟩ : ∃ b off, ar = some ⟨b, off, none⟩ := by
              rcases (HRr.out _ (Below.refl _ _)).at_ with h0 | ⟨b, off, q, _⟩
              · rw [h0] at hy; simp at hy
              · exact ⟨b, off, q⟩
            have HC : Hid (∀ Z, Below wo.heap.size wo Z → (Z.cell? ⟨bl, ol + q * 7, none⟩ = some x.vr ∧ Z.cell? ⟨bl, ol + q * 7 + 1, none⟩ = some (.int .i64 x.fam) ∧ Z.cell? ⟨bl, ol + q * 7 + 2, none⟩ = some x.vq ∧ Z.cell? ⟨bl, ol + q * 7 + 3, none⟩ = some (.int .i64 x.ts) ∧ Z.cell? ⟨bl, ol + q * 7 + 4, none⟩ = some (.int .i64 x.seq) ∧ Z.cell? ⟨bl, ol + q * 7 + 5, none⟩ = some (.int .i64 x.kind) ∧ Z.cell? ⟨bl, ol + q * 7 + 6, none⟩ = some x.vv) ∧ Z.cell? ⟨br, or_ + u * 7, none⟩ = some y.vr ∧ Z.cell? ⟨br, or_ + u * 7 + 1, none⟩ = some (.int .i64 y.fam) ∧ Z.cell? ⟨br, or_ + u * 7 + 2, none⟩ = some y.vq ∧ Z.cell? ⟨br, or_ + u * 7 + 3, none⟩ = some (.int .i64 y.ts) ∧ Z.cell? ⟨br, or_ + u * 7 + 4, none⟩ = some (.int .i64 y.seq) ∧ Z.cell? ⟨br, or_ + u * 7 + 5, none⟩ = some (.int .i64 y.kind) ∧ Z.cell? ⟨br, or_ + u * 7 + 6, none⟩ = some y.vv) := fun Z b => by
              have cy := (HRr.out Z b).cells (Below.refl _ _) hy
              exact ⟨HCx.out Z b, by have := cy 0 _ rfl; simpa using this, cy 1 _ rfl, cy 2 _ rfl, cy 3 _ rfl, cy 4 _ rfl, cy 5 _ rfl, cy 6 _ rfl⟩
            have HMt : Hid (∀ Z, Below wo.heap.size wo Z → Calls Tryz.prog 55 #[.agg y.cells, .agg x.cells] Z fun r w' => r = .returned (.bool (mates y.dat x.dat)) ∧ Below Z.heap.size Z w') := fun Z b => mates_any ((HRr.out Z b).ok y HYm.out) (HOkx.out Z b)
            obtain ⟨mm, hmm⟩ : ∃ mm, mm = mates y.dat x.dat := ⟨_, rfl⟩
            rw [← hmm] at HMt
            have HG1 : Hid ((((rs.take (u + 1)).map EntD.dat).filter fun y => mates y x.dat).length = if mm then G + 1 else G) := by
              unfold Hid
              rw [List.take_add_one, hy, List.map_append, List.filter_append, List.length_append, ← HG.out, hmm]
              cases z : mates y.dat x.dat <;> simp [z]
            unfold EntD.cells at HMt
            have D0 : Below wo.heap.size wo wr.drew := HBq.out.drew
            have w0 : IntKind.i64.wrap ((G : Int) + 1) = (G : Int) + 1 := by simp [IntKind.wrap, IntKind.bits, IntKind.signed]; omega
            clear hy hmm
            go_wp2_with fail
            go_region_held3 (fun Z => (Z.cell? ⟨bl, ol + q * 7, none⟩ = some x.vr ∧ Z.cell? ⟨bl, ol + q * 7 + 1, none⟩ = some (.int .i64 x.fam) ∧ Z.cell? ⟨bl, ol + q * 7 + 2, none⟩ = some x.vq ∧ Z.cell? ⟨bl, ol + q * 7 + 3, none⟩ = some (.int .i64 x.ts) ∧ Z.cell? ⟨bl, ol + q * 7 + 4, none⟩ = some (.int .i64 x.seq) ∧ Z.cell? ⟨bl, ol + q * 7 + 5, none⟩ = some (.int .i64 x.kind) ∧ Z.cell? ⟨bl, ol + q * 7 + 6, none⟩ = some x.vv) ∧ Z.cell? ⟨br, or_ + u * 7, none⟩ = some y.vr ∧ Z.cell? ⟨br, or_ + u * 7 + 1, none⟩ = some (.int .i64 y.fam) ∧ Z.cell? ⟨br, or_ + u * 7 + 2, none⟩ = some y.vq ∧ Z.cell? ⟨br, or_ + u * 7 + 3, none⟩ = some (.int .i64 y.ts) ∧ Z.cell? ⟨br, or_ + u * 7 + 4, none⟩ = some (.int .i64 y.seq) ∧ Z.cell? ⟨br, or_ + u * 7 + 5, none⟩ = some (.int .i64 y.kind) ∧ Z.cell? ⟨br, or_ + u * 7 + 6, none⟩ = some y.vv) (first | exact HC.out _ D1 | exact HC.out _ D0) ((go_at_call 55; refine Calls.mono (HMt.out _ D0) ?_; rintro e1 w5 ⟨rfl, hb1⟩; have D1 := D0.trans (hb1.mono D0.size)))
            cases mm with
            | false =>
              go_wp2
              go_roundw
              case rel => exact ⟨u + 1, by omega, by go_num, by rw [HG1.out]; simp, D1⟩
              case measure => simp only [intOf]; omega
            | true =>
              go_wp2
              go_roundw
              case rel => exact ⟨u + 1, by omega, by go_num, by rw [HG1.out]; simp, D1⟩
              case measure => simp only [intOf]; omega
          · have hge : ¬ (u : Int) < (L : Int) := by omega
            have HG2 : Hid (((rs.map EntD.dat).filter fun y => mates y x.dat).length = G) := by
              unfold Hid
              rw [HG.out, List.take_of_length_le (by rw [← HLr.out]; omega)]
            rw [HG2.out] at HS
            have HB4 := Lib.hid (HUp2.out _ HBq.out)
            have HRw2 : Hid (wr.ownsRow w3.heap.size 84 7 (.slice ar rs.length cr) rs.length (evals rs)) := row_same HRow.out (fun g hg => HBq.out.block g (HRow.out.lt g hg).2)
            have HRw3 : Hid (wr.ownsRow w3.heap.size 84 7 (.slice ar L cr) rs.length (evals rs)) := row_same HRo.out (fun g hg => HBq.out.block g (HRo.out.lt g hg).2)
            by_cases ct : x.ts ≤ t
            · have dt : decide (x.ts ≤ t) = true := decide_eq_true ct
              by_cases cn : (G : Int) < n
              · have dn : decide ((G : Int) < n) = true := decide_eq_true cn
                have hk : Hid (readR t n ((ys.take (q + 1)).map EntD.dat) = rs.map EntD.dat ++ [x.dat]) := by unfold Hid; rw [HS.out, if_pos ⟨ct, cn⟩]
                have o3 := HVv.out.ents x HXm.out
                obtain ⟨a1, c1, e1⟩ := own_form' o3.row
                obtain ⟨a2, c2, e2⟩ := own_form' o3.qual
                obtain ⟨a3, c3, e3⟩ := own_form' o3.val
                have exx : x = ⟨.slice a1 x.row.length c1, x.fam, .slice a2 x.qual.length c2, x.ts, x.seq, x.kind, .slice a3 x.val.length c3, x.row, x.qual, x.val⟩ := by
                  obtain ⟨xr, xf, xq, xt, xs2, xk, xv, xrow, xqual, xval⟩ := x
                  simp only at e1 e2 e3
                  subst e1 e2 e3
                  rfl
                have HXx := Lib.hid exx
                have O31 : Hid (O3 w3 w2.heap.size (⟨.slice a1 x.row.length c1, x.fam, .slice a2 x.qual.length c2, x.ts, x.seq, x.kind, .slice a3 x.val.length c3, x.row, x.qual, x.val⟩ : EntD)) := exx ▸ o3
                obtain ⟨x0, x1, x2, x3, x4, x5, x6⟩ := HCx.out _ HBq.out
                rw [e1] at x0
                rw [e2] at x2
                rw [e3] at x6
                have HAl := Lib.hid ((Below.refl wr.heap.size wr).alloc (Nat.le_refl _) (.cells #[.slice a1 x.row.length c1, .int .i64 x.fam, .slice a2 x.qual.length c2, .int .i64 x.ts, .int .i64 x.seq, .int .i64 x.kind, .slice a3 x.val.length c3] 84))
                have HBA := Lib.hid (HB4.out.trans (HAl.out.mono HB4.out.size))
                have HRA := Lib.hid (row_same HRw3.out (fun g hg => HAl.out.block g (HRw3.out.lt g hg).2))
                clear e1 e2 e3 o3 exx
                go_wp2_with (at_builtin; refine wpl_append_ent (x := (⟨.slice a1 x.row.length c1, x.fam, .slice a2 x.qual.length c2, x.ts, x.seq, x.kind, .slice a3 x.val.length c3, x.row, x.qual, x.val⟩ : EntD)) (xs := rs) rfl _ _ rfl rfl HRA.out ⟨wr.heap.size, 0, none⟩ rfl (ent_new wr (⟨.slice a1 x.row.length c1, x.fam, .slice a2 x.qual.length c2, x.ts, x.seq, x.kind, .slice a3 x.val.length c3, x.row, x.qual, x.val⟩ : EntD)) (O3.cells_one O31.out) (by rw [← HLr.out]; omega) HBA.out.size ?_)
                intro a7 c7 w7 row7 gr7
                rw [← HXx.out] at row7
                have HR7 : Hid (w7.ownsRow w3.heap.size 84 7 (.slice a7 (rs ++ [x]).length c7) (rs ++ [x]).length (evals (rs ++ [x]))) := by
                  unfold Hid
                  rw [List.length_append]
                  exact row7
                have HB7 : Hid (Below w3.heap.size w3 w7) := HBA.out.grown gr7 HBA.out.size (fun k hk => (HRA.out.lt k hk).1)
                clear row7 gr7
                rw [← HLr.out]
                go_wp2
                go_roundw
                case rel => exact ⟨q + 1, rs ++ [x], a7, c7, by omega, by go_num, by rw [List.length_append, ← HLr.out]; rfl, HR7.out, (fun y hy => (List.mem_append.1 hy).elim (HSub.out y) (fun z => by rw [List.mem_singleton] at z; rw [z]; exact HXm.out)), by unfold Hid; rw [hk.out, List.map_append]; rfl, HB7.out, by rw [List.length_append, ← HLr.out]; simp; omega⟩
                case measure => simp only [intOf]; omega
              · have dn : decide ((G : Int) < n) = false := decide_eq_false cn
                have hk : Hid (readR t n ((ys.take (q + 1)).map EntD.dat) = rs.map EntD.dat) := by unfold Hid; rw [HS.out, if_neg (fun z => cn z.2)]
                obtain ⟨x0, x1, x2, x3, x4, x5, x6⟩ := HCx.out _ HBq.out
                go_wp2
                go_roundw
                case rel => exact ⟨q + 1, rs, ar, cr, by omega, by go_num, by rw [← HLr.out], HRw2.out, HSub.out, by unfold Hid; rw [hk.out], HB4.out, by rw [← HLr.out]; omega⟩
                case measure => simp only [intOf]; omega
            · have dt : decide (x.ts ≤ t) = false := decide_eq_false ct
              have hk : Hid (readR t n ((ys.take (q + 1)).map EntD.dat) = rs.map EntD.dat) := by unfold Hid; rw [HS.out, if_neg (fun z => ct z.1)]
              obtain ⟨x0, x1, x2, x3, x4, x5, x6⟩ := HCx.out _ HBq.out
              go_wp2
              go_roundw
              case rel => exact ⟨q + 1, rs, ar, cr, by omega, by go_num, by rw [← HLr.out], HRw2.out, HSub.out, by unfold Hid; rw [hk.out], HB4.out, by rw [← HLr.out]; omega⟩
              case measure => simp only [intOf]; omega
      · have hge : ¬ (q : Int) < (M : Int) := by omega
        have HF : Hid (Vw W wo rs (.slice ar L cr) (readR t n (m.filter (visB (mt fs) clock m)))) := by
          have hd := HDat.out
          rw [List.take_of_length_le (by rw [← HM.out]; omega), HVv.out.dat] at hd
          exact ⟨row_low HRo.out HB3.out.size, fun x hx => ((HVv.out.ents x (HSub.out x hx)).later HBw.out).low HB2.out.size, HB3.out.trans (HBw.out.mono HB3.out.size), hd, fun x hx => HVv.out.by_ x (HSub.out x hx)⟩
        go_wp2
        go_ret2
        exact ⟨HF.out.below, rs, _, rfl, _, HOd.out, HF.out⟩
  · have hz2 : (E == 0) = false := by simpa using hz
    clear b1 HAs HOr
    go_wp2
    go_ret2
    exact ⟨HA.out.trans (B1.out.mono HA.out.size), fun _ => rfl, fun z => absurd z hz⟩
end Go.Proofs.YthhkpkfpifllkaaGreat

namespace Go.Proofs.YthhkpkfpifllkaaGreat
open Go.RowKit Go.Maps
set_option linter.unusedVariables false

def wideL : List Nat := [91, 92, 93, 94, 95]
set_option maxRecDepth 100000 in
set_option maxHeartbeats 1000000 in
theorem wide3_any {v : Value} {L : List Nat} {w : World} (hr : Rd w v L) (hl : L.length ≤ 140737488351232) :
    Calls Tryz.prog 46 #[v] w fun e w' => ∃ a m c, e = .returned (.slice a m c) ∧ Own w' w.heap.size (.slice a m c) m (L ++ wideL) ∧ Below w.heap.size w w' := by
  have HC := Lib.hid (copied3_any hr (by omega))
  have HL := Lib.hid hl
  clear hr hl
  go_enter Tryz.func46, Tryz.ntmps46
  go_wp2_with fail
  refine Calls.mono HC.out ?_
  rintro z w1 ⟨a1, m1, c1, rfl, own1, b1⟩
  have hm1 : m1 ≤ 140737488351232 := by have := own1.1; have := HL.out; omega
  go_wp2_with (at_builtin; refine wpList_append_new rfl _ _ rfl w.heap.size _ _ _ _ rfl own1 _ 5 rfl wideL (by simp [bv, wideL]) rfl (by omega) b1.size ?_; intro a2 m2 c2 w2 own2 b2)
  go_ret
  exact ⟨a2, m2, c2, rfl, by simpa using own2, b1.trans b2⟩
theorem rd_lit {w : World} {g n : Nat} {bs : List Nat} (hn : n = bs.length) (hb : Bys bs) (hl : bs.length ≤ 1000) (h : ∀ i, i < bs.length → w.cell? ⟨g, i, none⟩ = some (.int .u8 ((bs.getD i 0 : Nat) : Int))) : Rd w (.slice (some ⟨g, 0, none⟩) n n) bs := by
  subst hn
  exact ⟨hb, _, _, rfl, Nat.le_refl _, by unfold maxLen; omega, by omega, .inr ⟨g, 0, rfl⟩, .inr ⟨g, 0, rfl, fun i hi => by rw [Nat.zero_add]; exact h i hi⟩⟩
theorem wide_bys : Bys wideL := by intro x hx; simp [wideL] at hx; omega
set_option maxRecDepth 100000 in
set_option maxHeartbeats 1000000 in
theorem kept3_any {g off n c : Nat} {a0 : Option Addr} {c0 : Nat} {L : List Nat} {w : World} (hw : Rd w (.slice (some ⟨g, off, none⟩) (n + 5) c) (L ++ wideL)) (hr : Rd w (.slice a0 n c0) L) :
    Calls Tryz.prog 64 #[.slice (some ⟨g, off, none⟩) (n + 5) c, .slice a0 n c0] w fun e w' => e = .returned (.bool true) ∧ Below w.heap.size w w' := by
  obtain ⟨hn, hle0, hc0, hl0⟩ := rd_lens hr
  obtain ⟨hn5, hle5, hc5, hl5⟩ := rd_lens hw
  have RU := hw.upto n (by omega)
  rw [show (L ++ wideL).take n = L by rw [hn]; simp] at RU
  have hcm : c ≤ 9223372036854775807 := hc5
  have H1 : Hid (∀ wx, Below w.heap.size w wx → Calls Tryz.prog 78 #[.slice (some ⟨g, off, none⟩) n c, .slice a0 n c0] wx fun e w' => e = .returned (.bool true) ∧ w' = wx) := by
    have h : ∀ wx, Below w.heap.size w wx → Calls Tryz.prog 78 #[.slice (some ⟨g, off, none⟩) n c, .slice a0 n c0] wx fun e w' => e = .returned (.bool true) ∧ w' = wx := fun wx hx =>
      (alike_any (RU.later hx) (hr.later hx)).mono fun e w' h => ⟨by rw [h.1]; simp, h.2⟩
    exact h
  have HW : Hid (Rd w (.slice (some ⟨g, off, none⟩) (n + 5) c) (L ++ wideL)) := hw
  have HN : Hid (n = L.length) := hn
  clear hw hr hn RU hn5
  go_enter Tryz.func64, Tryz.ntmps64
  go_wp2_with (go_at_call_of 78 (Value.slice (some ⟨g, off, none⟩) n c); refine Calls.mono (H1.out _ (Below.refl _ _)) ?_; rintro e1 w1 ⟨rfl, rfl⟩)
  have bm : Below w1.heap.size w1 (w1.alloc (.cells #[.int .u8 91, .int .u8 92, .int .u8 93, .int .u8 94, .int .u8 95] 5)) := (Below.refl _ _).alloc (Nat.le_refl _) _
  have RP := (HW.out.past n (by omega) (off' := off + n) (n' := 5) (cap' := c - n) rfl (by omega) rfl).later bm
  rw [show (L ++ wideL).drop n = wideL by rw [HN.out]; simp] at RP
  have RM : Rd (w1.alloc (.cells #[.int .u8 91, .int .u8 92, .int .u8 93, .int .u8 94, .int .u8 95] 5)) (.slice (some ⟨w1.heap.size, 0, none⟩) 5 5) wideL := by
    refine rd_lit rfl wide_bys (by decide) fun i hi => ?_
    have h5 : i < 5 := hi
    match i, h5 with
    | 0, _ => exact cell_at9 (heap_new9 _ _ rfl) rfl
    | 1, _ => exact cell_at9 (heap_new9 _ _ rfl) rfl
    | 2, _ => exact cell_at9 (heap_new9 _ _ rfl) rfl
    | 3, _ => exact cell_at9 (heap_new9 _ _ rfl) rfl
    | 4, _ => exact cell_at9 (heap_new9 _ _ rfl) rfl
  refine Calls.mono (alike_any RP RM) ?_
  rintro e2 w2 ⟨rfl, rfl⟩
  rw [show decide (wideL = wideL) = true by simp]
  go_wp2
  go_ret
  exact ⟨rfl, bm⟩
end Go.Proofs.YthhkpkfpifllkaaGreat
