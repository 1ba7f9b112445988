import Derived.Test.YtganmnckdmkcbaaGreatK22
namespace Go.Proofs.YtganmnckdmkcbaaGreat
open Go.RowKit Go.Maps
set_option linter.unusedVariables false

set_option maxRecDepth 100000 in
set_option maxHeartbeats 8000000 in
theorem refRead_any {W : World} {fa a : Option Addr} {fc cap : Nat} {fs : List FamD} {l : List EntD} (hr : RdF W (.slice fa fs.length fc) fs) (C : Nat) (hC : (C = 0 ↔ SchemaOk fs) ∧ (C = 0 ∨ C = 28)) (clock t n : Int) (hl : RdL3 W a cap l) (hn : l.length ≤ 1353245080300) :
    Calls Tryz.prog 22 #[.agg #[.slice fa fs.length fc], .int .i64 clock, .int .i64 t, .int .i64 n, .slice a l.length cap] W fun r W' => Below W.heap.size W W' ∧ (askE C fs clock 0 t n l ≠ 0 → r = .returned (.tuple #[.slice none 0 0, .int .i64 (askE C fs clock 0 t n l)])) ∧ (askE C fs clock 0 t n l = 0 → ∃ (zs : List EntD) (v : Value) (m : List En), r = .returned (.tuple #[v, .int .i64 0]) ∧ IsOrd fs.length (l.map EntD.dat) m ∧ Vw W W' zs v (readR t n (m.filter (visB (mt fs) clock m)))) := by
  obtain ⟨W1, hW, A, hb⟩ := sch_box W fa fs.length fc
  obtain ⟨E, hE⟩ : ∃ E, E = askE C fs clock 0 t n l := ⟨_, rfl⟩
  have up : ∀ Z, Below W1.heap.size W1 Z → Below W.heap.size W Z := fun Z b => A.trans (b.mono A.size)
  have HAs := Lib.hid (refAsked_any (hr.later A) C hC clock 0 t n (hl.later A) hn)
  rw [← hE] at HAs ⊢
  have HOr : Hid (E = 0 → ∀ Z, Below W1.heap.size W1 Z → Calls Tryz.prog 51 #[.slice a l.length cap] Z _) := fun z Z b => ordered_ok (fs := fs) (hl.later (up Z b)) hn (askE_ok (hE.symm.trans z)).2 (hC.1.1 (askE_ok (hE.symm.trans z)).1)
  have HVi := Lib.hid (fun (Z : World) (b : Below W1.heap.size W1 Z) (zs : List EntD) (a' : Option Addr) (c' : Nat) (hU : LU fs zs) (hs : ∀ x ∈ zs, Shrt x) (hz : RdL3 Z a' c' zs) (hln : zs.length ≤ l.length) => refVisible_any clock (hr.later (up Z b)) hU hz hs (Nat.le_trans hln hn))
  obtain ⟨N, hN⟩ : ∃ N, N = l.length := ⟨_, rfl⟩
  obtain ⟨K, hK⟩ : ∃ K, K = fs.length := ⟨_, rfl⟩
  rw [← hN, ← hK] at HAs
  rw [← hN] at HOr
  rw [← hK] at HVi hb hW
  rw [← hN, ← hK]
  have HHn := Lib.hid hn
  have HK := Lib.hid hK
  have HN := Lib.hid hN
  have HW := Lib.hid hW
  have HA := Lib.hid A
  have HB := Lib.hid hb
  clear hl hE hN hr hC hn hK hW A hb up
  go_enter Tryz.func22, Tryz.ntmps22
  go_upto_region 1 with fail
  rw [← HW.out]
  clear HW
  have s0 := HB.out _ (Below.refl _ _)
  go_wp2_with fail
  refine Calls.mono HAs.out ?_
  rintro z w1 ⟨rfl, b1⟩
  have B1 := Lib.hid b1
  have s1 := HB.out _ b1
  clear s0
  by_cases hz : E = 0
  · have D0 : Below W1.heap.size W1 w1.drew := b1.drew
    have HK2 := Lib.hid (HOr.out hz _ D0)
    subst hz
    clear b1 HAs HOr
    go_wp2_with fail
    go_region_held3 (fun Z => Z.cell? ⟨W.heap.size, 0, none⟩ = some (.slice fa K fc)) (first | exact HB.out _ D2 | exact HB.out _ D1 | exact HB.out _ D0) (first | (have hq := D1; clear hq; (go_at_call 53; refine Calls.mono HV2.out ?_; rintro z w3 ⟨v, ys, rfl, hv⟩; have D2 : Below W1.heap.size W1 w3 := D1.trans (hv.below.mono D1.size))) | (go_at_call 51; refine Calls.mono HK2.out ?_; rintro z w2 ⟨zs, a', c', rfl, b2, ho, hU, hs, hrd, hle⟩; have D1 : Below W1.heap.size W1 w2 := D0.trans (b2.mono D0.size); have HV2 := Lib.hid (HVi.out _ D1 zs a' c' hU hs hrd (by rw [← HN.out]; exact hle))))
    have HOd : Hid (IsOrd K (l.map EntD.dat) (zs.map EntD.dat)) := by rw [HK.out]; exact ho
    obtain ⟨m, hm⟩ : ∃ m, m = zs.map EntD.dat := ⟨_, rfl⟩
    rw [← hm] at hv HOd
    have hyl : ys.length ≤ 1353245080300 := by
      have e := congrArg List.length hv.dat
      rw [List.length_map] at e
      rw [e]
      refine Nat.le_trans (List.length_filter_le _ _) ?_
      rw [hm, List.length_map]
      exact Nat.le_trans hle (by rw [HN.out]; exact HHn.out)
    obtain ⟨av, cv, ev, hrv⟩ := row_rdl hv.row (fun x hx => (hv.ents x hx).okB (hv.by_ x hx))
    subst ev
    obtain ⟨M, hM⟩ : ∃ M, M = ys.length := ⟨_, rfl⟩
    have hMc := hrv.cap
    rw [← hM] at hyl hMc ⊢
    have HM := Lib.hid hM
    have HVv := Lib.hid hv
    have HMd := Lib.hid hm
    have HRv : Hid (∀ Z, Below w3.heap.size w3 Z → RdL3 Z av cv ys) := fun Z b => hrv.later b
    have HB2 := Lib.hid (HA.out.trans (D1.mono HA.out.size))
    have HB3 := Lib.hid (HA.out.trans (D2.mono HA.out.size))
    clear hM hm hv hrv HV2 D0 D1 D2 ho hU hs hrd hle b2 HVi HK2 s1
    go_wp2
    go_loopw [14, 15, 16, 17, 18] (fun rv i _ _ _ wr => ∃ (q : Nat) (rs : List EntD) (ar : Option Addr) (cr : Nat), q ≤ M ∧ i = .int .i64 (q : Int) ∧ rv = .slice ar rs.length cr ∧ Hid (wr.ownsRow w3.heap.size 84 7 (.slice ar rs.length cr) rs.length (evals rs)) ∧ Hid (∀ x ∈ rs, x ∈ ys) ∧ Hid (rs.map EntD.dat = readR t n ((ys.take q).map EntD.dat)) ∧ Hid (Below w3.heap.size w3 wr) ∧ rs.length ≤ q) (fun _ i _ _ _ _ => M - (intOf i).toNat)
    case atStart => exact ⟨0, [], none, 0, Nat.zero_le _, rfl, rfl, (Rw.nil w3 w3.heap.size (fun _ => True)).row, (fun x hx => by cases hx), by unfold Hid; rfl, Below.refl _ _, Nat.le_refl _⟩
    case round =>
      obtain ⟨q, rs, ar, cr, hq, rfl, rfl, HRow, HSub, HDat, HBw, hrq⟩ := hrel
      have q0 : (0 : Int) ≤ (q : Int) := by omega
      obtain ⟨L, hL⟩ : ∃ L, L = rs.length := ⟨_, rfl⟩
      have HLr := Lib.hid hL
      rw [← hL] at hrq ⊢
      have HRo : Hid (wr.ownsRow w3.heap.size 84 7 (.slice ar L cr) rs.length (evals rs)) := by unfold Hid; rw [hL]; exact HRow.out
      clear hL
      obtain ⟨wo, hwo⟩ : ∃ wo, wo = wr := ⟨_, rfl⟩
      rw [← hwo] at HRow HBw HRo ⊢
      clear hwo
      by_cases hlt : q < M
      · have hlt2 : (q : Int) < (M : Int) := by omega
        obtain ⟨x, hx⟩ : ∃ x, ys[q]? = some x := ⟨ys[q]'(by rw [← HM.out]; exact hlt), List.getElem?_eq_getElem _⟩
        have HX := Lib.hid hx
        have HXm := Lib.hid (List.mem_of_getElem? hx)
        obtain ⟨bl, ol, rfl⟩ : ∃ b off, av = some ⟨b, off, none⟩ := by
          rcases (HRv.out _ (Below.refl _ _)).at_ with h0 | ⟨b, off, q, _⟩
          · rw [h0] at hx; simp at hx
          · exact ⟨b, off, q⟩
        obtain ⟨ar', cr', er, hrr⟩ := row_rdl HRow.out (fun y hy => ((HVv.out.ents y (HSub.out y hy)).later HBw.out).okB (HVv.out.by_ y (HSub.out y hy)))
        simp only [Value.slice.injEq] at er
        obtain ⟨rfl, -, rfl⟩ := er
        have HRr : Hid (∀ Z, Below wo.heap.size wo Z → RdL3 Z ar cr rs) := fun Z b => hrr.later b
        have hLc : L ≤ cr := by rw [HLr.out]; exact hrr.cap.1
        have HUp2 : Hid (∀ Z, Below wo.heap.size wo Z → Below w3.heap.size w3 Z) := fun Z b => HBw.out.trans (b.mono HBw.out.size)
        have HCx : Hid (∀ Z, Below wo.heap.size wo Z → Z.cell? ⟨bl, ol + q * 7, none⟩ = some x.vr ∧ Z.cell? ⟨bl, ol + q * 7 + 1, none⟩ = some (.int .i64 x.fam) ∧ Z.cell? ⟨bl, ol + q * 7 + 2, none⟩ = some x.vq ∧ Z.cell? ⟨bl, ol + q * 7 + 3, none⟩ = some (.int .i64 x.ts) ∧ Z.cell? ⟨bl, ol + q * 7 + 4, none⟩ = some (.int .i64 x.seq) ∧ Z.cell? ⟨bl, ol + q * 7 + 5, none⟩ = some (.int .i64 x.kind) ∧ Z.cell? ⟨bl, ol + q * 7 + 6, none⟩ = some x.vv) := fun Z b => by
          have cx := (HRv.out Z (HUp2.out Z b)).cells (Below.refl _ _) hx
          exact ⟨by have := cx 0 _ rfl; simpa using this, cx 1 _ rfl, cx 2 _ rfl, cx 3 _ rfl, cx 4 _ rfl, cx 5 _ rfl, cx 6 _ rfl⟩
        have HOkx : Hid (∀ Z, Below wo.heap.size wo Z → EntD.Ok Z x) := fun Z b => (HRv.out Z (HUp2.out Z b)).ok x HXm.out
        have HS : Hid (readR t n ((ys.take (q + 1)).map EntD.dat) = if x.ts ≤ t ∧ (((rs.map EntD.dat).filter fun y => mates y x.dat).length : Int) < n then rs.map EntD.dat ++ [x.dat] else rs.map EntD.dat) := by
          unfold Hid
          rw [List.take_add_one, hx, List.map_append, Option.toList_some, List.map_singleton, readR_snoc, ← HDat.out]
          rfl
        clear hx hrr
        go_wp2
        go_loopw [16, 17, 18] (fun kv j _ wq => ∃ u : Nat, u ≤ L ∧ j = .int .i64 (u : Int) ∧ kv = .int .i64 ((((rs.take u).map EntD.dat).filter fun y => mates y x.dat).length : Int) ∧ Hid (Below wo.heap.size wo wq)) (fun _ j _ _ => L - (intOf j).toNat)
        case atStart => exact ⟨0, Nat.zero_le _, rfl, rfl, Below.refl _ _⟩
        case round =>
          obtain ⟨u, hu, rfl, rfl, HBq⟩ := hrel
          have u0 : (0 : Int) ≤ (u : Int) := by omega
          obtain ⟨G, hG⟩ : ∃ G, G = (((rs.take u).map EntD.dat).filter fun y => mates y x.dat).length := ⟨_, rfl⟩
          have hGl : G ≤ L := by
            rw [hG]
            refine Nat.le_trans (List.length_filter_le _ _) ?_
            rw [List.length_map, List.length_take]
            omega
          rw [← hG]
          have HG := Lib.hid hG
          clear hG
          by_cases hlu : u < L
          · have hlu2 : (u : Int) < (L : Int) := by omega
            obtain ⟨y, hy⟩ : ∃ y, rs[u]? = some y := ⟨rs[u]'(by rw [← HLr.out]; exact hlu), List.getElem?_eq_getElem _⟩
            have HYm := Lib.hid (List.mem_of_getElem? hy)
            obtain ⟨br, or_, rfl⟩ : ∃ b off, ar = some ⟨b, off, none⟩ := by
              rcases (HRr.out _ (Below.refl _ _)).at_ with h0 | ⟨b, off, q, _⟩
              · rw [h0] at hy; simp at hy
              · exact ⟨b, off, q⟩
            have HC : Hid (∀ Z, Below wo.heap.size wo Z → (Z.cell? ⟨bl, ol + q * 7, none⟩ = some x.vr ∧ Z.cell? ⟨bl, ol + q * 7 + 1, none⟩ = some (.int .i64 x.fam) ∧ Z.cell? ⟨bl, ol + q * 7 + 2, none⟩ = some x.vq ∧ Z.cell? ⟨bl, ol + q * 7 + 3, none⟩ = some (.int .i64 x.ts) ∧ Z.cell? ⟨bl, ol + q * 7 + 4, none⟩ = some (.int .i64 x.seq) ∧ Z.cell? ⟨bl, ol + q * 7 + 5, none⟩ = some (.int .i64 x.kind) ∧ Z.cell? ⟨bl, ol + q * 7 + 6, none⟩ = some x.vv) ∧ Z.cell? ⟨br, or_ + u * 7, none⟩ = some y.vr ∧ Z.cell? ⟨br, or_ + u * 7 + 1, none⟩ = some (.int .i64 y.fam) ∧ Z.cell? ⟨br, or_ + u * 7 + 2, none⟩ = some y.vq ∧ Z.cell? ⟨br, or_ + u * 7 + 3, none⟩ = some (.int .i64 y.ts) ∧ Z.cell? ⟨br, or_ + u * 7 + 4, none⟩ = some (.int .i64 y.seq) ∧ Z.cell? ⟨br, or_ + u * 7 + 5, none⟩ = some (.int .i64 y.kind) ∧ Z.cell? ⟨br, or_ + u * 7 + 6, none⟩ = some y.vv) := fun Z b => by
              have cy := (HRr.out Z b).cells (Below.refl _ _) hy
              exact ⟨HCx.out Z b, by have := cy 0 _ rfl; simpa using this, cy 1 _ rfl, cy 2 _ rfl, cy 3 _ rfl, cy 4 _ rfl, cy 5 _ rfl, cy 6 _ rfl⟩
            have HMt : Hid (∀ Z, Below wo.heap.size wo Z → Calls Tryz.prog 55 #[.agg y.cells, .agg x.cells] Z fun r w' => r = .returned (.bool (mates y.dat x.dat)) ∧ Below Z.heap.size Z w') := fun Z b => mates_any ((HRr.out Z b).ok y HYm.out) (HOkx.out Z b)
            obtain ⟨mm, hmm⟩ : ∃ mm, mm = mates y.dat x.dat := ⟨_, rfl⟩
            rw [← hmm] at HMt
            have HG1 : Hid ((((rs.take (u + 1)).map EntD.dat).filter fun y => mates y x.dat).length = if mm then G + 1 else G) := by
              unfold Hid
              rw [List.take_add_one, hy, List.map_append, List.filter_append, List.length_append, ← HG.out, hmm]
              cases z : mates y.dat x.dat <;> simp [z]
            unfold EntD.cells at HMt
            have D0 : Below wo.heap.size wo wr.drew := HBq.out.drew
            have w0 : IntKind.i64.wrap ((G : Int) + 1) = (G : Int) + 1 := by simp [IntKind.wrap, IntKind.bits, IntKind.signed]; omega
            clear hy hmm
            go_wp2_with fail
            go_region_held3 (fun Z => (Z.cell? ⟨bl, ol + q * 7, none⟩ = some x.vr ∧ Z.cell? ⟨bl, ol + q * 7 + 1, none⟩ = some (.int .i64 x.fam) ∧ Z.cell? ⟨bl, ol + q * 7 + 2, none⟩ = some x.vq ∧ Z.cell? ⟨bl, ol + q * 7 + 3, none⟩ = some (.int .i64 x.ts) ∧ Z.cell? ⟨bl, ol + q * 7 + 4, none⟩ = some (.int .i64 x.seq) ∧ Z.cell? ⟨bl, ol + q * 7 + 5, none⟩ = some (.int .i64 x.kind) ∧ Z.cell? ⟨bl, ol + q * 7 + 6, none⟩ = some x.vv) ∧ Z.cell? ⟨br, or_ + u * 7, none⟩ = some y.vr ∧ Z.cell? ⟨br, or_ + u * 7 + 1, none⟩ = some (.int .i64 y.fam) ∧ Z.cell? ⟨br, or_ + u * 7 + 2, none⟩ = some y.vq ∧ Z.cell? ⟨br, or_ + u * 7 + 3, none⟩ = some (.int .i64 y.ts) ∧ Z.cell? ⟨br, or_ + u * 7 + 4, none⟩ = some (.int .i64 y.seq) ∧ Z.cell? ⟨br, or_ + u * 7 + 5, none⟩ = some (.int .i64 y.kind) ∧ Z.cell? ⟨br, or_ + u * 7 + 6, none⟩ = some y.vv) (first | exact HC.out _ D1 | exact HC.out _ D0) ((go_at_call 55; refine Calls.mono (HMt.out _ D0) ?_; rintro e1 w5 ⟨rfl, hb1⟩; have D1 := D0.trans (hb1.mono D0.size)))
            cases mm with
            | false =>
              go_wp2
              go_roundw
              case rel => exact ⟨u + 1, by omega, by go_num, by rw [HG1.out]; simp, D1⟩
              case measure => simp only [intOf]; omega
            | true =>
              go_wp2
              go_roundw
              case rel => exact ⟨u + 1, by omega, by go_num, by rw [HG1.out]; simp, D1⟩
              case measure => simp only [intOf]; omega
          · have hge : ¬ (u : Int) < (L : Int) := by omega
            have HG2 : Hid (((rs.map EntD.dat).filter fun y => mates y x.dat).length = G) := by
              unfold Hid
              rw [HG.out, List.take_of_length_le (by rw [← HLr.out]; omega)]
            rw [HG2.out] at HS
            have HB4 := Lib.hid (HUp2.out _ HBq.out)
            have HRw2 : Hid (wr.ownsRow w3.heap.size 84 7 (.slice ar rs.length cr) rs.length (evals rs)) := row_same HRow.out (fun g hg => HBq.out.block g (HRow.out.lt g hg).2)
            have HRw3 : Hid (wr.ownsRow w3.heap.size 84 7 (.slice ar L cr) rs.length (evals rs)) := row_same HRo.out (fun g hg => HBq.out.block g (HRo.out.lt g hg).2)
            by_cases ct : x.ts ≤ t
            · have dt : decide (x.ts ≤ t) = true := decide_eq_true ct
              by_cases cn : (G : Int) < n
              · have dn : decide ((G : Int) < n) = true := decide_eq_true cn
                have hk : Hid (readR t n ((ys.take (q + 1)).map EntD.dat) = rs.map EntD.dat ++ [x.dat]) := by unfold Hid; rw [HS.out, if_pos ⟨ct, cn⟩]
                have o3 := HVv.out.ents x HXm.out
                obtain ⟨a1, c1, e1⟩ := own_form' o3.row
                obtain ⟨a2, c2, e2⟩ := own_form' o3.qual
                obtain ⟨a3, c3, e3⟩ := own_form' o3.val
                have exx : x = ⟨.slice a1 x.row.length c1, x.fam, .slice a2 x.qual.length c2, x.ts, x.seq, x.kind, .slice a3 x.val.length c3, x.row, x.qual, x.val⟩ := by
                  obtain ⟨xr, xf, xq, xt, xs2, xk, xv, xrow, xqual, xval⟩ := x
                  simp only at e1 e2 e3
                  subst e1 e2 e3
                  rfl
                have HXx := Lib.hid exx
                have O31 : Hid (O3 w3 w2.heap.size (⟨.slice a1 x.row.length c1, x.fam, .slice a2 x.qual.length c2, x.ts, x.seq, x.kind, .slice a3 x.val.length c3, x.row, x.qual, x.val⟩ : EntD)) := exx ▸ o3
                obtain ⟨x0, x1, x2, x3, x4, x5, x6⟩ := HCx.out _ HBq.out
                rw [e1] at x0
                rw [e2] at x2
                rw [e3] at x6
                have HAl := Lib.hid ((Below.refl wr.heap.size wr).alloc (Nat.le_refl _) (.cells #[.slice a1 x.row.length c1, .int .i64 x.fam, .slice a2 x.qual.length c2, .int .i64 x.ts, .int .i64 x.seq, .int .i64 x.kind, .slice a3 x.val.length c3] 84))
                have HBA := Lib.hid (HB4.out.trans (HAl.out.mono HB4.out.size))
                have HRA := Lib.hid (row_same HRw3.out (fun g hg => HAl.out.block g (HRw3.out.lt g hg).2))
                clear e1 e2 e3 o3 exx
                go_wp2_with (at_builtin; refine wpl_append_ent (x := (⟨.slice a1 x.row.length c1, x.fam, .slice a2 x.qual.length c2, x.ts, x.seq, x.kind, .slice a3 x.val.length c3, x.row, x.qual, x.val⟩ : EntD)) (xs := rs) rfl _ _ rfl rfl HRA.out ⟨wr.heap.size, 0, none⟩ rfl (ent_new wr (⟨.slice a1 x.row.length c1, x.fam, .slice a2 x.qual.length c2, x.ts, x.seq, x.kind, .slice a3 x.val.length c3, x.row, x.qual, x.val⟩ : EntD)) (O3.cells_one O31.out) (by rw [← HLr.out]; omega) HBA.out.size ?_)
                intro a7 c7 w7 row7 gr7
                rw [← HXx.out] at row7
                have HR7 : Hid (w7.ownsRow w3.heap.size 84 7 (.slice a7 (rs ++ [x]).length c7) (rs ++ [x]).length (evals (rs ++ [x]))) := by
                  unfold Hid
                  rw [List.length_append]
                  exact row7
                have HB7 : Hid (Below w3.heap.size w3 w7) := HBA.out.grown gr7 HBA.out.size (fun k hk => (HRA.out.lt k hk).1)
                clear row7 gr7
                rw [← HLr.out]
                go_wp2
                go_roundw
                case rel => exact ⟨q + 1, rs ++ [x], a7, c7, by omega, by go_num, by rw [List.length_append, ← HLr.out]; rfl, HR7.out, (fun y hy => (List.mem_append.1 hy).elim (HSub.out y) (fun z => by rw [List.mem_singleton] at z; rw [z]; exact HXm.out)), by unfold Hid; rw [hk.out, List.map_append]; rfl, HB7.out, by rw [List.length_append, ← HLr.out]; simp; omega⟩
                case measure => simp only [intOf]; omega
              · have dn : decide ((G : Int) < n) = false := decide_eq_false cn
                have hk : Hid (readR t n ((ys.take (q + 1)).map EntD.dat) = rs.map EntD.dat) := by unfold Hid; rw [HS.out, if_neg (fun z => cn z.2)]
                obtain ⟨x0, x1, x2, x3, x4, x5, x6⟩ := HCx.out _ HBq.out
                go_wp2
                go_roundw
                case rel => exact ⟨q + 1, rs, ar, cr, by omega, by go_num, by rw [← HLr.out], HRw2.out, HSub.out, by unfold Hid; rw [hk.out], HB4.out, by rw [← HLr.out]; omega⟩
                case measure => simp only [intOf]; omega
            · have dt : decide (x.ts ≤ t) = false := decide_eq_false ct
              have hk : Hid (readR t n ((ys.take (q + 1)).map EntD.dat) = rs.map EntD.dat) := by unfold Hid; rw [HS.out, if_neg (fun z => ct z.1)]
              obtain ⟨x0, x1, x2, x3, x4, x5, x6⟩ := HCx.out _ HBq.out
              go_wp2
              go_roundw
              case rel => exact ⟨q + 1, rs, ar, cr, by omega, by go_num, by rw [← HLr.out], HRw2.out, HSub.out, by unfold Hid; rw [hk.out], HB4.out, by rw [← HLr.out]; omega⟩
              case measure => simp only [intOf]; omega
      · have hge : ¬ (q : Int) < (M : Int) := by omega
        have HF : Hid (Vw W wo rs (.slice ar L cr) (readR t n (m.filter (visB (mt fs) clock m)))) := by
          have hd := HDat.out
          rw [List.take_of_length_le (by rw [← HM.out]; omega), HVv.out.dat] at hd
          exact ⟨row_low HRo.out HB3.out.size, fun x hx => ((HVv.out.ents x (HSub.out x hx)).later HBw.out).low HB2.out.size, HB3.out.trans (HBw.out.mono HB3.out.size), hd, fun x hx => HVv.out.by_ x (HSub.out x hx)⟩
        go_wp2
        go_ret2
        exact ⟨HF.out.below, rs, _, rfl, _, HOd.out, HF.out⟩
  · have hz2 : (E == 0) = false := by simpa using hz
    clear b1 HAs HOr
    go_wp2
    go_ret2
    exact ⟨HA.out.trans (B1.out.mono HA.out.size), fun _ => rfl, fun z => absurd z hz⟩
end Go.Proofs.YtganmnckdmkcbaaGreat

namespace Go.Proofs.YtganmnckdmkcbaaGreat
open Go.RowKit Go.Maps
set_option linter.unusedVariables false

def wideL : List Nat := [91, 92, 93, 94, 95]
set_option maxRecDepth 100000 in
set_option maxHeartbeats 1000000 in
theorem wide3_any {v : Value} {L : List Nat} {w : World} (hr : Rd w v L) (hl : L.length ≤ 140737488351232) :
    Calls Tryz.prog 46 #[v] w fun e w' => ∃ a m c, e = .returned (.slice a m c) ∧ Own w' w.heap.size (.slice a m c) m (L ++ wideL) ∧ Below w.heap.size w w' := by
  have HC := Lib.hid (copied3_any hr (by omega))
  have HL := Lib.hid hl
  clear hr hl
  go_enter Tryz.func46, Tryz.ntmps46
  go_wp2_with fail
  refine Calls.mono HC.out ?_
  rintro z w1 ⟨a1, m1, c1, rfl, own1, b1⟩
  have hm1 : m1 ≤ 140737488351232 := by have := own1.1; have := HL.out; omega
  go_wp2_with (at_builtin; refine wpList_append_new rfl _ _ rfl w.heap.size _ _ _ _ rfl own1 _ 5 rfl wideL (by simp [bv, wideL]) rfl (by omega) b1.size ?_; intro a2 m2 c2 w2 own2 b2)
  go_ret
  exact ⟨a2, m2, c2, rfl, by simpa using own2, b1.trans b2⟩
theorem rd_lit {w : World} {g n : Nat} {bs : List Nat} (hn : n = bs.length) (hb : Bys bs) (hl : bs.length ≤ 1000) (h : ∀ i, i < bs.length → w.cell? ⟨g, i, none⟩ = some (.int .u8 ((bs.getD i 0 : Nat) : Int))) : Rd w (.slice (some ⟨g, 0, none⟩) n n) bs := by
  subst hn
  exact ⟨hb, _, _, rfl, Nat.le_refl _, by unfold maxLen; omega, by omega, .inr ⟨g, 0, rfl⟩, .inr ⟨g, 0, rfl, fun i hi => by rw [Nat.zero_add]; exact h i hi⟩⟩
theorem wide_bys : Bys wideL := by intro x hx; simp [wideL] at hx; omega
set_option maxRecDepth 100000 in
set_option maxHeartbeats 1000000 in
theorem kept3_any {g off n c : Nat} {a0 : Option Addr} {c0 : Nat} {L : List Nat} {w : World} (hw : Rd w (.slice (some ⟨g, off, none⟩) (n + 5) c) (L ++ wideL)) (hr : Rd w (.slice a0 n c0) L) :
    Calls Tryz.prog 64 #[.slice (some ⟨g, off, none⟩) (n + 5) c, .slice a0 n c0] w fun e w' => e = .returned (.bool true) ∧ Below w.heap.size w w' := by
  obtain ⟨hn, hle0, hc0, hl0⟩ := rd_lens hr
  obtain ⟨hn5, hle5, hc5, hl5⟩ := rd_lens hw
  have RU := hw.upto n (by omega)
  rw [show (L ++ wideL).take n = L by rw [hn]; simp] at RU
  have hcm : c ≤ 9223372036854775807 := hc5
  have H1 : Hid (∀ wx, Below w.heap.size w wx → Calls Tryz.prog 78 #[.slice (some ⟨g, off, none⟩) n c, .slice a0 n c0] wx fun e w' => e = .returned (.bool true) ∧ w' = wx) := by
    have h : ∀ wx, Below w.heap.size w wx → Calls Tryz.prog 78 #[.slice (some ⟨g, off, none⟩) n c, .slice a0 n c0] wx fun e w' => e = .returned (.bool true) ∧ w' = wx := fun wx hx =>
      (alike_any (RU.later hx) (hr.later hx)).mono fun e w' h => ⟨by rw [h.1]; simp, h.2⟩
    exact h
  have HW : Hid (Rd w (.slice (some ⟨g, off, none⟩) (n + 5) c) (L ++ wideL)) := hw
  have HN : Hid (n = L.length) := hn
  clear hw hr hn RU hn5
  go_enter Tryz.func64, Tryz.ntmps64
  go_wp2_with (go_at_call_of 78 (Value.slice (some ⟨g, off, none⟩) n c); refine Calls.mono (H1.out _ (Below.refl _ _)) ?_; rintro e1 w1 ⟨rfl, rfl⟩)
  have bm : Below w1.heap.size w1 (w1.alloc (.cells #[.int .u8 91, .int .u8 92, .int .u8 93, .int .u8 94, .int .u8 95] 5)) := (Below.refl _ _).alloc (Nat.le_refl _) _
  have RP := (HW.out.past n (by omega) (off' := off + n) (n' := 5) (cap' := c - n) rfl (by omega) rfl).later bm
  rw [show (L ++ wideL).drop n = wideL by rw [HN.out]; simp] at RP
  have RM : Rd (w1.alloc (.cells #[.int .u8 91, .int .u8 92, .int .u8 93, .int .u8 94, .int .u8 95] 5)) (.slice (some ⟨w1.heap.size, 0, none⟩) 5 5) wideL := by
    refine rd_lit rfl wide_bys (by decide) fun i hi => ?_
    have h5 : i < 5 := hi
    match i, h5 with
    | 0, _ => exact cell_at9 (heap_new9 _ _ rfl) rfl
    | 1, _ => exact cell_at9 (heap_new9 _ _ rfl) rfl
    | 2, _ => exact cell_at9 (heap_new9 _ _ rfl) rfl
    | 3, _ => exact cell_at9 (heap_new9 _ _ rfl) rfl
    | 4, _ => exact cell_at9 (heap_new9 _ _ rfl) rfl
  refine Calls.mono (alike_any RP RM) ?_
  rintro e2 w2 ⟨rfl, rfl⟩
  rw [show decide (wideL = wideL) = true by simp]
  go_wp2
  go_ret
  exact ⟨rfl, bm⟩
end Go.Proofs.YtganmnckdmkcbaaGreat

namespace Go.Proofs.YtganmnckdmkcbaaGreat
open Go.RowKit Go.Maps
set_option linter.unusedVariables false

def ShrtW (e : EntD) : Prop := e.row.length ≤ 140737488351232 ∧ e.qual.length ≤ 140737488351232 ∧ e.val.length ≤ 140737488351232
theorem ShrtW.sh {e : EntD} (h : ShrtW e) : Shrt e := ⟨by have := h.1; omega, by have := h.2.1; omega, by have := h.2.2; omega⟩
theorem rd_none (w : World) : Rd w (.slice none 0 0) [] := Own.rd (B := 0) ⟨rfl, World.ownsRow_nil w 0 5 1⟩ (fun x hx => by cases hx) (by simp)
def Tyd (w : World) (g : Nat) (ty : TypeId) : Prop := ∃ cur fr, w.heap[g]? = some (.cells cur ty fr)
theorem row_tyd {w : World} {B n s g : Nat} {e : TypeId} {v : Value} {xs : List Value} (h : w.ownsRow B e s v n xs) (hg : v.ownBlock = some g) : Tyd w g e := by
  rcases h.2 with ⟨rfl, _⟩ | ⟨g1, cap, cur, rfl, _, hh, _⟩
  · simp [Value.ownBlock] at hg
  · simp only [Value.ownBlock, Option.some.injEq] at hg
    subst hg
    exact ⟨cur, _, hh⟩
theorem Tyd.ne {w : World} {g g' : Nat} {e e' : TypeId} (h : Tyd w g e) (h' : Tyd w g' e') (hne : e ≠ e') : g ≠ g' := fun z => by
  subst z
  obtain ⟨c, f, h⟩ := h
  obtain ⟨c', f', h'⟩ := h'
  rw [h] at h'
  simp only [Option.some.injEq, Obj.cells.injEq] at h'
  exact hne h'.2.1
theorem Tyd.lt {w : World} {g : Nat} {e : TypeId} (h : Tyd w g e) : g < w.heap.size := by
  obtain ⟨c, f, h⟩ := h
  exact (Array.getElem?_eq_some_iff.1 h).1
structure Wd (w : World) (B : Nat) (v u : Value) (bs : List Nat) : Prop where
  form : ∃ g c, v = .slice (some ⟨g, 0, none⟩) bs.length c ∧ u = .slice (some ⟨g, 0, none⟩) (bs.length + 5) c
  own : Own w B u (bs.length + 5) (bs ++ wideL)
theorem Wd.keep {w w' : World} {B : Nat} {v u : Value} {bs : List Nat} (h : Wd w B v u bs) (k : ∀ g, u.ownBlock = some g → w'.heap[g]? = w.heap[g]?) : Wd w' B v u bs := ⟨h.form, own_same h.own k⟩
theorem Wd.rdu {w : World} {B : Nat} {v u : Value} {bs : List Nat} (h : Wd w B v u bs) (hb : Bys bs) (hl : bs.length ≤ 140737488351232) : Rd w u (bs ++ wideL) :=
  h.own.rd (fun x hx => (List.mem_append.1 hx).elim (hb x) (wide_bys x)) (by omega)
theorem Wd.rd {w : World} {B : Nat} {v u : Value} {bs : List Nat} (h : Wd w B v u bs) (hb : Bys bs) (hl : bs.length ≤ 140737488351232) : Rd w v bs := by
  have r := h.rdu hb hl
  obtain ⟨g, c, rfl, rfl⟩ := h.form
  have := r.upto bs.length (by omega)
  rwa [show (bs ++ wideL).take bs.length = bs by simp] at this
structure Re (w : World) (B : Nat) (x y : EntD) (u1 u2 u3 : Value) : Prop where
  dat : y.dat = x.dat
  r : Wd w B y.vr u1 x.row
  q : Wd w B y.vq u2 x.qual
  v : Wd w B y.vv u3 x.val
theorem Re.keep {w w' : World} {B : Nat} {x y : EntD} {u1 u2 u3 : Value} (h : Re w B x y u1 u2 u3) (k : ∀ g, Tyd w g 5 → w'.heap[g]? = w.heap[g]?) : Re w' B x y u1 u2 u3 :=
  ⟨h.dat, h.r.keep (fun g hg => k g (row_tyd h.r.own.2 hg)), h.q.keep (fun g hg => k g (row_tyd h.q.own.2 hg)), h.v.keep (fun g hg => k g (row_tyd h.v.own.2 hg))⟩
theorem Re.ok {w : World} {B : Nat} {x y : EntD} {u1 u2 u3 : Value} (h : Re w B x y u1 u2 u3) (hb : ByE x.dat) (hs : ShrtW x) : EntD.Ok w y := by
  obtain ⟨yr, yf, yq, yt, ys, yk, yv, yrow, yqual, yval⟩ := y
  have e1 : yrow = x.row := congrArg En.row h.dat
  have e2 : yqual = x.qual := congrArg En.qual h.dat
  have e3 : yval = x.val := congrArg En.val h.dat
  subst e1 e2 e3
  exact ⟨h.r.rd hb.1.1 hs.1, h.q.rd hb.1.2.1 hs.2.1, h.v.rd hb.1.2.2 hs.2.2⟩
theorem Re.one {w : World} {B : Nat} {x y : EntD} {u1 u2 u3 : Value} (h : Re w B x y u1 u2 u3) : ∀ u ∈ y.cells.toList, u.oneCell' = true := by
  obtain ⟨g1, c1, e1, _⟩ := h.r.form
  obtain ⟨g2, c2, e2, _⟩ := h.q.form
  obtain ⟨g3, c3, e3, _⟩ := h.v.form
  unfold EntD.cells
  rw [e1, e2, e3]
  intro u hu
  simp at hu
  rcases hu with rfl | rfl | rfl | rfl | rfl | rfl | rfl <;> rfl
def RBx (w : World) (g : Nat) (vL vW : Value) : Prop := w.heap[g]? = some (.cells #[vL, vW] 37 (0, 0))
theorem RBx.c0 {w : World} {g : Nat} {vL vW : Value} (h : RBx w g vL vW) : w.cell? ⟨g, 0, none⟩ = some vL := by unfold RBx at h; simp [World.cell?, h]
theorem RBx.c1 {w : World} {g : Nat} {vL vW : Value} (h : RBx w g vL vW) : w.cell? ⟨g, 1, none⟩ = some vW := by unfold RBx at h; simp [World.cell?, h]
theorem RBx.fz {w : World} {g : Nat} {vL vW : Value} (h : RBx w g vL vW) (i : Nat) : w.frozen? ⟨g, i, none⟩ = false := by unfold RBx at h; simp [World.frozen?, h]
theorem RBx.set0 {w : World} {g : Nat} {vL vW : Value} (h : RBx w g vL vW) (u : Value) : RBx (w.setCell ⟨g, 0, none⟩ u) g u vW := by
  unfold RBx at *
  simp [World.setCell, Array.getElem?_modify, h]
theorem RBx.set1 {w : World} {g : Nat} {vL vW : Value} (h : RBx w g vL vW) (u : Value) : RBx (w.setCell ⟨g, 1, none⟩ u) g vL u := by
  unfold RBx at *
  simp [World.setCell, Array.getElem?_modify, h]
theorem RBx.tyd {w : World} {g : Nat} {vL vW : Value} (h : RBx w g vL vW) : Tyd w g 37 := ⟨_, _, h⟩
def Apt (u v : Value) : Prop := ∀ g, u.ownBlock = some g → v.ownBlock ≠ some g
theorem ap3 {us : List Value} {u1 u2 u3 : Value} {s0 s1 s2 : Nat} (h : us.Pairwise Apt) (h0 : ∀ u ∈ us, ∀ g, u.ownBlock = some g → g < s0) (h1 : ∀ g, u1.ownBlock = some g → s0 ≤ g ∧ g < s1) (h2 : ∀ g, u2.ownBlock = some g → s1 ≤ g ∧ g < s2) (h3 : ∀ g, u3.ownBlock = some g → s2 ≤ g) (k1 : s0 ≤ s1) (k2 : s1 ≤ s2) : (us ++ [u1, u2, u3]).Pairwise Apt := by
  rw [List.pairwise_append]
  refine ⟨h, ?_, fun u hu v hv g e1 e2 => ?_⟩
  · refine List.Pairwise.cons (fun v hv g e1 e2 => ?_) (List.Pairwise.cons (fun v hv g e1 e2 => ?_) (List.pairwise_singleton _ _))
    · have a1 := h1 g e1
      simp only [List.mem_cons, List.not_mem_nil, or_false] at hv
      rcases hv with rfl | rfl
      · have := h2 g e2; omega
      · have := h3 g e2; omega
    · have a1 := h2 g e1
      simp only [List.mem_cons, List.not_mem_nil, or_false] at hv
      subst hv
      have := h3 g e2; omega
  · have a1 := h0 u hu g e1
    simp only [List.mem_cons, List.not_mem_nil, or_false] at hv
    rcases hv with rfl | rfl | rfl
    · have := h1 g e2; omega
    · have := h2 g e2; omega
    · have := h3 g e2; omega
structure Rm (B : Nat) (w : World) (g : Nat) (l : List EntD) (t : Nat) (ys : List EntD) (us : List Value) (vL vW : Value) : Prop where
  box : RBx w g vL vW
  gB : B ≤ g
  rL : w.ownsRow B 84 7 vL ys.length (evals ys)
  rW : w.ownsRow B 82 1 vW us.length us
  ul : us.length = 3 * t
  yl : t ≤ ys.length
  el : ∀ i, i < t → ∃ x y u1 u2 u3, l[i]? = some x ∧ ys[i]? = some y ∧ us[3 * i]? = some u1 ∧ us[3 * i + 1]? = some u2 ∧ us[3 * i + 2]? = some u3 ∧ Re w B x y u1 u2 u3
  ap : us.Pairwise Apt
theorem Rm.later {B : Nat} {w w' : World} {g t : Nat} {l ys : List EntD} {us : List Value} {vL vW : Value} (h : Rm B w g l t ys us vL vW) (k : ∀ i, i < w.heap.size → w'.heap[i]? = w.heap[i]?) : Rm B w' g l t ys us vL vW :=
  ⟨(k g h.box.tyd.lt).trans h.box, h.gB, row_same h.rL (fun g hg => k g (h.rL.lt g hg).2), row_same h.rW (fun g hg => k g (h.rW.lt g hg).2), h.ul, h.yl, fun i hi => by
    obtain ⟨x, y, u1, u2, u3, a1, a2, a3, a4, a5, a6⟩ := h.el i hi
    exact ⟨x, y, u1, u2, u3, a1, a2, a3, a4, a5, a6.keep (fun g hg => k g hg.lt)⟩, h.ap⟩
theorem Rm.ulow {B : Nat} {w : World} {g t : Nat} {l ys : List EntD} {us : List Value} {vL vW : Value} (h : Rm B w g l t ys us vL vW) : ∀ u ∈ us, ∀ g, u.ownBlock = some g → g < w.heap.size := by
  intro u hu g hg
  obtain ⟨j, hj⟩ := List.getElem?_of_mem hu
  have hjl : j < us.length := (List.getElem?_eq_some_iff.1 hj).1
  have hl := h.ul
  obtain ⟨x, y, u1, u2, u3, a1, _, a3, a4, a5, a6⟩ := h.el (j / 3) (by omega)
  have m3 := Nat.mod_lt j (show 0 < 3 by decide)
  match hm : j % 3, m3 with
  | 0, _ =>
    rw [show 3 * (j / 3) = j by omega, hj] at a3
    cases a3
    exact (a6.r.own.2.lt g hg).2
  | 1, _ =>
    rw [show 3 * (j / 3) + 1 = j by omega, hj] at a4
    cases a4
    exact (a6.q.own.2.lt g hg).2
  | 2, _ =>
    rw [show 3 * (j / 3) + 2 = j by omega, hj] at a5
    cases a5
    exact (a6.v.own.2.lt g hg).2
theorem Rm.boxW {B : Nat} {w w1 : World} {g t : Nat} {l ys : List EntD} {us : List Value} {vL vW : Value} (h : Rm B w g l t ys us vL vW) (hg : w.grownBy w1 vW.ownBlock) : RBx w1 g vL vW :=
  (hg.block g h.box.tyd.lt (fun z => (row_tyd h.rW z.symm).ne h.box.tyd (by decide) rfl)).trans h.box
theorem Rm.putW {B : Nat} {w w1 : World} {g t : Nat} {l ys : List EntD} {us : List Value} {vL vW vW' u1 u2 u3 : Value} (h : Rm B w g l t ys us vL vW) (hg : w.grownBy w1 vW.ownBlock) (hr : w1.ownsRow B 82 1 vW' (us.length + 3) (us ++ [u1, u2, u3])) :
    RBx (w1.setCell ⟨g, 1, none⟩ vW') g vL vW' ∧ (w1.setCell ⟨g, 1, none⟩ vW').ownsRow B 84 7 vL ys.length (evals ys) ∧ (w1.setCell ⟨g, 1, none⟩ vW').ownsRow B 82 1 vW' (us.length + 3) (us ++ [u1, u2, u3]) ∧ (∀ i, Tyd w i 5 → (w1.setCell ⟨g, 1, none⟩ vW').heap[i]? = w.heap[i]?) ∧ (∀ i, i < w.heap.size → i < B → (w1.setCell ⟨g, 1, none⟩ vW').heap[i]? = w.heap[i]?) := by
  have bx1 : RBx w1 g vL vW := (hg.block g h.box.tyd.lt (fun z => (row_tyd h.rW z.symm).ne h.box.tyd (by decide) rfl)).trans h.box
  have k : ∀ (i : Nat) (ty : TypeId), Tyd w i ty → ty ≠ 82 → ty ≠ 37 → (w1.setCell ⟨g, 1, none⟩ vW').heap[i]? = w.heap[i]? := fun i ty hi n1 n2 => by
    rw [Below.heap_setCell _ _ _ _ (fun z => hi.ne h.box.tyd n2 z)]
    exact hg.block i hi.lt (fun z => hi.ne (row_tyd h.rW z.symm) n1 rfl)
  refine ⟨bx1.set1 _, row_same h.rL (fun i hi => k i _ (row_tyd h.rL hi) (by decide) (by decide)), row_same hr (fun i hi => Below.heap_setCell _ _ _ _ (fun z => (row_tyd hr hi).ne bx1.tyd (by decide) z)), fun i hi => k i _ hi (by decide) (by decide), fun i hi hB => ?_⟩
  rw [Below.heap_setCell _ _ _ _ (fun z => by have := h.gB; have : i = g := z; omega)]
  exact hg.block i hi (fun z => by have := (h.rW.lt i z.symm).1; omega)
theorem Rm.putL {B : Nat} {w w1 : World} {g t : Nat} {l ys : List EntD} {us : List Value} {vL vW vL' u1 u2 u3 : Value} {x y : EntD} (hb : RBx w g vL vW) (gB : B ≤ g) (hL : w.ownsRow B 84 7 vL ys.length (evals ys)) (hW : w.ownsRow B 82 1 vW (us.length + 3) (us ++ [u1, u2, u3])) (ul : us.length = 3 * t) (yl : ys.length = t) (el : ∀ i, i < t → ∃ x y u1 u2 u3, l[i]? = some x ∧ ys[i]? = some y ∧ us[3 * i]? = some u1 ∧ us[3 * i + 1]? = some u2 ∧ us[3 * i + 2]? = some u3 ∧ Re w B x y u1 u2 u3)
    (hap : (us ++ [u1, u2, u3]).Pairwise Apt) (hx : l[t]? = some x) (hre : Re w B x y u1 u2 u3) (hg : w.grownBy w1 vL.ownBlock) (hr : w1.ownsRow B 84 7 vL' (ys ++ [y]).length (evals (ys ++ [y]))) :
    Rm B (w1.setCell ⟨g, 0, none⟩ vL') g l (t + 1) (ys ++ [y]) (us ++ [u1, u2, u3]) vL' vW ∧ (∀ i, i < w.heap.size → i < B → (w1.setCell ⟨g, 0, none⟩ vL').heap[i]? = w.heap[i]?) := by
  have bx1 : RBx w1 g vL vW := (hg.block g hb.tyd.lt (fun z => (row_tyd hL z.symm).ne hb.tyd (by decide) rfl)).trans hb
  have k : ∀ (i : Nat) (ty : TypeId), Tyd w i ty → ty ≠ 84 → ty ≠ 37 → (w1.setCell ⟨g, 0, none⟩ vL').heap[i]? = w.heap[i]? := fun i ty hi n1 n2 => by
    rw [Below.heap_setCell _ _ _ _ (fun z => hi.ne hb.tyd n2 z)]
    exact hg.block i hi.lt (fun z => hi.ne (row_tyd hL z.symm) n1 rfl)
  have kb : ∀ i, Tyd w i 5 → (w1.setCell ⟨g, 0, none⟩ vL').heap[i]? = w.heap[i]? := fun i hi => k i _ hi (by decide) (by decide)
  refine ⟨⟨bx1.set0 _, gB, row_same hr (fun i hi => Below.heap_setCell _ _ _ _ (fun z => (row_tyd hr hi).ne bx1.tyd (by decide) z)), ?_, by simp; omega, by simp; omega, fun i hi => ?_, hap⟩, fun i hi hB => ?_⟩
  · have := row_same hW (fun i hi => k i _ (row_tyd hW hi) (by decide) (by decide))
    simpa using this
  · by_cases hit : i < t
    · obtain ⟨x', y', v1, v2, v3, a1, a2, a3, a4, a5, a6⟩ := el i hit
      exact ⟨x', y', v1, v2, v3, a1, by rw [List.getElem?_append_left (by omega)]; exact a2, by rw [List.getElem?_append_left (by omega)]; exact a3, by rw [List.getElem?_append_left (by omega)]; exact a4, by rw [List.getElem?_append_left (by omega)]; exact a5, a6.keep kb⟩
    · obtain rfl : i = t := by omega
      exact ⟨x, y, u1, u2, u3, hx, by rw [List.getElem?_append_right (by omega), yl]; simp, by rw [List.getElem?_append_right (by omega), ul]; simp, by rw [List.getElem?_append_right (by omega), ul, show 3 * i + 1 - 3 * i = 1 by omega]; simp, by rw [List.getElem?_append_right (by omega), ul, show 3 * i + 2 - 3 * i = 2 by omega]; simp, hre.keep kb⟩
  · rw [Below.heap_setCell _ _ _ _ (fun z => by have : i = g := z; omega)]
    exact hg.block i hi (fun z => by have := (hL.lt i z.symm).1; omega)
theorem Rm.putE {B : Nat} {w w1 : World} {g t : Nat} {l ys : List EntD} {us : List Value} {vL vW vL' : Value} {y : EntD} (h : Rm B w g l t ys us vL vW) (hg : w.grownBy w1 vL.ownBlock) (hr : w1.ownsRow B 84 7 vL' (ys ++ [y]).length (evals (ys ++ [y]))) :
    Rm B (w1.setCell ⟨g, 0, none⟩ vL') g l t (ys ++ [y]) us vL' vW ∧ (∀ i, i < w.heap.size → i < B → (w1.setCell ⟨g, 0, none⟩ vL').heap[i]? = w.heap[i]?) := by
  have hb := h.box
  have hL := h.rL
  have hW := h.rW
  have bx1 : RBx w1 g vL vW := (hg.block g hb.tyd.lt (fun z => (row_tyd hL z.symm).ne hb.tyd (by decide) rfl)).trans hb
  have k : ∀ (i : Nat) (ty : TypeId), Tyd w i ty → ty ≠ 84 → ty ≠ 37 → (w1.setCell ⟨g, 0, none⟩ vL').heap[i]? = w.heap[i]? := fun i ty hi n1 n2 => by
    rw [Below.heap_setCell _ _ _ _ (fun z => hi.ne hb.tyd n2 z)]
    exact hg.block i hi.lt (fun z => hi.ne (row_tyd hL z.symm) n1 rfl)
  refine ⟨⟨bx1.set0 _, h.gB, row_same hr (fun i hi => Below.heap_setCell _ _ _ _ (fun z => (row_tyd hr hi).ne bx1.tyd (by decide) z)), row_same hW (fun i hi => k i _ (row_tyd hW hi) (by decide) (by decide)), h.ul, by have := h.yl; simp; omega, fun i hi => ?_, h.ap⟩, fun i hi hB => ?_⟩
  · obtain ⟨x', y', v1, v2, v3, a1, a2, a3, a4, a5, a6⟩ := h.el i hi
    exact ⟨x', y', v1, v2, v3, a1, by rw [List.getElem?_append_left (by have := h.yl; omega)]; exact a2, a3, a4, a5, a6.keep (fun g hg => k g _ hg (by decide) (by decide))⟩
  · rw [Below.heap_setCell _ _ _ _ (fun z => by have := h.gB; have : i = g := z; omega)]
    exact hg.block i hi (fun z => by have := (hL.lt i z.symm).1; omega)
end Go.Proofs.YtganmnckdmkcbaaGreat

namespace Go.Proofs.YtganmnckdmkcbaaGreat
open Go.RowKit Go.Maps
set_option linter.unusedVariables false

theorem put_ne {A : Act} {d x : Nat} {v u : Value} (h : x ≠ d) (k : A.tmps[x]?.getD undef = u) : (A.put (some d) v).tmps[x]?.getD undef = u := by
  show (A.tmps.setIfInBounds d v)[x]?.getD undef = u
  rw [Array.getElem?_setIfInBounds_ne (fun z => h z.symm)]
  exact k
theorem put_eq {A : Act} {d n : Nat} {v : Value} (hs : A.tmps.size = n) (h : d < n) : (A.put (some d) v).tmps[d]?.getD undef = v := by
  show (A.tmps.setIfInBounds d v)[d]?.getD undef = v
  rw [Array.getElem?_setIfInBounds_self_of_lt (by omega)]
  rfl
theorem put_sz {A : Act} {d n : Nat} {v : Value} (hs : A.tmps.size = n) : (A.put (some d) v).tmps.size = n := by
  show (A.tmps.setIfInBounds d v).size = n
  rw [Array.size_setIfInBounds]
  exact hs
theorem ev_tmp {A : Act} {x : Nat} {v : Value} (h : A.tmps[x]?.getD undef = v) : A.eval (.tmp x) = v := by simpa [Act.eval] using h
theorem anyE_gen {P : Program} {md : Region.Mode} {ops : Array Oper} {Q : Exit → Act → World → Prop} {S : World → Prop} {E : Nat → Bool} {n : Nat} {l : Array Bool} {a : Act} {w : World} (h : ∀ A0 : Act, A0 = a → AnyE P md ops Q S E n l A0 w) : AnyE P md ops Q S E n l a w := h a rfl
set_option maxRecDepth 100000 in
theorem op_move {a : Act} {w : World} {x : Nat} {v : Value} {d : Option Nat} {ty : TypeId} {ps : String} {af : Array Edge} (hx : a.tmps[x]?.getD undef = v) :
    (execOp a.eval { dst := d, op := Op.move (Operand.tmp x), type := ty, pos := ps, after := af, guard := none }).run Tryz.prog w = .ok (.value v) w := by
  go_simp
set_option maxRecDepth 100000 in
theorem op_nil {a : Act} {w : World} {x g : Nat} {d : Option Nat} {ps : String} {af : Array Edge} (hx : a.tmps[x]?.getD undef = .pointer (some ⟨g, 0, none⟩)) :
    (execOp a.eval { dst := d, op := Op.nilCheck (Operand.tmp x), type := 0, pos := ps, after := af, guard := none }).run Tryz.prog w = .ok (.value (.pointer (some ⟨g, 0, none⟩))) w := by
  go_simp
set_option maxRecDepth 100000 in
theorem op_field0 {a : Act} {w : World} {x g : Nat} {d : Option Nat} {ps : String} {af : Array Edge} (hx : a.tmps[x]?.getD undef = .pointer (some ⟨g, 0, none⟩)) :
    (execOp a.eval { dst := d, op := Op.fieldAddr 37 (Operand.tmp x) 0, type := 0, pos := ps, after := af, guard := none }).run Tryz.prog w = .ok (.value (.pointer (some ⟨g, 0, none⟩))) w := by
  go_simp
set_option maxRecDepth 100000 in
theorem op_loadL {a : Act} {w : World} {x g n c : Nat} {ad : Option Addr} {d : Option Nat} {ps : String} {af : Array Edge} (hx : a.tmps[x]?.getD undef = .pointer (some ⟨g, 0, none⟩)) (h : w.cell? ⟨g, 0, none⟩ = some (.slice ad n c)) :
    (execOp a.eval { dst := d, op := Op.load 28 (Operand.tmp x), type := 28, pos := ps, after := af, guard := none }).run Tryz.prog w = .ok (.value (.slice ad n c)) w := by
  go_simp
set_option maxRecDepth 100000 in
theorem op_loadE {a : Act} {w : World} {x g : Nat} {v0 v1 v2 v3 v4 v5 v6 : Value} {d : Option Nat} {ps : String} {af : Array Edge} (hx : a.tmps[x]?.getD undef = .pointer (some ⟨g, 0, none⟩)) (h0 : w.cell? ⟨g, 0, none⟩ = some v0) (h1 : w.cell? ⟨g, 1, none⟩ = some v1) (h2 : w.cell? ⟨g, 2, none⟩ = some v2) (h3 : w.cell? ⟨g, 3, none⟩ = some v3) (h4 : w.cell? ⟨g, 4, none⟩ = some v4) (h5 : w.cell? ⟨g, 5, none⟩ = some v5) (h6 : w.cell? ⟨g, 6, none⟩ = some v6) :
    (execOp a.eval { dst := d, op := Op.load 84 (Operand.tmp x), type := 84, pos := ps, after := af, guard := none }).run Tryz.prog w = .ok (.value (.agg #[v0, v1, v2, v3, v4, v5, v6])) w := by
  go_simp
set_option maxRecDepth 100000 in
theorem wp_buildE {a : Act} {w : World} {K : Act → World → Prop} {Q : Exit → Act → World → Prop} {p : Nat} {v0 v1 v2 v3 v4 v5 v6 : Value} {d : Option Nat} {ps : String} {af : Array Edge} (hp : a.tmps[p]?.getD undef = .agg #[v0, v1, v2, v3, v4, v5, v6]) (hk : K (a.put d (.slice (some ⟨w.heap.size, 0, none⟩) 1 1)) (w.alloc (.cells #[v0, v1, v2, v3, v4, v5, v6] 84))) :
    Oper.wp Tryz.prog { dst := d, op := Op.buildSlice 28 1 #[(0, Operand.tmp p)], type := 28, pos := ps, after := af, guard := none } a w K Q := by
  go_simp
  exact hk
set_option maxRecDepth 100000 in
theorem wp_nil0 {a : Act} {w : World} {K : Act → World → Prop} {Q : Exit → Act → World → Prop} {x g : Nat} {d : Option Nat} {ps : String} {af : Array Edge} (hx : a.tmps[x]?.getD undef = .pointer (some ⟨g, 0, none⟩)) (hk : K (a.put d (.pointer (some ⟨g, 0, none⟩))) w) :
    Oper.wp Tryz.prog { dst := d, op := Op.nilCheck (Operand.tmp x), type := 0, pos := ps, after := af, guard := none } a w K Q := by
  go_simp
  exact hk
set_option maxRecDepth 100000 in
theorem wp_field0 {a : Act} {w : World} {K : Act → World → Prop} {Q : Exit → Act → World → Prop} {x g : Nat} {d : Option Nat} {ps : String} {af : Array Edge} (hx : a.tmps[x]?.getD undef = .pointer (some ⟨g, 0, none⟩)) (hk : K (a.put d (.pointer (some ⟨g, 0, none⟩))) w) :
    Oper.wp Tryz.prog { dst := d, op := Op.fieldAddr 37 (Operand.tmp x) 0, type := 0, pos := ps, after := af, guard := none } a w K Q := by
  go_simp
  exact hk
set_option maxRecDepth 100000 in
theorem wp_storeL {a : Act} {w : World} {K : Act → World → Prop} {Q : Exit → Act → World → Prop} {p q g n c : Nat} {a' : Option Addr} {y : Value} {ps : String} {af : Array Edge} (hc : w.cell? ⟨g, 0, none⟩ = some y) (hf : w.frozen? ⟨g, 0, none⟩ = false) (hp : a.tmps[p]?.getD undef = .pointer (some ⟨g, 0, none⟩)) (hq : a.tmps[q]?.getD undef = .slice a' n c) (hk : K a (w.setCell ⟨g, 0, none⟩ (.slice a' n c))) :
    Oper.wp Tryz.prog { dst := none, op := Op.store 28 (Operand.tmp p) (Operand.tmp q), type := 0, pos := ps, after := af, guard := none } a w K Q := by
  go_simp
  exact hk
theorem row_formW {w : World} {B n : Nat} {e : TypeId} {v : Value} {xs : List Value} (h : w.ownsRow B e 1 v n xs) : ∃ a c, v = .slice a n c := by
  rcases h.2 with ⟨rfl, h2⟩ | ⟨g, cap, cur, rfl, _⟩
  · exact ⟨none, 0, by rw [h2]⟩
  · exact ⟨_, _, rfl⟩
set_option maxRecDepth 100000 in
theorem wpl_append_w3 {w : World} {ops : Array Oper} {rest : List Oper} {o : Oper} {a : Act} {Q : Exit → Act → World → Prop} (hgd : o.guard = none) (s x : Operand)
    (ho : o.op = .call { callee := .builtin .append, args := #[s, x], argTypes := #[35, 35] })
    (B : Nat) (v : Value) (us : List Value) (hs : a.eval s = v) (hown : w.ownsRow B 82 1 v us.length us)
    (u1 u2 u3 : Value) (h1 : u1.oneCell' = true) (h2 : u2.oneCell' = true) (h3 : u3.oneCell' = true) (hx : a.eval x = .slice (some ⟨w.heap.size, 0, none⟩) 3 3) (hm : us.length + 3 ≤ 5864062014805) (hB : B ≤ w.heap.size)
    (h : ∀ a' c' w', w'.ownsRow B 82 1 (.slice a' (us.length + 3) c') (us.length + 3) (us ++ [u1, u2, u3]) → w.grownBy w' v.ownBlock → wpList Tryz.prog ops Q rest (a.put o.dst (.slice a' (us.length + 3) c')) w') : wpList Tryz.prog ops Q (o :: rest) a (w.alloc (.cells #[u1, u2, u3] 82)) := by
  obtain ⟨i0, hi, hz0, hz1, hz2⟩ := info_parts (show (Tryz.prog.info? 82).map (fun i => (i.zero, i.size, i.bytes)) = some (some (.slice none 0 0), 1, 24) by kernel_rfl)
  refine wpList_append_own_at _ hgd s x 35 ho B 82 i0 (.slice none 0 0) 1 24 (by kernel_rfl) hi hz0 hz1 hz2 rfl (by decide) v us.length us hs (hown.alloc _) ⟨w.heap.size, 0, none⟩ 3 3 [u1, u2, u3] hx rfl (fun j u hj => ?_) (fun u hu => ?_) (by unfold maxLen; omega) (by omega) (by rw [World.size_alloc]; omega) ?_
  · have hn := heap_new w (.cells #[u1, u2, u3] 82)
    have e3 : ((⟨w.heap.size, 0, none⟩ : Addr).add j) = ⟨w.heap.size, j, none⟩ := by
      unfold Addr.add
      by_cases hj : j = 0 <;> simp [hj]
    rw [e3]
    have e2 : (w.alloc (.cells #[u1, u2, u3] 82)).heap[w.heap.size]? = some (.cells #[u1, u2, u3] 82 (0, 0)) := hn
    simp only [World.cell?, e2]
    simpa using hj
  · simp only [List.mem_cons, List.not_mem_nil, or_false] at hu
    rcases hu with rfl | rfl | rfl
    · exact h1
    · exact h2
    · exact h3
  · intro v' w' k1 k2 k3 k4
    obtain ⟨a', c', rfl⟩ := row_formW k1
    exact h a' c' w' k1 ((World.grownBy_alloc w _ _).trans k2)
theorem wide_form {w : World} {B m c : Nat} {a : Option Addr} {bs : List Nat} (h : Own w B (.slice a m c) m (bs ++ wideL)) : ∃ g, a = some ⟨g, 0, none⟩ ∧ m = bs.length + 5 ∧ bs.length + 5 ≤ c := by
  have hm : m = bs.length + 5 := by rw [h.1]; simp [wideL]
  rcases h.2.2 with ⟨h1, h2⟩ | ⟨g, cap, cur, h3, h4, h5, h6, _⟩
  · omega
  · simp only [Value.slice.injEq] at h3
    exact ⟨g, h3.1, hm, by omega⟩
def endE : EntD := ⟨.slice none 0 0, -9, .slice none 0 0, 0, 0, 0, .slice none 0 0, [], [], []⟩
theorem below_of_heap {w w1 w2 : World} {B : Nat} (h : Below B w w1) (hB : B ≤ w1.heap.size) (os : w2.os = w1.os) (tp : w2.tape = w1.tape) (ou : w2.output = w1.output) (sz : w1.heap.size ≤ w2.heap.size) (k : ∀ i, i < w1.heap.size → i < B → w2.heap[i]? = w1.heap[i]?) : Below B w w2 := by
  exact ⟨os.trans h.os, tp.trans h.tape, ou.trans h.output, Nat.le_trans h.size sz, fun i hi => (k i (by omega) hi).trans (h.block i hi)⟩
end Go.Proofs.YtganmnckdmkcbaaGreat
