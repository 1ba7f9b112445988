import Derived.Test.YtlkhphhmhffdjaaK24
set_option linter.unusedSimpArgs false
set_option linter.unusedVariables false
namespace Go.Proofs.Ytlkhphhmhffdjaa
open Go.RowKit Go.MapKept Go.Sort
variable {w w' W X : World} {O O' U U' : Nat → Prop} {wB i : Nat} {z : Int} {qs : List Pr4} {o : OpD} {p : Pr4}
theorem laid_rd {n gl kl : Nat} {ws : List LF} {B : Nat} (hn : n = ws.length) (hk : n + 1 ≤ kl) (hm : kl ≤ maxLen) (row : w.ownsRow B 60 3 (.slice (some ⟨gl, 0, none⟩) (n + 1) kl) (n + 1) (gCells (ws.map gV) ++ [.string { data := #[109, 97, 114, 107] }, .slice none 0 0, .int .i64 0])) (own : ∀ x ∈ ws, Own w B (vW x) (x.1.2.1.length + 5) (x.1.2.1 ++ mk5)) (hb : ∀ x ∈ ws, Bys x.1.2.1 ∧ x.1.2.1.length ≤ 1048576) :
  RdG4 w (some ⟨gl, 0, none⟩) kl (ws.map gV) := by
 have hl : (gCells (ws.map gV)).length = n * 3 := by rw [gCells_len, List.length_map, hn]
 refine ⟨⟨by rw [List.length_map]; omega, hm⟩, fun i x hx => ?_, fun x hx => ?_⟩
 ·have hi := (List.getElem?_eq_some_iff.1 hx).1
  rw [List.length_map] at hi
  obtain ⟨h0, h1, h2⟩ := gCells_at _ i x hx
  have at_ : ∀ (j : Nat) (u : Value), (gCells (ws.map gV))[j]? = some u → w.cell? ⟨gl, j, none⟩ = some u := fun j u hu => by
   have hj := (List.getElem?_eq_some_iff.1 hu).1
   have := row.cellAt j (by omega)
   rw [List.getElem?_append_left hj, hu] at this
   exact this
  exact ⟨gl, 0, rfl, by rw [Nat.zero_add]; exact at_ _ _ h0, by rw [Nat.zero_add]; exact at_ _ _ h1, by rw [Nat.zero_add]; exact at_ _ _ h2⟩
 ·obtain ⟨y, hy, rfl⟩ := List.mem_map.1 hx
  refine ⟨some ⟨y.2.1, 0, none⟩, y.2.2, rfl, ?_⟩
  have hr : Rd w (vW y) (y.1.2.1 ++ mk5) := (own y hy).rd (bys_app4 (hb y hy).1 (by intro x hx; simp [mk5] at hx; omega)) (by have := (hb y hy).2; omega)
  unfold vW at hr
  have := hr.pre4 (m := y.1.2.1.length) (by omega)
  rw [List.take_left] at this
  exact this
theorem laid_mark {n gl kl : Nat} {ws : List LF} {B : Nat} (hn : n = ws.length) (row : w.ownsRow B 60 3 (.slice (some ⟨gl, 0, none⟩) (n + 1) kl) (n + 1) (gCells (ws.map gV) ++ [.string { data := #[109, 97, 114, 107] }, .slice none 0 0, .int .i64 0])) : w.cell? ⟨gl, n * 3, none⟩ = some (.string { data := #[109, 97, 114, 107] }) := by
 have hl : (gCells (ws.map gV)).length = n * 3 := by rw [gCells_len, List.length_map, hn]
 rw [row.cellAt (n * 3) (by omega), List.getElem?_append_right (by omega), hl]
 simp
structure WSt (B : Nat) (wr : World) (U : Nat → Prop) (aw : Option Addr) (n kw : Nat) (ws : List LF) (t : Nat) : Prop where
 rw_ : RowS wr B (.slice aw n kw) n (ws.map vW)
 rU : ∀ g, (Value.slice aw n kw).ownBlock = some g → ¬ U g
 dat : ∀ j x, t ≤ j → ws[j]? = some x → Own wr B (vW x) (x.1.2.1.length + 5) (x.1.2.1 ++ mk5) ∧ ¬ U x.2.1
variable {B n kw t : Nat} {aw : Option Addr} {ws : List LF} {wr w2 : World}
theorem WSt.far (h : WSt B wr U aw n kw ws t) (g : Go4 wr w2 O O') (hr : ∀ q, (Value.slice aw n kw).ownBlock = some q → ¬ O q) (hd : ∀ j x, t ≤ j → ws[j]? = some x → ¬ O x.2.1) (hU : ∀ q, U' q → U q ∨ O' q) : WSt B w2 U' aw n kw ws t := by
 have dl : ∀ j x, t ≤ j → ws[j]? = some x → x.2.1 < wr.heap.size := fun j x hj hx => row_lt (h.dat j x hj hx).1.2 rfl
 refine ⟨h.rw_.keep4 (fun q e => g.block q (row_lt h.rw_.2.2 e) (hr q e)), fun q e hq => ?_, fun j x hj hx => ⟨(h.dat j x hj hx).1.keep4 (fun q e => ?_), fun hq => ?_⟩⟩
 ·rcases hU q hq with z | z
  ·exact h.rU q e z
  ·exact (g.new q z).elim (hr q e) (fun y => by have := row_lt h.rw_.2.2 e; omega)
 ·simp only [vW, Value.ownBlock, Option.some.injEq] at e
  subst e
  exact g.block _ (dl j x hj hx) (hd j x hj hx)
 ·rcases hU _ hq with z | z
  ·exact (h.dat j x hj hx).2 z
  ·exact (g.new _ z).elim (hd j x hj hx) (fun y => by have := dl j x hj hx; omega)
theorem WSt.next (h : WSt B wr U aw n kw ws t) : WSt B wr U aw n kw ws (t + 1) := ⟨h.rw_, h.rU, fun j x hj => h.dat j x (by omega)⟩
theorem WSt.ne (h : WSt B wr U aw n kw ws t) {j : Nat} {x : LF} (hj : t ≤ j) (hx : ws[j]? = some x) : (Value.slice aw n kw).ownBlock ≠ some x.2.1 := fun e => rows_ne (h.dat j x hj hx).1.2 h.rw_.2.2 (by decide) _ rfl e
set_option maxRecDepth 100000 in
set_option maxHeartbeats 4000000 in
theorem makes_load {ii : Int} (hk : o.kind = 18) (h : Ws w wB U z qs) (hl : Lks qs) (ho : RdOp w U o) (h4 : qs.length ≤ 4) (hz : z + 1000000000000 ≤ 4611686018427387904) : Calls Try.prog 7 #[.pointer (some ⟨wB, 0, none⟩), o.val, .int .i64 ii] w (MakesP w wB U z qs) := by
 have hqq := load_lk o.num (o.fs.map (·.1))
 have hdn := load_down o.num (o.fs.map (·.1))
 have hq : ∃ q, q = loadD o.num (o.fs.map (·.1)) := ⟨_, rfl⟩
 obtain ⟨q, hq⟩ := hq
 have hqr : ∃ q, q = loadR o.num (o.fs.map (·.1)) := ⟨_, rfl⟩
 obtain ⟨qr, hqr⟩ := hqr
 rw [← hq, ← hqr] at hqq
 rw [← hq] at hdn
 have HQ := Lib.hid (And.intro hq hqr)
 clear hq hqr
 obtain ⟨ee, d1⟩ := q
 obtain ⟨ee2, r1⟩ := qr
 obtain ⟨hee, lk1⟩ := hqq
 simp only at hee lk1 hdn
 subst hee
 have LK := Lib.hid (And.intro lk1 hdn)
 have HZ := Lib.hid hz
 clear lk1 hdn hz
 have hnf := ho.nf
 have hnfb : o.nF ≤ 300000 := by have := ho.lf; omega
 have HNF := Lib.hid hnf
 clear hnf
 have nb : ¬ U w.heap.size := fun q => Nat.lt_irrefl _ (h.lt _ q)
 have NB := Lib.hid nb
 clear nb
 have HK := Lib.hid hk
 have HW := Lib.hid h
 have HLK := Lib.hid hl
 have HO := Lib.hid ho
 have hr0 := h.rows
 obtain ⟨aD, cD, aR, cR, hr0⟩ := hr0
 have HROW := Lib.hid hr0
 have hqn : ∃ qn, qn = qs.length := ⟨_, rfl⟩
 obtain ⟨qn, hqn⟩ := hqn
 rw [← hqn] at h4 HROW
 have HQN := Lib.hid hqn
 clear h hl ho hk hr0 hqn
 unfold OpD.val
 go_enter Try.func7, Try.ntmps7
 go_upto_region 1 with fail
 have hX : ∃ X, X = w.alloc (.cells #[.int .i64 o.kind, .int .i64 o.obj, .string o.nm, .string o.nt, .slice o.aB o.nB o.kB, .int .i64 o.pos, .int .i64 o.num, .slice o.aC o.nC o.kC, .slice o.aF o.nF o.kF] 30) := ⟨_, rfl⟩
 obtain ⟨X, hX⟩ := hX
 have bx : OBox X w.heap.size o := by rw [hX]; exact heap_new _ _
 have bA : Below w.heap.size w X := by rw [hX]; exact (Below.refl _ _).alloc (Nat.le_refl _) _
 rw [← hX]
 clear hX
 have hbo : ∃ bo, bo = w.heap.size := ⟨_, rfl⟩
 obtain ⟨bo, hbo⟩ := hbo
 rw [← hbo] at bx ⊢
 rw [← hbo] at NB
 have HX := Lib.hid (And.intro bx (And.intro bA hbo))
 have W1 := Lib.hid (HW.out.later bA)
 have c0 := bx.cells.1
 rw [HK.out] at c0
 have d0 := (bA.cell (World.block_lt_of_cell? _ _ HROW.out.1)).trans HROW.out.1
 have jq : (qn : Int) ≤ 4 := by omega
 clear bx bA hbo
 go_upto_region 19 with fail
 clear c0 d0
 have q8 := HX.out.1.cells.2.2.2.2.2.2.2.2
 have HOX := Lib.hid (HO.out.go (Go4.of_below (O := U) HX.out.2.1))
 go_wp2_with fail
 refine (laid_any HOX.out.f.rd HNF.out HO.out.lf HO.out.ld).mono ?_
 rintro e1 Z1 ⟨gl, kl, aw, kw, ws, he1, hws, hwn, hkl, hkm, row, rww, own, apt, b1⟩
 subst he1
 have hbw : ∀ x ∈ ws, Bys x.1.2.1 ∧ x.1.2.1.length ≤ 1048576 := fun x hx => by
  have hm : x.1 ∈ o.fs.map (·.1) := by rw [← hws]; exact List.mem_map_of_mem hx
  obtain ⟨y, hy, e⟩ := List.mem_map.1 hm
  obtain ⟨ap, cp, _, hr⟩ := HOX.out.f.rd.dat y hy
  rw [← e]
  exact ⟨hr.1, HO.out.ld y hy⟩
 have RG := Lib.hid (laid_rd hwn hkl hkm row own hbw)
 have CM := Lib.hid (laid_mark hwn row)
 have LW := Lib.hid (And.intro hws (And.intro hwn (And.intro rww (And.intro own (And.intro apt hbw)))))
 have hlgl := row_lt row rfl
 have jk : (o.nF : Int) + 1 ≤ (kl : Int) := by omega
 have B1 := Lib.hid b1
 have HB1 := Lib.hid (HX.out.1.later b1)
 have W2 := Lib.hid (W1.out.later b1)
 have KL := Lib.hid (And.intro hkl hkm)
 have hgsz := b1.size
 have HOZ := Lib.hid (HOX.out.go (Go4.of_below (O := U) b1))
 clear hws hwn hkl hkm row rww own apt b1 hbw q8 hgsz
 have q6 := HB1.out.cells.2.2.2.2.2.2.1
 have hld := load_any (n := o.num) (m := o.nF) RG.out (by rw [List.length_map]; exact LW.out.2.1)
 have ews : (ws.map gV).map (·.1) = o.fs.map (·.1) := by rw [← LW.out.1, List.map_map]; rfl
 rw [ews, ← HQ.out.1] at hld
 have HLD := Lib.hid hld
 have EWS := Lib.hid ews
 clear hld ews
 go_wp2_with fail
 refine HLD.out.mono ?_
 intro e2 Z2 hld
 unfold LoadP at hld
 obtain ⟨pd, he2, b2, hn2, hy2⟩ := hld
 subst he2
 have LD2 := Lib.hid (And.intro hn2 (And.intro hy2 b2))
 have HB2 := Lib.hid (HB1.out.later b2)
 have W3 := Lib.hid (W2.out.later b2)
 have HOZ2 := Lib.hid (HOZ.out.go (Go4.of_below (O := U) b2))
 clear hn2 hy2 b2 q6 HLD
 have q6 := HB2.out.cells.2.2.2.2.2.2.1
 have q8 := HB2.out.cells.2.2.2.2.2.2.2.2
 have hld := rLoad_any (n := o.num) (m := o.nF) HOZ2.out.f.rd HNF.out
 rw [← HQ.out.2] at hld
 have HLD := Lib.hid hld
 clear hld
 go_wp2_with fail
 refine HLD.out.mono ?_
 intro e3 Z3 hld
 unfold LoadR at hld
 obtain ⟨pr, he3, b3, hn3, hy3⟩ := hld
 subst he3
 have HB3 := Lib.hid (HB2.out.later b3)
 have W4 := Lib.hid (W3.out.later b3)
 have nd : NewD Z3 ee pd pr d1 r1 Z1.heap.size U := NewD.of LD2.out.1 (fun e => by obtain ⟨A, dB, e1, m⟩ := LD2.out.2.1 e; exact ⟨A, dB, e1, m.dsk, m.own⟩) hn3 (fun e => by obtain ⟨A, dB, e1, m⟩ := hy3 e; exact ⟨A, dB, e1, m.dsk, m.own⟩) LD2.out.2.2.size b3 (fun i hi => Nat.lt_of_lt_of_le (W1.out.lt i hi) B1.out.size)
 have ND := Lib.hid nd
 have B13 := Lib.hid (LD2.out.2.2.trans (b3.mono LD2.out.2.2.size))
 have HOZ3 := Lib.hid (HOZ2.out.go (Go4.of_below (O := U) b3))
 clear hn3 hy3 b3 q6 q8 HLD nd
 have q8 := HB3.out.cells.2.2.2.2.2.2.2.2
 have hsm := sameG_any (n := o.nF) (m := o.nF) (RG.out.later B13.out) HOZ3.out.f.rd (by rw [List.length_map]; exact LW.out.2.1) HNF.out
 rw [EWS.out, decide_eq_true rfl] at hsm
 have HSM := Lib.hid hsm
 clear hsm
 go_wp2_with fail
 refine HSM.out.mono ?_
 rintro e4 Z4 ⟨he4, b4⟩
 subst he4
 have B14 := Lib.hid (B13.out.trans (b4.mono B13.out.size))
 have HB4 := Lib.hid (HB3.out.later b4)
 have W5 := Lib.hid (W4.out.later b4)
 have ND4 := Lib.hid (ND.out.later b4)
 have cmk := (B14.out.cell (p := ⟨gl, o.nF * 3, none⟩) hlgl).trans CM.out
 have hw1 : IntKind.i64.wrap ((o.nF : Int) + 1) = (o.nF : Int) + 1 := IntWalk.i64_in _ ⟨by omega, by omega⟩
 have hwst : WSt X.heap.size Z4 U aw o.nF kw ws 0 := by
  have b := B14.out
  refine ⟨LW.out.2.2.1.later b, fun g e q => ?_, fun j x _ hx => ⟨(LW.out.2.2.2.1 x (List.mem_of_getElem? hx)).later b, fun q => ?_⟩⟩
  ·have := row_lt2 LW.out.2.2.1.2.2 e
   have := W1.out.lt g q
   omega
  ·have h1 : X.heap.size ≤ x.2.1 := row_lt2 (LW.out.2.2.2.1 x (List.mem_of_getElem? hx)).2 rfl
   have := W1.out.lt _ q
   omega
 have WS0 := Lib.hid hwst
 clear b4 q8 HSM hwst
 go_wp2_with fail
 clear cmk hw1 hlgl jk
 go_loopw [23, 24] (fun okv v wr => ∃ (t : Nat) (Ut : Nat → Prop) (zt : Int), t ≤ o.nF ∧ okv = .bool true ∧ v = .int .i64 (t : Int) ∧ Ws wr wB Ut zt qs ∧ WSt X.heap.size wr Ut aw o.nF kw ws t ∧ NewD wr ee pd pr d1 r1 Z1.heap.size Ut ∧ OBox wr bo o ∧ ¬ Ut bo ∧ Go4 w wr U Ut ∧ zt ≤ z + (t : Int) * 2097300) (fun _ v _ => o.nF - (intOf v).toNat)
 case atStart => exact ⟨0, U, z, Nat.zero_le _, rfl, rfl, W5.out, WS0.out, ND4.out, HB4.out, NB.out, Go4.of_below (HX.out.2.1.trans ((B1.out.trans (B14.out.mono B1.out.size)).mono HX.out.2.1.size)), by omega⟩
 case round =>
  obtain ⟨t, Ut, zt, ht, rfl, rfl, wt, st, nt, bt, nbt, gt, hzt⟩ := hrel
  have WT := Lib.hid wt
  have ST := Lib.hid st
  have NT := Lib.hid nt
  have BT := Lib.hid (And.intro bt nbt)
  have GT := Lib.hid gt
  have HZT := Lib.hid hzt
  have HOT := Lib.hid (HO.out.go gt)
  clear wt st nt bt nbt gt hzt
  by_cases hlt : t < o.nF
  ·have j1 : (t : Int) < (o.nF : Int) := by omega
   have j2 : (0 : Int) ≤ (t : Int) := by omega
   have hx : ∃ x, ws[t]? = some x := ⟨_, List.getElem?_eq_getElem (by rw [← LW.out.2.1]; exact hlt)⟩
   obtain ⟨x, hx⟩ := hx
   have hy : ∃ y, o.fs[t]? = some y := ⟨_, List.getElem?_eq_getElem (by rw [← HNF.out]; exact hlt)⟩
   obtain ⟨y, hy⟩ := hy
   have hxy : x.1 = y.1 := by
    have h1 : (ws.map (·.1))[t]? = some x.1 := by rw [List.getElem?_map, hx]; rfl
    rw [LW.out.1, List.getElem?_map, hy] at h1
    exact (Option.some.inj h1).symm
   have hbx := LW.out.2.2.2.2.2 x (List.mem_of_getElem? hx)
   have hcy := HOT.out.f.rd.cel t y hy
   obtain ⟨gF, hcy⟩ := hcy
   obtain ⟨oF, hcy⟩ := hcy
   have hdy := HOT.out.f.rd.dat y (List.mem_of_getElem? hy)
   obtain ⟨ap, hdy⟩ := hdy
   obtain ⟨cp, hdy⟩ := hdy
   have hga := row_addr ST.out.rw_.2.2 (by omega)
   obtain ⟨gr, hga⟩ := hga
   have hga1 := hga.1
   subst hga1
   have hcr := ST.out.rw_.2.2.cellAt t (by omega)
   rw [List.getElem?_map, hx] at hcr
   simp only [Option.map_some] at hcr
   obtain ⟨⟨xn, xd, xs⟩, gx, cx⟩ := x
   obtain ⟨⟨yn, yd, ys⟩, yv⟩ := y
   simp only at hxy hbx hcy hdy
   simp only [Prod.mk.injEq] at hxy
   obtain ⟨rfl, rfl, rfl⟩ := hxy
   have hnx : ∃ nx, nx = xd.length := ⟨_, rfl⟩
   obtain ⟨nx, hnx⟩ := hnx
   rw [← hnx] at hdy hbx
   have hyv := hdy.1
   subst hyv
   have hmx : ∃ mx, mx = nx + 5 := ⟨_, rfl⟩
   obtain ⟨mx, hmx⟩ := hmx
   have evw : vW ((xn, xd, xs), gx, cx) = .slice (some ⟨gx, 0, none⟩) mx cx := by unfold vW; rw [hmx, hnx]
   rw [evw] at hcr
   have HM := Lib.hid (And.intro hnx (And.intro hmx (And.intro evw hbx)))
   have hmb : mx ≤ 1048581 := by have := hbx.2; omega
   have lgr := World.block_lt_of_cell? _ _ hcr
   have lgf := World.block_lt_of_cell? _ _ hcy.2.2.1
   simp only at lgr lgf
   have CR := Lib.hid hcr
   have CF := Lib.hid hcy.2.2.1
   have CA := Lib.hid hcy.1
   have RY := Lib.hid hdy.2
   have HXX := Lib.hid hx
   have HGR := Lib.hid hga.2
   clear hbx hcy hdy hga hcr hnx hmx evw hx hy
   go_upto_region 26 with fail
   have BD : Below wr.heap.size wr wr.drew := (Below.refl _ _).drew
   refine wp_region_noPanic ?_
   refine wp_region_anyE (S := fun wx => OBox wx bo o ∧ Below wr.heap.size wr wx) (E := fun j => true) (by kernel_rfl) ?_
   have hHeld : OBox wr.drew bo o ∧ Below wr.heap.size wr wr.drew := ⟨BT.out.1.later BD, BD⟩
   have HBD := Lib.hid BD
   have hZ0 : ∃ z, z = wr.drew := ⟨_, rfl⟩
   obtain ⟨Z0, hZ0⟩ := hZ0
   rw [← hZ0] at HBD hHeld ⊢
   clear hZ0 BD
   refine AnyE.take (i := 0) (.bool true) rfl (by kernel_rfl) (by kernel_rfl) (by kernel_rfl) (by kernel_rfl) (fun _ _ _ h => h) (.inl ⟨by kernel_rfl, fun wy hy => by (go_simp; done)⟩) hHeld ?_
   try simp only [Act.put, List.setIfInBounds_toArray, List.set_cons_zero, List.set_cons_succ]
   refine AnyE.take (i := 1) (.bool true) rfl (by kernel_rfl) (by kernel_rfl) (by kernel_rfl) (by kernel_rfl) (fun _ _ _ h => h) (.inl ⟨by kernel_rfl, fun wy hy => by (go_simp; done)⟩) hHeld ?_
   try simp only [Act.put, List.setIfInBounds_toArray, List.set_cons_zero, List.set_cons_succ]
   refine AnyE.take (i := 2) (.slice (some ⟨gr, 0, none⟩) o.nF kw) rfl (by kernel_rfl) (by kernel_rfl) (by kernel_rfl) (by kernel_rfl) (fun _ _ _ h => h) (.inl ⟨by kernel_rfl, fun wy hy => by (go_simp; done)⟩) hHeld ?_
   try simp only [Act.put, List.setIfInBounds_toArray, List.set_cons_zero, List.set_cons_succ]
   refine AnyE.take (i := 3) (.int .i64 (t : Int)) rfl (by kernel_rfl) (by kernel_rfl) (by kernel_rfl) (by kernel_rfl) (fun _ _ _ h => h) (.inl ⟨by kernel_rfl, fun wy hy => by (go_simp; done)⟩) hHeld ?_
   try simp only [Act.put, List.setIfInBounds_toArray, List.set_cons_zero, List.set_cons_succ]
   refine AnyE.take (i := 4) (.pointer (some ⟨gr, t, none⟩)) rfl (by kernel_rfl) (by kernel_rfl) (by kernel_rfl) (by kernel_rfl) (fun _ _ _ h => h) (.inl ⟨by kernel_rfl, fun wy hy => by (go_simp; done)⟩) hHeld ?_
   try simp only [Act.put, List.setIfInBounds_toArray, List.set_cons_zero, List.set_cons_succ]
   refine AnyE.take (i := 5) (.slice (some ⟨gx, 0, none⟩) mx cx) rfl (by kernel_rfl) (by kernel_rfl) (by kernel_rfl) (by kernel_rfl) (fun _ _ _ h => h) (.inl ⟨by kernel_rfl, fun wy hy => by (have q0 := (hy.2.cell (p := ⟨gr, t, none⟩) lgr).trans CR.out; go_simp; done)⟩) hHeld ?_
   try simp only [Act.put, List.setIfInBounds_toArray, List.set_cons_zero, List.set_cons_succ]
   refine AnyE.take (i := 6) (.pointer (some ⟨bo, 8, none⟩)) rfl (by kernel_rfl) (by kernel_rfl) (by kernel_rfl) (by kernel_rfl) (fun _ _ _ h => h) (.inl ⟨by kernel_rfl, fun wy hy => by (go_simp; done)⟩) hHeld ?_
   try simp only [Act.put, List.setIfInBounds_toArray, List.set_cons_zero, List.set_cons_succ]
   refine AnyE.take (i := 7) (.slice (some ⟨gF, oF, none⟩) o.nF o.kF) rfl (by kernel_rfl) (by kernel_rfl) (by kernel_rfl) (by kernel_rfl) (fun _ _ _ h => h) (.inl ⟨by kernel_rfl, fun wy hy => by (have q0 := hy.1.cells.2.2.2.2.2.2.2.2; rw [CA.out] at q0; go_simp; done)⟩) hHeld ?_
   try simp only [Act.put, List.setIfInBounds_toArray, List.set_cons_zero, List.set_cons_succ]
   refine AnyE.take (i := 8) (.int .i64 (t : Int)) rfl (by kernel_rfl) (by kernel_rfl) (by kernel_rfl) (by kernel_rfl) (fun _ _ _ h => h) (.inl ⟨by kernel_rfl, fun wy hy => by (go_simp; done)⟩) hHeld ?_
   try simp only [Act.put, List.setIfInBounds_toArray, List.set_cons_zero, List.set_cons_succ]
   refine AnyE.take (i := 9) (.pointer (some ⟨gF, oF + t * 3, none⟩)) rfl (by kernel_rfl) (by kernel_rfl) (by kernel_rfl) (by kernel_rfl) (fun _ _ _ h => h) (.inl ⟨by kernel_rfl, fun wy hy => by (go_simp; done)⟩) hHeld ?_
   try simp only [Act.put, List.setIfInBounds_toArray, List.set_cons_zero, List.set_cons_succ]
   refine AnyE.take (i := 10) (.pointer (some ⟨gF, oF + t * 3 + 1, none⟩)) rfl (by kernel_rfl) (by kernel_rfl) (by kernel_rfl) (by kernel_rfl) (fun _ _ _ h => h) (.inl ⟨by kernel_rfl, fun wy hy => by (go_simp; done)⟩) hHeld ?_
   try simp only [Act.put, List.setIfInBounds_toArray, List.set_cons_zero, List.set_cons_succ]
   refine AnyE.take (i := 11) (.slice ap nx cp) rfl (by kernel_rfl) (by kernel_rfl) (by kernel_rfl) (by kernel_rfl) (fun _ _ _ h => h) (.inl ⟨by kernel_rfl, fun wy hy => by (have q0 := (hy.2.cell (p := ⟨gF, oF + t * 3 + 1, none⟩) lgf).trans CF.out; go_simp; done)⟩) hHeld ?_
   try simp only [Act.put, List.setIfInBounds_toArray, List.set_cons_zero, List.set_cons_succ]
   refine AnyE.one (i := 12) rfl (by kernel_rfl) (by kernel_rfl) (fun KK hK => ?_)
   go_simp
   go_at_call 32
   refine (roomy4_any (RY.out.later HBD.out) (by have := HM.out; omega)).mono ?_
   rintro e5 Z5 ⟨a5, c5, he5, own5, b5⟩
   subst he5
   rw [← HM.out.1, ← HM.out.2.1] at own5 ⊢
   have hHeld1 := hHeld
   have hHeld : OBox Z5 bo o ∧ Below wr.heap.size wr Z5 := ⟨hHeld1.1.later b5, hHeld1.2.trans (b5.mono hHeld1.2.size)⟩
   have B5 := Lib.hid hHeld.2
   have hbys : Bys (xd ++ mk5) := bys_app4 HM.out.2.2.2.1 (by intro x hx; simp [mk5] at hx; omega)
   have ow0 := (ST.out.dat t _ (Nat.le_refl _) HXX.out).1
   simp only at ow0
   rw [HM.out.2.2.1, ← HM.out.1, ← HM.out.2.1] at ow0
   have SM := Lib.hid (same_self ((ow0.later hHeld.2).rd hbys (by omega)) (own5.rd hbys (by omega)))
   clear own5 b5 hHeld1 hbys ow0
   go_wp2_with fail
   refine hK.out _ _ ⟨fun _ => hHeld, ?_⟩
   clear hK
   try simp only [Act.put, List.setIfInBounds_toArray, List.set_cons_zero, List.set_cons_succ]
   refine AnyE.one (i := 13) rfl (by kernel_rfl) (by kernel_rfl) (fun KK hK => ?_)
   go_simp
   go_at_call 31
   refine SM.out.mono ?_
   rintro e6 Z6 ⟨he6, hz6⟩
   subst he6
   rw [hz6]
   clear hz6 SM
   go_wp2_with fail
   refine hK.out _ _ ⟨fun _ => hHeld, ?_⟩
   clear hK
   try simp only [Act.put, List.setIfInBounds_toArray, List.set_cons_zero, List.set_cons_succ]
   refine AnyE.one (i := 14) rfl (by kernel_rfl) (by kernel_rfl) (fun KK hK => ?_)
   go_simp
   refine hK.out _ _ ⟨fun _ => hHeld, ?_⟩
   clear hK
   try simp only [Act.put, List.setIfInBounds_toArray, List.set_cons_zero, List.set_cons_succ]
   refine AnyE.one (i := 15) rfl (by kernel_rfl) (by kernel_rfl) (fun KK hK => ?_)
   go_simp
   refine hK.out _ _ ⟨fun _ => hHeld, ?_⟩
   clear hK
   try simp only [Act.put, List.setIfInBounds_toArray, List.set_cons_zero, List.set_cons_succ]
   refine AnyE.done (by kernel_rfl) (NoPanic.normal ?_) _
   clear hHeld
   go_simp
   go_step
   have CR5 := Lib.hid ((B5.out.cell (p := ⟨gr, t, none⟩) lgr).trans CR.out)
   have lgr5 := Nat.lt_of_lt_of_le lgr B5.out.size
   go_upto_region 27 with fail
   have BD : Below Z5.heap.size Z5 Z5.drew := (Below.refl _ _).drew
   refine wp_region_noPanic ?_
   refine wp_region_anyE (S := fun wx => wx.cell? ⟨gr, t, none⟩ = some (.slice (some ⟨gx, 0, none⟩) mx cx)) (E := fun j => true) (by kernel_rfl) ?_
   have hHeld : Z5.drew.cell? ⟨gr, t, none⟩ = some (.slice (some ⟨gx, 0, none⟩) mx cx) := (BD.cell (p := ⟨gr, t, none⟩) lgr5).trans CR5.out
   have HBD2 := Lib.hid (B5.out.trans (BD.mono B5.out.size))
   have hZ0 : ∃ z, z = Z5.drew := ⟨_, rfl⟩
   obtain ⟨Z7, hZ7⟩ := hZ0
   rw [← hZ7] at HBD2 hHeld ⊢
   clear hZ7 BD
   refine AnyE.take (i := 0) (.pointer (some ⟨wB, 0, none⟩)) rfl (by kernel_rfl) (by kernel_rfl) (by kernel_rfl) (by kernel_rfl) (fun _ _ _ h => h) (.inl ⟨by kernel_rfl, fun wy hy => by (go_simp; done)⟩) hHeld ?_
   try simp only [Act.put, List.setIfInBounds_toArray, List.set_cons_zero, List.set_cons_succ]
   refine AnyE.take (i := 1) (.pointer (some ⟨wB, 0, none⟩)) rfl (by kernel_rfl) (by kernel_rfl) (by kernel_rfl) (by kernel_rfl) (fun _ _ _ h => h) (.inl ⟨by kernel_rfl, fun wy hy => by (go_simp; done)⟩) hHeld ?_
   try simp only [Act.put, List.setIfInBounds_toArray, List.set_cons_zero, List.set_cons_succ]
   refine AnyE.take (i := 2) (.pointer (some ⟨wB, 2, none⟩)) rfl (by kernel_rfl) (by kernel_rfl) (by kernel_rfl) (by kernel_rfl) (fun _ _ _ h => h) (.inl ⟨by kernel_rfl, fun wy hy => by (go_simp; done)⟩) hHeld ?_
   try simp only [Act.put, List.setIfInBounds_toArray, List.set_cons_zero, List.set_cons_succ]
   refine AnyE.take (i := 3) (.slice (some ⟨gr, 0, none⟩) o.nF kw) rfl (by kernel_rfl) (by kernel_rfl) (by kernel_rfl) (by kernel_rfl) (fun _ _ _ h => h) (.inl ⟨by kernel_rfl, fun wy hy => by (go_simp; done)⟩) hHeld ?_
   try simp only [Act.put, List.setIfInBounds_toArray, List.set_cons_zero, List.set_cons_succ]
   refine AnyE.take (i := 4) (.int .i64 (t : Int)) rfl (by kernel_rfl) (by kernel_rfl) (by kernel_rfl) (by kernel_rfl) (fun _ _ _ h => h) (.inl ⟨by kernel_rfl, fun wy hy => by (go_simp; done)⟩) hHeld ?_
   try simp only [Act.put, List.setIfInBounds_toArray, List.set_cons_zero, List.set_cons_succ]
   refine AnyE.take (i := 5) (.pointer (some ⟨gr, t, none⟩)) rfl (by kernel_rfl) (by kernel_rfl) (by kernel_rfl) (by kernel_rfl) (fun _ _ _ h => h) (.inl ⟨by kernel_rfl, fun wy hy => by (go_simp; done)⟩) hHeld ?_
   try simp only [Act.put, List.setIfInBounds_toArray, List.set_cons_zero, List.set_cons_succ]
   refine AnyE.take (i := 6) (.slice (some ⟨gx, 0, none⟩) mx cx) rfl (by kernel_rfl) (by kernel_rfl) (by kernel_rfl) (by kernel_rfl) (fun _ _ _ h => h) (.inl ⟨by kernel_rfl, fun wy hy => by (have q0 := hy; go_simp; done)⟩) hHeld ?_
   try simp only [Act.put, List.setIfInBounds_toArray, List.set_cons_zero, List.set_cons_succ]
   refine AnyE.one (i := 7) rfl (by kernel_rfl) (by kernel_rfl) (fun KK hK => ?_)
   go_simp
   go_at_call 29
   have st7 := ST.out.far (Go4.of_below (O := Ut) HBD2.out) ST.out.rU (fun j x hj hx => (ST.out.dat j x hj hx).2) (U' := Ut) (fun q hq => .inl hq)
   have ow7 := st7.dat t _ (Nat.le_refl _) HXX.out
   simp only at ow7
   rw [HM.out.2.2.1, ← HM.out.1, ← HM.out.2.1] at ow7
   refine ((WT.out.later HBD2.out).take (a := some ⟨gx, 0, none⟩) (m := mx) (c := cx) (bs := xd ++ mk5) (ow7.1.mono (Nat.zero_le _)) (by omega) (fun g e => by simp only [Value.ownBlock, Option.some.injEq] at e; rw [← e]; exact ow7.2) (by have := HZ.out; have := HZT.out; omega)).mono ?_
   rintro e8 Z8 ⟨he8, U8, w8, g8⟩
   subst he8
   have hgx : X.heap.size ≤ gx ∧ gx < Z1.heap.size := by
    have h1 := LW.out.2.2.2.1 _ (List.mem_of_getElem? HXX.out)
    exact ⟨row_lt2 h1.2 rfl, row_lt h1.2 rfl⟩
   have nebo : bo ≠ gx := by have := HX.out.1.lt; omega
   have st8 := st7.next.far g8 (U' := U8) (fun q e zz => zz.elim (st7.rU q e) (fun e2 => st7.ne (Nat.le_refl _) HXX.out (by simp only [Value.ownBlock, Option.some.injEq] at e2; simp only; rw [e2]; exact e))) (fun j y hj hy zz => zz.elim (st7.dat j y (by omega) hy).2 (fun e2 => by
    simp only [Value.ownBlock, Option.some.injEq] at e2
    obtain ⟨hi, q1⟩ := List.getElem?_eq_some_iff.1 HXX.out
    obtain ⟨hj2, q2⟩ := List.getElem?_eq_some_iff.1 hy
    have := List.pairwise_iff_getElem.1 LW.out.2.2.2.2.1 t j hi hj2 (by omega)
    rw [q1, q2] at this
    exact this e2)) (fun q hq => .inr hq)
   have nt8 := (NT.out.later HBD2.out).far g8 (U' := U8) (fun q zz => zz.imp id (fun e2 => by simp only [Value.ownBlock, Option.some.injEq] at e2; omega)) (fun q hq => .inr hq)
   have bx8 := (BT.out.1.later HBD2.out).go g8 (fun zz => zz.elim BT.out.2 (fun e2 => by simp only [Value.ownBlock, Option.some.injEq] at e2; omega))
   have g9 := ((GT.out.trans (Go4.of_below (O := Ut) HBD2.out)).more (Q := fun i => (Value.slice (some ⟨gx, 0, none⟩) mx cx).ownBlock = some i) (fun i e2 => by simp only [Value.ownBlock, Option.some.injEq] at e2; have := HX.out.2.1.size; omega)).trans g8
   have hHeld1 := hHeld
   have hHeld : Z8.cell? ⟨gr, t, none⟩ = some (.slice (some ⟨gx, 0, none⟩) mx cx) := (World.cell?_of_block (a := ⟨gr, t, none⟩) (g8.block gr (Nat.lt_of_lt_of_le lgr HBD2.out.size) (fun zz => zz.elim (st7.rU gr rfl) (fun e2 => st7.ne (Nat.le_refl _) HXX.out (by simp only [Value.ownBlock, Option.some.injEq] at e2; simp only [Value.ownBlock]; rw [e2]))))).trans hHeld1
   have FIN := Lib.hid (And.intro w8 (And.intro st8 (And.intro nt8 (And.intro bx8 g9))))
   clear w8 st8 nt8 bx8 g9 g8 st7 ow7 hHeld1 nebo hgx
   go_wp2_with fail
   refine hK.out _ _ ⟨fun _ => hHeld, ?_⟩
   clear hK
   try simp only [Act.put, List.setIfInBounds_toArray, List.set_cons_zero, List.set_cons_succ]
   refine AnyE.done (by kernel_rfl) (NoPanic.normal ?_) _
   clear hHeld
   go_simp
   go_step
   go_wp2
   go_roundw
   case rel => exact ⟨t + 1, U8, _, by omega, rfl, by go_num, FIN.out.1, FIN.out.2.1, FIN.out.2.2.1, FIN.out.2.2.2.1.1, FIN.out.2.2.2.1.2, FIN.out.2.2.2.2, by have := HZT.out; omega⟩
   case measure => simp [intOf]; omega
  ·have j1 : (o.nF : Int) ≤ (t : Int) := by omega
   clear hlt
   go_wp2_with fail
   refine (WT.out.joinN NT.out (by have := HQN.out; omega)).mono ?_
   rintro e9 Z9 ⟨he9, U9, qs9, w9, hq9, g9⟩
   subst he9
   have F9 := Lib.hid (And.intro w9 (And.intro hq9 (GT.out.trans9 g9 (Nat.le_trans HX.out.2.1.size B1.out.size))))
   clear w9 hq9 g9
   go_wp2
   go_ret
   exact makesP_of (U1 := U) HLK.out LK.out.1 LK.out.2 F9.out.1 F9.out.2.1 F9.out.2.2 (by have := HZT.out; omega)
end Go.Proofs.Ytlkhphhmhffdjaa

namespace Go.Proofs.Ytlkhphhmhffdjaa
open Go.RowKit Go.MapKept Go.Sort
variable {w w' W X : World} {O O' U U' : Nat → Prop} {wB i : Nat} {z : Int} {qs : List Pr4} {o : OpD} {p : Pr4}
set_option maxRecDepth 100000 in
set_option maxHeartbeats 4000000 in
theorem makes_twin (hk : o.kind = 19) (h : Ws w wB U z qs) (hi : qs[i]? = some p) (hl : Lks qs) (h4 : qs.length ≤ 4) (hz : z + 1000000000000 ≤ 4611686018427387904) : Calls Try.prog 7 #[.pointer (some ⟨wB, 0, none⟩), o.val, .int .i64 (i : Int)] w (MakesP w wB U z qs) := by
 have hlp := hl p (List.mem_of_getElem? hi)
 have hT := h.pr hi
 have hfr : p.r.fs = filesP p.d := (hlp.files hT.1.rd.1.2).symm
 have hok := hT.1.dsk.1
 have hcap := hlp.cap
 have hqq := load_lk p.d.cap ((filesP p.d).map PF.g)
 have hdn := load_down p.d.cap ((filesP p.d).map PF.g)
 have hq : ∃ q, q = loadD p.d.cap ((filesP p.d).map PF.g) := ⟨_, rfl⟩
 obtain ⟨q, hq⟩ := hq
 have hqr : ∃ q, q = loadR p.d.cap ((filesP p.d).map PF.g) := ⟨_, rfl⟩
 obtain ⟨qr, hqr⟩ := hqr
 rw [← hq, ← hqr] at hqq
 rw [← hq] at hdn
 have hil := (List.getElem?_eq_some_iff.1 hi).1
 have hr0 := h.rows
 obtain ⟨aD, cD, aR, cR, hr0⟩ := hr0
 have hr1 := hr0.2.2 i p hi
 obtain ⟨gD, hr1⟩ := hr1
 obtain ⟨gR, hr1⟩ := hr1
 have haD := hr1.1
 have haR := hr1.2.1
 subst haD
 subst haR
 have hqn : ∃ qn, qn = qs.length := ⟨_, rfl⟩
 obtain ⟨qn, hqn⟩ := hqn
 rw [← hqn] at h4 hr0 hil
 obtain ⟨A0, B0, dB, rB, d, r⟩ := p
 simp only at hfr hok hcap hq hqr hr1 hT hlp
 obtain ⟨dcap, hdc⟩ : ∃ x, x = d.cap := ⟨_, rfl⟩
 rw [← hdc] at hq hqr hcap
 have HCP := Lib.hid (And.intro hdc hcap)
 have HCE := Lib.hid (And.intro hr0.1 (And.intro hr0.2.1 (And.intro hr1.2.2.1 hr1.2.2.2)))
 have HF := Lib.hid (And.intro hfr hok)
 have HQ := Lib.hid (And.intro hq hqr)
 have HQN := Lib.hid hqn
 have HW := Lib.hid h
 have HI := Lib.hid hi
 have HLK := Lib.hid hl
 have HZ := Lib.hid hz
 have HK := Lib.hid hk
 clear hlp hT hfr hok hcap hq hqr hr0 hr1 hqn h hi hl hz hdc hk
 obtain ⟨ee, d1⟩ := q
 obtain ⟨ee2, r1⟩ := qr
 obtain ⟨hee, lk1⟩ := hqq
 simp only at hee lk1 hdn
 subst hee
 have LK := Lib.hid (And.intro lk1 hdn)
 clear lk1 hdn
 have jq : (qn : Int) ≤ 4 := by omega
 have ji : (i : Int) < (qn : Int) := by omega
 have ji0 : (0 : Int) ≤ (i : Int) := by omega
 unfold OpD.val
 go_enter Try.func7, Try.ntmps7
 go_upto_region 1 with fail
 have hX : ∃ X, X = w.alloc (.cells #[.int .i64 o.kind, .int .i64 o.obj, .string o.nm, .string o.nt, .slice o.aB o.nB o.kB, .int .i64 o.pos, .int .i64 o.num, .slice o.aC o.nC o.kC, .slice o.aF o.nF o.kF] 30) := ⟨_, rfl⟩
 obtain ⟨X, hX⟩ := hX
 have bx : OBox X w.heap.size o := by rw [hX]; exact heap_new _ _
 have bA : Below w.heap.size w X := by rw [hX]; exact (Below.refl _ _).alloc (Nat.le_refl _) _
 rw [← hX]
 clear hX
 have c0 := bx.cells.1
 rw [HK.out] at c0
 have HX := Lib.hid bA
 have W1 := Lib.hid (HW.out.later bA)
 have cells : ∀ {V : World}, Below w.heap.size w V → V.cell? ⟨wB, 0, none⟩ = some (.slice (some ⟨gD, 0, none⟩) qn cD) ∧ V.cell? ⟨wB, 1, none⟩ = some (.slice (some ⟨gR, 0, none⟩) qn cR) ∧ V.cell? ⟨gD, i, none⟩ = some (.pointer (some ⟨dB, 0, none⟩)) ∧ V.cell? ⟨gR, i, none⟩ = some (.pointer (some ⟨rB, 0, none⟩)) := fun b =>
  ⟨(b.cell (World.block_lt_of_cell? _ _ HCE.out.1)).trans HCE.out.1, (b.cell (World.block_lt_of_cell? _ _ HCE.out.2.1)).trans HCE.out.2.1, (b.cell (World.block_lt_of_cell? _ _ HCE.out.2.2.1)).trans HCE.out.2.2.1, (b.cell (World.block_lt_of_cell? _ _ HCE.out.2.2.2)).trans HCE.out.2.2.2⟩
 have CELLS := @Lib.hid _ @cells
 have d0 := (cells bA).1
 have d1c := (cells bA).2.2.1
 clear bx bA cells
 go_upto_region 9 with fail
 clear c0
 go_wp2_with fail
 refine (files_any2 (W1.out.pr HI.out).1.dsk).mono ?_
 rintro e9 Z1 ⟨a1, n1, k1, l1, he9, f1, hl1, b1, ap1⟩
 subst he9
 simp only at hl1
 have W2 := Lib.hid (W1.out.later b1)
 have B1 := Lib.hid (HX.out.trans (b1.mono HX.out.size))
 have F1 := Lib.hid (And.intro f1 (And.intro hl1 ap1))
 have hn1 : n1 ≤ 256 := (f1.rdF hl1 HF.out.2).2.2.1
 clear b1 f1 hl1 ap1 d0 d1c
 have d0 := (CELLS.out B1.out).2.1
 have d1c := (CELLS.out B1.out).2.2.2
 go_wp2_with fail
 refine (rFiles_any (W2.out.pr HI.out).1.rd).mono ?_
 rintro e10 Z2 ⟨a2, n2, k2, l2, he10, f2, hl2, b2⟩
 subst he10
 simp only at hl2
 rw [HF.out.1] at hl2
 have B2 := Lib.hid (B1.out.trans (b2.mono B1.out.size))
 have F2 := Lib.hid (F1.out.1.later b2)
 have SM := Lib.hid (files_same HF.out.2 F2.out F1.out.2.1 f2 hl2)
 clear b2 f2 hl2 d0 d1c
 go_wp2_with fail
 refine SM.out.mono ?_
 rintro e11 Z3 ⟨he11, b3⟩
 subst he11
 have B3 := Lib.hid (B2.out.trans (b3.mono B2.out.size))
 have F3 := Lib.hid (F2.out.later b3)
 have W3 := Lib.hid (HW.out.later B3.out)
 clear b3 SM
 have d0 := (CELLS.out B3.out).1
 have d1c := (CELLS.out B3.out).2.2.1
 have hcp := cap_any (W3.out.pr HI.out).1.dsk
 simp only at hcp
 rw [← HCP.out.1] at hcp
 have HCA := Lib.hid hcp
 clear hcp
 go_wp2_with fail
 refine HCA.out.mono ?_
 rintro e12 Z3b ⟨he12, hz3b⟩
 subst he12
 rw [hz3b]
 clear hz3b HCA
 have rdf := F3.out.rdF F1.out.2.1 HF.out.2
 have hld := load_any (n := dcap) (m := n1) rdf.2.1.g (by rw [List.length_map]; exact rdf.1)
 have ee1 : (l1.map fun x => (x.1.g, x.2)).map (·.1) = (filesP d).map PF.g := by rw [← F1.out.2.1, List.map_map, List.map_map]; rfl
 rw [ee1, ← HQ.out.1] at hld
 have HLD := Lib.hid hld
 clear hld ee1 rdf
 go_wp2_with fail
 refine HLD.out.mono ?_
 intro e2 Z4 hld
 unfold LoadP at hld
 obtain ⟨pd, he2, b4, hn4, hy4⟩ := hld
 subst he2
 have LD2 := Lib.hid (And.intro hn4 (And.intro hy4 b4))
 have B4 := Lib.hid (B3.out.trans (b4.mono B3.out.size))
 have W4 := Lib.hid (HW.out.later B4.out)
 clear hn4 hy4 b4 HLD d0 d1c
 have hbx := (W4.out.pr HI.out).1.rd.box
 obtain ⟨fv, hbx⟩ := hbx
 simp only at hbx
 rw [← HCP.out.2] at hbx
 obtain ⟨rcap, hrc⟩ : ∃ x, x = dcap := ⟨_, rfl⟩
 rw [← hrc] at hbx
 have HRC := Lib.hid hrc
 have cc := And.intro (CELLS.out B4.out).2.1 (And.intro (CELLS.out B4.out).2.2.2 hbx.cells.1)
 have lwB := World.block_lt_of_cell? _ _ cc.1
 have lgR := World.block_lt_of_cell? _ _ cc.2.1
 have lrB := World.block_lt_of_cell? _ _ cc.2.2
 simp only at lwB lgR lrB
 have CC := Lib.hid cc
 clear cc hbx hrc
 go_upto_region 13 with fail
 have BD : Below Z4.heap.size Z4 Z4.drew := (Below.refl _ _).drew
 refine wp_region_noPanic ?_
 refine wp_region_anyE (S := fun wx => Below Z4.heap.size Z4 wx) (E := fun j => true) (by kernel_rfl) ?_
 have hHeld : Below Z4.heap.size Z4 Z4.drew := BD
 have HBD := Lib.hid BD
 have hZ0 : ∃ z, z = Z4.drew := ⟨_, rfl⟩
 obtain ⟨Z0, hZ0⟩ := hZ0
 rw [← hZ0] at HBD hHeld ⊢
 clear hZ0 BD
 refine AnyE.take (i := 0) (.pointer (some ⟨wB, 0, none⟩)) rfl (by kernel_rfl) (by kernel_rfl) (by kernel_rfl) (by kernel_rfl) (fun _ _ _ h => h) (.inl ⟨by kernel_rfl, fun wy hy => by (go_simp; done)⟩) hHeld ?_
 try simp only [Act.put, List.setIfInBounds_toArray, List.set_cons_zero, List.set_cons_succ]
 refine AnyE.take (i := 1) (.pointer (some ⟨wB, 0, none⟩)) rfl (by kernel_rfl) (by kernel_rfl) (by kernel_rfl) (by kernel_rfl) (fun _ _ _ h => h) (.inl ⟨by kernel_rfl, fun wy hy => by (go_simp; done)⟩) hHeld ?_
 try simp only [Act.put, List.setIfInBounds_toArray, List.set_cons_zero, List.set_cons_succ]
 refine AnyE.take (i := 2) (.pointer (some ⟨wB, 1, none⟩)) rfl (by kernel_rfl) (by kernel_rfl) (by kernel_rfl) (by kernel_rfl) (fun _ _ _ h => h) (.inl ⟨by kernel_rfl, fun wy hy => by (go_simp; done)⟩) hHeld ?_
 try simp only [Act.put, List.setIfInBounds_toArray, List.set_cons_zero, List.set_cons_succ]
 refine AnyE.take (i := 3) (.slice (some ⟨gR, 0, none⟩) qn cR) rfl (by kernel_rfl) (by kernel_rfl) (by kernel_rfl) (by kernel_rfl) (fun _ _ _ h => h) (.inl ⟨by kernel_rfl, fun wy hy => by (have q0 := (hy.cell (p := ⟨wB, 1, none⟩) lwB).trans CC.out.1; go_simp; done)⟩) hHeld ?_
 try simp only [Act.put, List.setIfInBounds_toArray, List.set_cons_zero, List.set_cons_succ]
 refine AnyE.take (i := 4) (.int .i64 (i : Int)) rfl (by kernel_rfl) (by kernel_rfl) (by kernel_rfl) (by kernel_rfl) (fun _ _ _ h => h) (.inl ⟨by kernel_rfl, fun wy hy => by (go_simp; done)⟩) hHeld ?_
 try simp only [Act.put, List.setIfInBounds_toArray, List.set_cons_zero, List.set_cons_succ]
 refine AnyE.take (i := 5) (.pointer (some ⟨gR, i, none⟩)) rfl (by kernel_rfl) (by kernel_rfl) (by kernel_rfl) (by kernel_rfl) (fun _ _ _ h => h) (.inl ⟨by kernel_rfl, fun wy hy => by (go_simp; done)⟩) hHeld ?_
 try simp only [Act.put, List.setIfInBounds_toArray, List.set_cons_zero, List.set_cons_succ]
 refine AnyE.take (i := 6) (.pointer (some ⟨rB, 0, none⟩)) rfl (by kernel_rfl) (by kernel_rfl) (by kernel_rfl) (by kernel_rfl) (fun _ _ _ h => h) (.inl ⟨by kernel_rfl, fun wy hy => by (have q0 := (hy.cell (p := ⟨gR, i, none⟩) lgR).trans CC.out.2.1; go_simp; done)⟩) hHeld ?_
 try simp only [Act.put, List.setIfInBounds_toArray, List.set_cons_zero, List.set_cons_succ]
 refine AnyE.take (i := 7) (.pointer (some ⟨rB, 0, none⟩)) rfl (by kernel_rfl) (by kernel_rfl) (by kernel_rfl) (by kernel_rfl) (fun _ _ _ h => h) (.inl ⟨by kernel_rfl, fun wy hy => by (go_simp; done)⟩) hHeld ?_
 try simp only [Act.put, List.setIfInBounds_toArray, List.set_cons_zero, List.set_cons_succ]
 refine AnyE.take (i := 8) (.pointer (some ⟨rB, 0, none⟩)) rfl (by kernel_rfl) (by kernel_rfl) (by kernel_rfl) (by kernel_rfl) (fun _ _ _ h => h) (.inl ⟨by kernel_rfl, fun wy hy => by (go_simp; done)⟩) hHeld ?_
 try simp only [Act.put, List.setIfInBounds_toArray, List.set_cons_zero, List.set_cons_succ]
 refine AnyE.take (i := 9) (.int .i64 rcap) rfl (by kernel_rfl) (by kernel_rfl) (by kernel_rfl) (by kernel_rfl) (fun _ _ _ h => h) (.inl ⟨by kernel_rfl, fun wy hy => by (have q0 := (hy.cell (p := ⟨rB, 0, none⟩) lrB).trans CC.out.2.2; go_simp; done)⟩) hHeld ?_
 try simp only [Act.put, List.setIfInBounds_toArray, List.set_cons_zero, List.set_cons_succ]
 refine AnyE.take (i := 10) (.pointer (some ⟨wB, 0, none⟩)) rfl (by kernel_rfl) (by kernel_rfl) (by kernel_rfl) (by kernel_rfl) (fun _ _ _ h => h) (.inl ⟨by kernel_rfl, fun wy hy => by (go_simp; done)⟩) hHeld ?_
 try simp only [Act.put, List.setIfInBounds_toArray, List.set_cons_zero, List.set_cons_succ]
 refine AnyE.take (i := 11) (.pointer (some ⟨wB, 0, none⟩)) rfl (by kernel_rfl) (by kernel_rfl) (by kernel_rfl) (by kernel_rfl) (fun _ _ _ h => h) (.inl ⟨by kernel_rfl, fun wy hy => by (go_simp; done)⟩) hHeld ?_
 try simp only [Act.put, List.setIfInBounds_toArray, List.set_cons_zero, List.set_cons_succ]
 refine AnyE.take (i := 12) (.pointer (some ⟨wB, 1, none⟩)) rfl (by kernel_rfl) (by kernel_rfl) (by kernel_rfl) (by kernel_rfl) (fun _ _ _ h => h) (.inl ⟨by kernel_rfl, fun wy hy => by (go_simp; done)⟩) hHeld ?_
 try simp only [Act.put, List.setIfInBounds_toArray, List.set_cons_zero, List.set_cons_succ]
 refine AnyE.take (i := 13) (.slice (some ⟨gR, 0, none⟩) qn cR) rfl (by kernel_rfl) (by kernel_rfl) (by kernel_rfl) (by kernel_rfl) (fun _ _ _ h => h) (.inl ⟨by kernel_rfl, fun wy hy => by (have q0 := (hy.cell (p := ⟨wB, 1, none⟩) lwB).trans CC.out.1; go_simp; done)⟩) hHeld ?_
 try simp only [Act.put, List.setIfInBounds_toArray, List.set_cons_zero, List.set_cons_succ]
 refine AnyE.take (i := 14) (.int .i64 (i : Int)) rfl (by kernel_rfl) (by kernel_rfl) (by kernel_rfl) (by kernel_rfl) (fun _ _ _ h => h) (.inl ⟨by kernel_rfl, fun wy hy => by (go_simp; done)⟩) hHeld ?_
 try simp only [Act.put, List.setIfInBounds_toArray, List.set_cons_zero, List.set_cons_succ]
 refine AnyE.take (i := 15) (.pointer (some ⟨gR, i, none⟩)) rfl (by kernel_rfl) (by kernel_rfl) (by kernel_rfl) (by kernel_rfl) (fun _ _ _ h => h) (.inl ⟨by kernel_rfl, fun wy hy => by (go_simp; done)⟩) hHeld ?_
 try simp only [Act.put, List.setIfInBounds_toArray, List.set_cons_zero, List.set_cons_succ]
 refine AnyE.take (i := 16) (.pointer (some ⟨rB, 0, none⟩)) rfl (by kernel_rfl) (by kernel_rfl) (by kernel_rfl) (by kernel_rfl) (fun _ _ _ h => h) (.inl ⟨by kernel_rfl, fun wy hy => by (have q0 := (hy.cell (p := ⟨gR, i, none⟩) lgR).trans CC.out.2.1; go_simp; done)⟩) hHeld ?_
 try simp only [Act.put, List.setIfInBounds_toArray, List.set_cons_zero, List.set_cons_succ]
 refine AnyE.one (i := 17) rfl (by kernel_rfl) (by kernel_rfl) (fun KK hK => ?_)
 go_simp
 go_at_call 11
 refine (rFiles_any ((W4.out.later HBD.out).pr HI.out).1.rd).mono ?_
 rintro e10 Z5 ⟨a5, n5, k5, l5, he10, f5, hl5, b5⟩
 subst he10
 simp only at hl5
 rw [HF.out.1] at hl5
 have hHeld1 := hHeld
 have hHeld : Below Z4.heap.size Z4 Z5 := hHeld1.trans (b5.mono hHeld1.size)
 have B5 := Lib.hid hHeld
 have F5 := Lib.hid (And.intro f5 hl5)
 clear f5 hl5 b5 hHeld1
 go_wp2_with fail
 refine hK.out _ _ ⟨fun _ => hHeld, ?_⟩
 clear hK
 try simp only [Act.put, List.setIfInBounds_toArray, List.set_cons_zero, List.set_cons_succ]
 refine AnyE.one (i := 18) rfl (by kernel_rfl) (by kernel_rfl) (fun KK hK => ?_)
 go_simp
 go_at_call 22
 have rdf := F5.out.1.rdF F5.out.2 HF.out.2
 have hld := rLoad_any (n := rcap) (m := n5) rdf.2.1.g (by rw [List.length_map]; exact rdf.1)
 have ee1 : (l5.map fun x => (x.1.g, x.2)).map (·.1) = (filesP d).map PF.g := by rw [← F5.out.2, List.map_map, List.map_map]; rfl
 rw [ee1, HRC.out, ← HQ.out.2] at hld
 have HLD := Lib.hid hld
 clear hld ee1 rdf
 rw [HRC.out]
 refine HLD.out.mono ?_
 intro e3 Z6 hld
 unfold LoadR at hld
 obtain ⟨pr, he3, b6, hn6, hy6⟩ := hld
 subst he3
 have hHeld1 := hHeld
 have hHeld : Below Z4.heap.size Z4 Z6 := hHeld1.trans (b6.mono hHeld1.size)
 have nd : NewD Z6 ee pd pr d1 r1 Z3.heap.size U := NewD.of LD2.out.1 (fun e => by obtain ⟨A, dB, e1, m⟩ := LD2.out.2.1 e; exact ⟨A, dB, e1, m.dsk.below B5.out, m.own⟩) hn6 (fun e => by obtain ⟨A, dB, e1, m⟩ := hy6 e; exact ⟨A, dB, e1, m.dsk, m.own⟩) (Nat.le_trans LD2.out.2.2.size B5.out.size) b6 (fun i hi => Nat.lt_of_lt_of_le (HW.out.lt i hi) B3.out.size)
 have ND := Lib.hid nd
 have B6 := Lib.hid (B4.out.trans (hHeld.mono B4.out.size))
 have B46 := Lib.hid (LD2.out.2.2.trans (hHeld.mono LD2.out.2.2.size))
 clear hn6 hy6 b6 HLD nd hHeld1
 go_wp2_with fail
 refine hK.out _ _ ⟨fun _ => hHeld, ?_⟩
 clear hK
 try simp only [Act.put, List.setIfInBounds_toArray, List.set_cons_zero, List.set_cons_succ]
 refine AnyE.one (i := 19) rfl (by kernel_rfl) (by kernel_rfl) (fun KK hK => ?_)
 go_simp
 refine hK.out _ _ ⟨fun _ => hHeld, ?_⟩
 clear hK
 try simp only [Act.put, List.setIfInBounds_toArray, List.set_cons_zero, List.set_cons_succ]
 refine AnyE.take (i := 20) (pr) rfl (by kernel_rfl) (by kernel_rfl) (by kernel_rfl) (by kernel_rfl) (fun _ _ _ h => h) (.inl ⟨by kernel_rfl, fun wy hy => by (go_simp; done)⟩) hHeld ?_
 try simp only [Act.put, List.setIfInBounds_toArray, List.set_cons_zero, List.set_cons_succ]
 refine AnyE.take (i := 21) (.int .i64 ee) rfl (by kernel_rfl) (by kernel_rfl) (by kernel_rfl) (by kernel_rfl) (fun _ _ _ h => h) (.inl ⟨by kernel_rfl, fun wy hy => by (go_simp; done)⟩) hHeld ?_
 try simp only [Act.put, List.setIfInBounds_toArray, List.set_cons_zero, List.set_cons_succ]
 refine AnyE.one (i := 22) rfl (by kernel_rfl) (by kernel_rfl) (fun KK hK => ?_)
 go_simp
 refine hK.out _ _ ⟨fun _ => hHeld, ?_⟩
 clear hK
 try simp only [Act.put, List.setIfInBounds_toArray, List.set_cons_zero, List.set_cons_succ]
 refine AnyE.one (i := 23) rfl (by kernel_rfl) (by kernel_rfl) (fun KK hK => ?_)
 go_simp
 refine hK.out _ _ ⟨fun _ => hHeld, ?_⟩
 clear hK
 try simp only [Act.put, List.setIfInBounds_toArray, List.set_cons_zero, List.set_cons_succ]
 refine AnyE.done (by kernel_rfl) (NoPanic.normal ?_) _
 clear hHeld
 go_simp
 go_step
 have hst0 : FSt X Z6 U a1 n1 k1 l1 0 := by
  have f6 := F3.out.later B46.out
  refine ⟨⟨_, f6.row, fun j x _ hx => (fCells_at l1 j x hx).2.1⟩, fun g e q => ?_, fun j x _ hx => ⟨f6.dat x (List.mem_of_getElem? hx), fun g e q => ?_⟩⟩
  ·have := row_lt2 f6.row e
   have := HW.out.lt g q
   have := HX.out.size
   omega
  ·have h1 : X.heap.size ≤ g := (f6.dat x (List.mem_of_getElem? hx)).blk g e
   have := HW.out.lt g q
   have := HX.out.size
   omega
 have ST0 := Lib.hid hst0
 have DLT : Hid (∀ x ∈ l1, ∀ g, x.2.ownBlock = some g → X.heap.size ≤ g ∧ g < Z3.heap.size) := fun x hx g e => by
  obtain ⟨cur, ht⟩ := (F3.out.dat x hx).typ e
  exact ⟨(F3.out.dat x hx).blk g e, (Array.getElem?_eq_some_iff.1 ht).1⟩
 clear hst0 lwB lgR lrB
 go_wp2_with fail
 go_loopw [16] (fun v wr => ∃ (t : Nat) (Ut : Nat → Prop) (zt : Int), t ≤ n1 ∧ v = .int .i64 (t : Int) ∧ Ws wr wB Ut zt qs ∧ FSt X wr Ut a1 n1 k1 l1 t ∧ NewD wr ee pd pr d1 r1 Z3.heap.size Ut ∧ Go4 w wr U Ut ∧ zt ≤ z + (t : Int) * 134217798) (fun v _ => n1 - (intOf v).toNat)
 case atStart => exact ⟨0, U, z, Nat.zero_le _, rfl, HW.out.later B6.out, ST0.out, ND.out, Go4.of_below B6.out, by omega⟩
 case round =>
  obtain ⟨t, Ut, zt, ht, rfl, wt, ft, nt, gt, hzt⟩ := hrel
  have WT := Lib.hid wt
  have FT := Lib.hid ft
  have NT := Lib.hid nt
  have GT := Lib.hid gt
  have HZT := Lib.hid hzt
  clear wt ft nt gt hzt
  by_cases hlt : t < n1
  ·have j1 : (t : Int) < (n1 : Int) := by omega
   have j2 : (0 : Int) ≤ (t : Int) := by omega
   have hx : ∃ x, l1[t]? = some x := ⟨_, List.getElem?_eq_getElem (by rw [← F1.out.1.len]; exact hlt)⟩
   obtain ⟨x, hx⟩ := hx
   have hdx := FT.out.dat t x (Nat.le_refl _) hx
   have hform := hdx.1.form
   obtain ⟨ax, hform⟩ := hform
   obtain ⟨cx, hform⟩ := hform
   have hnx : ∃ nx, nx = x.1.2.1.length := ⟨_, rfl⟩
   obtain ⟨nx, hnx⟩ := hnx
   rw [← hnx] at hform
   have hnxb : nx ≤ 67108864 := by rw [hnx]; exact (F1.out.1.rdF F1.out.2.1 HF.out.2).2.2.2 x (List.mem_of_getElem? hx)
   have hrow := FT.out.row
   obtain ⟨cs, hrow⟩ := hrow
   have hga := row_addr hrow.1 (by omega)
   obtain ⟨gl, hga⟩ := hga
   have hga1 := hga.1
   subst hga1
   have hcl := (hrow.1.cellAt (t * 3 + 1) (by have := hrow.1.1; omega)).trans (hrow.2 t x (Nat.le_refl _) hx)
   rw [hform] at hcl
   have lgl := World.block_lt_of_cell? _ _ hcl
   have CX := Lib.hid hcl
   have HX9 := Lib.hid (And.intro hx (And.intro hform hnx))
   have HGA := Lib.hid hga.2
   clear hdx hform hnx hga hcl hx hrow
   go_upto_region 17 with fail
   have BD : Below wr.heap.size wr wr.drew := (Below.refl _ _).drew
   refine wp_region_noPanic ?_
   refine wp_region_anyE (S := fun wx => wx.cell? ⟨gl, t * 3 + 1, none⟩ = some (.slice ax nx cx)) (E := fun j => true) (by kernel_rfl) ?_
   have hHeld : wr.drew.cell? ⟨gl, t * 3 + 1, none⟩ = some (.slice ax nx cx) := (BD.cell lgl).trans CX.out
   have HB := Lib.hid BD
   have hZ0 : ∃ z, z = wr.drew := ⟨_, rfl⟩
   obtain ⟨Z7, hZ0⟩ := hZ0
   rw [← hZ0] at HB hHeld ⊢
   clear hZ0 BD
   refine AnyE.take (i := 0) (.pointer (some ⟨wB, 0, none⟩)) rfl (by kernel_rfl) (by kernel_rfl) (by kernel_rfl) (by kernel_rfl) (fun _ _ _ h => h) (.inl ⟨by kernel_rfl, fun wy hy => by (go_simp; done)⟩) hHeld ?_
   try simp only [Act.put, List.setIfInBounds_toArray, List.set_cons_zero, List.set_cons_succ]
   refine AnyE.take (i := 1) (.pointer (some ⟨wB, 0, none⟩)) rfl (by kernel_rfl) (by kernel_rfl) (by kernel_rfl) (by kernel_rfl) (fun _ _ _ h => h) (.inl ⟨by kernel_rfl, fun wy hy => by (go_simp; done)⟩) hHeld ?_
   try simp only [Act.put, List.setIfInBounds_toArray, List.set_cons_zero, List.set_cons_succ]
   refine AnyE.take (i := 2) (.pointer (some ⟨wB, 2, none⟩)) rfl (by kernel_rfl) (by kernel_rfl) (by kernel_rfl) (by kernel_rfl) (fun _ _ _ h => h) (.inl ⟨by kernel_rfl, fun wy hy => by (go_simp; done)⟩) hHeld ?_
   try simp only [Act.put, List.setIfInBounds_toArray, List.set_cons_zero, List.set_cons_succ]
   refine AnyE.take (i := 3) (.slice (some ⟨gl, 0, none⟩) n1 k1) rfl (by kernel_rfl) (by kernel_rfl) (by kernel_rfl) (by kernel_rfl) (fun _ _ _ h => h) (.inl ⟨by kernel_rfl, fun wy hy => by (go_simp; done)⟩) hHeld ?_
   try simp only [Act.put, List.setIfInBounds_toArray, List.set_cons_zero, List.set_cons_succ]
   refine AnyE.take (i := 4) (.int .i64 (t : Int)) rfl (by kernel_rfl) (by kernel_rfl) (by kernel_rfl) (by kernel_rfl) (fun _ _ _ h => h) (.inl ⟨by kernel_rfl, fun wy hy => by (go_simp; done)⟩) hHeld ?_
   try simp only [Act.put, List.setIfInBounds_toArray, List.set_cons_zero, List.set_cons_succ]
   refine AnyE.take (i := 5) (.pointer (some ⟨gl, t * 3, none⟩)) rfl (by kernel_rfl) (by kernel_rfl) (by kernel_rfl) (by kernel_rfl) (fun _ _ _ h => h) (.inl ⟨by kernel_rfl, fun wy hy => by (go_simp; done)⟩) hHeld ?_
   try simp only [Act.put, List.setIfInBounds_toArray, List.set_cons_zero, List.set_cons_succ]
   refine AnyE.take (i := 6) (.pointer (some ⟨gl, t * 3 + 1, none⟩)) rfl (by kernel_rfl) (by kernel_rfl) (by kernel_rfl) (by kernel_rfl) (fun _ _ _ h => h) (.inl ⟨by kernel_rfl, fun wy hy => by (go_simp; done)⟩) hHeld ?_
   try simp only [Act.put, List.setIfInBounds_toArray, List.set_cons_zero, List.set_cons_succ]
   refine AnyE.take (i := 7) (.slice ax nx cx) rfl (by kernel_rfl) (by kernel_rfl) (by kernel_rfl) (by kernel_rfl) (fun _ _ _ h => h) (.inl ⟨by kernel_rfl, fun wy hy => by (have q0 := hy; go_simp; done)⟩) hHeld ?_
   try simp only [Act.put, List.setIfInBounds_toArray, List.set_cons_zero, List.set_cons_succ]
   refine AnyE.one (i := 8) rfl (by kernel_rfl) (by kernel_rfl) (fun KK hK => ?_)
   go_simp
   go_at_call 29
   have f0 := FT.out.far (Go4.of_below (O := Ut) HB.out) FT.out.rU (fun j x hj hx => (FT.out.dat j x hj hx).2) (U' := Ut) (fun q hq => .inl hq)
   have hd0 := f0.dat t x (Nat.le_refl _) HX9.out.1
   rw [HX9.out.2.1] at hd0
   refine ((WT.out.later HB.out).take (a := ax) (m := nx) (c := cx) (bs := x.1.2.1) ⟨HX9.out.2.2, by rw [HX9.out.2.2]; rw [HX9.out.2.2] at hd0; exact hd0.1.own⟩ (by omega) hd0.2 (by have := HZ.out; have := HZT.out; omega)).mono ?_
   rintro e12 Z8 ⟨he12, U4, w4, g4⟩
   subst he12
   have f4 := f0.next.far g4 (fun q e z => z.elim (f0.rU q e) (fun e2 => f0.ne (Nat.le_refl _) HX9.out.1 e (by rw [HX9.out.2.1]; exact e2))) (fun j y hj hy q e z => z.elim ((f0.dat j y (by omega) hy).2 q e) (fun e2 => F1.out.2.2.at_ (i := t) (j := j) (by omega) HX9.out.1 hy q (by rw [HX9.out.2.1]; exact e2) e)) (U' := U4) (fun q hq => .inr hq)
   have hdl : ∀ g, (Value.slice ax nx cx).ownBlock = some g → X.heap.size ≤ g ∧ g < Z3.heap.size := fun g e => DLT.out x (List.mem_of_getElem? HX9.out.1) g (by rw [HX9.out.2.1]; exact e)
   have n4 := (NT.out.later HB.out).far g4 (U' := U4) (fun q zz => zz.imp id (fun e2 => (hdl q e2).2)) (fun q hq => .inr hq)
   have W8 := Lib.hid w4
   have F8 := Lib.hid (And.intro f4 n4)
   have G8 := Lib.hid (((GT.out.trans (Go4.of_below (O := Ut) HB.out)).more (Q := fun i => (Value.slice ax nx cx).ownBlock = some i) (fun i e => by have h1 := (hdl i e).1; have := HX.out.size; omega)).trans g4)
   have hHeld1 := hHeld
   have HH8 : Hid (Z8.cell? ⟨gl, t * 3 + 1, none⟩ = some (.slice ax nx cx)) := (World.cell?_of_block (a := ⟨gl, t * 3 + 1, none⟩) (g4.block gl (Nat.lt_of_lt_of_le lgl HB.out.size) (fun z => z.elim (f0.rU gl rfl) (fun e2 => f0.ne (Nat.le_refl _) HX9.out.1 rfl (by rw [HX9.out.2.1]; exact e2))))).trans hHeld1
   clear w4 f4 g4 f0 hd0 hHeld1 hdl n4
   go_wp2_with fail
   refine hK.out _ _ ⟨fun _ => HH8.out, ?_⟩
   clear hK
   try simp only [Act.put, List.setIfInBounds_toArray, List.set_cons_zero, List.set_cons_succ]
   refine AnyE.done (by kernel_rfl) (NoPanic.normal ?_) _
   clear hHeld
   go_simp
   go_step
   go_wp2
   go_roundw
   case rel => exact ⟨t + 1, U4, _, by omega, by go_num, W8.out, F8.out.1, F8.out.2, G8.out, by have := HZT.out; omega⟩
   case measure => simp [intOf]; omega
  ·have j1 : (n1 : Int) ≤ (t : Int) := by omega
   clear hlt
   go_wp2_with fail
   refine (WT.out.joinN NT.out (by have := HQN.out; omega)).mono ?_
   rintro e9 Z9 ⟨he9, U9, qs9, w9, hq9, g9⟩
   subst he9
   have F9 := Lib.hid (And.intro w9 (And.intro hq9 (GT.out.trans9 g9 B3.out.size)))
   clear w9 hq9 g9
   go_wp2
   go_ret
   exact makesP_of (U1 := U) HLK.out LK.out.1 LK.out.2 F9.out.1 F9.out.2.1 F9.out.2.2 (by have := HZT.out; omega)
end Go.Proofs.Ytlkhphhmhffdjaa

namespace Go.Proofs.Ytlkhphhmhffdjaa
open Go.RowKit
section
variable {P : Program} {ops : Array Oper} {Q : Exit → Act → World → Prop} {md : Region.Mode} {S : World → Prop} {E D : Nat → Bool}
def WaitsD (md : Region.Mode) (ops : Array Oper) (listed : Array Bool) (i : Nat) (D : Nat → Bool) : Prop := ∀ j, D j = true → listed.getD j true = false ∧ ∃ oj, ops[j]? = some oj ∧ ∃ e ∈ oj.after, Region.binds md e = true ∧ (e.on = i ∨ D e.on = true)
theorem AnyE.firstD {i : Nat} {oi : Oper} {v : Value} (hi : ops[i]? = some oi) (hs : Region.noSelect ops = true) (hDi : D i = false) (hQ : ∀ c a w, Q (.panic c) (a.put oi.dst v) w → Q (.panic c) a w) : ∀ (fuel : Nat) (listed : Array Bool) (a : Act) (w : World),
  (∀ j oj, ops[j]? = some oj → j ≠ i → listed.getD j true = false → D j = false → (∀ e ∈ oj.after, Region.binds md e = true → e.on ≠ i) → oi.apart ops oj = true ∧ E j = true) → WaitsD md ops listed i D →
  i ∈ Region.ready md ops listed → YieldsIf P ops S oi v a → S w → AnyE P md ops Q S E fuel (listed.setIfInBounds i true) (a.put oi.dst v) w → AnyE P md ops Q S E (fuel + 1) listed a w := by
 intro fuel
 have sel := Region.noSelect_spec hs
 induction fuel with
 | zero =>
  intro listed a w _ _ hr hy hS H
  refine ⟨fun h => (by rw [h] at hr; cases hr), fun j hj => ?_⟩
  rcases Decidable.em (j = i) with rfl | hne
  ·exact hy.wpOp hi hS ⟨fun _ => hS, H⟩
  ·have k := ready_mono hj hne
   rw [H.1] at k; cases k
 | succ fuel ih =>
  intro listed a w hf hD hr hy hS H
  refine ⟨fun h => (by rw [h] at hr; cases hr), fun j hj => ?_⟩
  rcases Decidable.em (j = i) with rfl | hne
  ·exact hy.wpOp hi hS ⟨fun _ => hS, H⟩
  ·obtain ⟨hun, oj, hoj, hall⟩ := mem_ready.1 hj
   have hno : ∀ m, listed.getD m true = false → ∀ e ∈ oj.after, Region.binds md e = true → e.on ≠ m := fun m hm e he hb heq => by
    have k1 := hall e he hb
    rw [heq] at k1
    by_cases hlt : m < listed.size
    ·simp [hlt] at hm k1; rw [hm] at k1; cases k1
    ·simp [Array.getElem?_eq_none (Nat.le_of_not_lt hlt)] at k1
   have hui : listed.getD i true = false := by
    have k0 := (mem_ready.1 hr).1
    simpa using k0
   have hDj : D j = false := by
    cases hd : D j with
    | false => rfl
    | true =>
     obtain ⟨_, oj', ho', e, he, hb, h⟩ := hD j hd
     rw [hoj] at ho'
     cases ho'
     rcases h with h | h
     ·exact absurd h (hno i hui e he hb)
     ·exact absurd rfl (hno _ (hD _ h).1 e he hb)
   obtain ⟨hap, hEj⟩ := hf j oj hoj hne hun hDj (hno i hui)
   refine wpOp_mono (fun a' w' h3 => ⟨h3.2.1, ?_⟩) (wpOp_putIf hoj hap (fun cs b => sel i oi cs b hi) (fun cs b => sel j oj cs b hoj) hQ hy (H.2 j (ready_mono hj hne)))
   refine ih (listed.setIfInBounds j true) a' w' (fun k ok hk hki hun' hd' hno' => hf k ok hk hki ?_ hd' hno') (fun m hm => ?_) (ready_mono hr (Ne.symm hne)) h3.1 (h3.2.1 hEj) ?_
   ·rcases Decidable.em (j = k) with rfl | e
    ·exact hun
    ·rwa [getD_set_ne true e] at hun'
   ·obtain ⟨h1, h2⟩ := hD m hm
    refine ⟨?_, h2⟩
    have e : j ≠ m := fun e => by rw [e] at hDj; rw [hDj] at hm; cases hm
    rw [getD_set_ne true e]
    exact h1
   ·rw [Array.setIfInBounds_comm _ _ hne]; exact h3.2.2
def eFreeD (md : Region.Mode) (ops : Array Oper) (listed : Array Bool) (i : Nat) (oi : Oper) (E D : Nat → Bool) : Bool :=
 !D i && (List.range ops.size).all fun j => (match ops[j]? with
  | none => true
  | some oj => (!D j || (!listed.getD j true && oj.after.any fun e => Region.binds md e && (e.on == i || D e.on))) && (j == i || listed.getD j true || D j || (oj.after.any fun e => Region.binds md e && e.on == i) || (oi.apart ops oj && E j)))
theorem AnyE.takeD0 {i : Nat} {oi : Oper} {fuel : Nat} {listed : Array Bool} {a : Act} {w : World} (D : Nat → Bool) (v : Value) (hi : ops[i]? = some oi) (hs : Region.noSelect ops = true) (he : eFreeD md ops listed i oi E D = true) (hb : ∀ j, ops.size ≤ j → D j = false) (hr : (Region.ready md ops listed).contains i = true)
  (hQ : ∀ c a w, Q (.panic c) (a.put oi.dst v) w → Q (.panic c) a w) (hy : YieldsIf P ops S oi v a) (hS : S w) (h : AnyE P md ops Q S E fuel (listed.setIfInBounds i true) (a.put oi.dst v) w) : AnyE P md ops Q S E (fuel + 1) listed a w := by
 unfold eFreeD at he
 rw [Bool.and_eq_true] at he
 have hall := List.all_eq_true.1 he.2
 have at_ : ∀ j oj, ops[j]? = some oj → _ := fun j oj hj => by
  have hlt : j < ops.size := (Array.getElem?_eq_some_iff.1 hj).1
  have := hall j (List.mem_range.2 hlt)
  rw [hj] at this
  exact (Bool.and_eq_true _ _).mp this
 refine AnyE.firstD (D := D) hi hs (by simpa using he.1) hQ fuel listed a w (fun j oj hj hne hun hd hno => ?_) (fun j hd => ?_) (by simpa using hr) hy hS h
 ·have := (at_ j oj hj).2
  simp only [Bool.or_eq_true, beq_iff_eq, hne, hun, hd, false_or, Bool.false_eq_true, Bool.and_eq_true] at this
  rcases this with h1 | h1
  ·obtain ⟨k, hk, he2⟩ := Array.any_eq_true.1 h1
   simp only [Bool.and_eq_true, beq_iff_eq] at he2
   exact absurd he2.2 (hno _ (Array.getElem_mem hk) he2.1)
  ·exact h1
 ·have hlt : j < ops.size := Decidable.byContradiction fun hn => by
   rw [hb j (by omega)] at hd; cases hd
  have hj : ops[j]? = some ops[j] := Array.getElem?_eq_getElem hlt
  have := (at_ j _ hj).1
  simp only [hd, Bool.not_true, Bool.false_or, Bool.and_eq_true, Bool.not_eq_true'] at this
  refine ⟨this.1, _, hj, ?_⟩
  obtain ⟨k, hk, he2⟩ := Array.any_eq_true.1 this.2
  simp only [Bool.and_eq_true, Bool.or_eq_true, beq_iff_eq] at he2
  exact ⟨_, Array.getElem_mem hk, he2.1, he2.2⟩
theorem AnyE.takeD {i : Nat} {oi : Oper} {fuel : Nat} {listed : Array Bool} {a : Act} {w : World} (D : Nat → Bool) (v : Value) (hi : ops[i]? = some oi) (hs : Region.noSelect ops = true) (he : eFreeD md ops listed i oi E (fun j => D j && decide (j < ops.size)) = true) (hr : (Region.ready md ops listed).contains i = true)
  (hQ : ∀ c a w, Q (.panic c) (a.put oi.dst v) w → Q (.panic c) a w) (hy : YieldsIf P ops S oi v a) (hS : S w) (h : AnyE P md ops Q S E fuel (listed.setIfInBounds i true) (a.put oi.dst v) w) : AnyE P md ops Q S E (fuel + 1) listed a w :=
 AnyE.takeD0 _ v hi hs he (fun j hj => by simp; intro _; omega) hr hQ hy hS h
end
end Go.Proofs.Ytlkhphhmhffdjaa
