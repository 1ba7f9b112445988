import Derived.Test.YtlkhphhmhffdjaaK19
set_option linter.unusedSimpArgs false
set_option linter.unusedVariables false
namespace Go.Proofs.Ytlkhphhmhffdjaa
open Go.RowKit Go.MapKept Go.Sort
variable {w w' W X : World} {O O' U U' : Nat → Prop} {wB i : Nat} {z : Int} {qs : List Pr4} {o : OpD} {p : Pr4}
theorem OBox.go {b : Nat} (h : OBox w b o) (g : Go4 w w' O O') (hn : ¬ O b) : OBox w' b o ∧ ¬ O' b :=
 ⟨h.kept (g.block _ h.lt hn), fun q => (g.new b q).elim hn (fun e => by have := h.lt; omega)⟩
theorem Go4.more {Q : Nat → Prop} (h : Go4 w w' O O') (k : ∀ i, Q i → w.heap.size ≤ i) : Go4 w w' O (fun i => O' i ∨ Q i) := ⟨h.os, h.tape, h.output, h.size, h.block, fun i hi => hi.elim (h.new i) (fun q => .inr (k i q))⟩
theorem Rd.pre4 {a : Option Addr} {n m c : Nat} {bs : List Nat} (h : Rd w (.slice a n c) bs) (hm : m ≤ n) : Rd w (.slice a m c) (bs.take m) := by
 obtain ⟨hb, a1, c1, e, h1, h2, h3, h4, h5⟩ := h
 simp only [Value.slice.injEq] at e
 obtain ⟨rfl, hn, rfl⟩ := e
 have hl : (bs.take m).length = m := by rw [List.length_take]; omega
 refine ⟨fun x hx => hb x (List.mem_of_mem_take hx), a, c, by rw [hl], by omega, h2, by omega, h4, ?_⟩
 rcases h5 with h5 | ⟨b, off, e, hc⟩
 ·exact .inl (by rw [h5]; exact List.take_nil)
 ·refine .inr ⟨b, off, e, fun i hi => ?_⟩
  have hi2 : i < m := by omega
  have hi3 : i < bs.length := by omega
  rw [List.getD_eq_getElem?_getD, List.getElem?_take_of_lt hi2, ← List.getD_eq_getElem?_getD]
  exact hc i hi3
theorem Rd.len4 {a : Option Addr} {n c : Nat} {bs : List Nat} (h : Rd w (.slice a n c) bs) : n = bs.length := by
 obtain ⟨_, a1, c1, e, _⟩ := h
 simp only [Value.slice.injEq] at e
 exact e.2.1
theorem own_addr {B : Nat} {a : Option Addr} {m c : Nat} {xs : List Nat} (h : Own w B (.slice a m c) m xs) (hm : 0 < m) : ∃ g, a = some ⟨g, 0, none⟩ ∧ B ≤ g ∧ g < w.heap.size ∧ m ≤ c := by
 rcases h.2.2 with ⟨e, h0⟩ | ⟨g, cap, cur, e, h1, h2, h3, _⟩
 ·omega
 ·simp only [Value.slice.injEq] at e
  exact ⟨g, e.1, h1, (Array.getElem?_eq_some_iff.1 h2).1, by omega⟩
theorem Own.keep4 {B m : Nat} {v : Value} {xs : List Nat} (h : Own w B v m xs) (k : ∀ g, v.ownBlock = some g → w'.heap[g]? = w.heap[g]?) : Own w' B v m xs := ⟨h.1, row_keep h.2 k⟩
set_option maxRecDepth 100000 in
set_option maxHeartbeats 4000000 in
theorem acts_arm (hk : o.kind = 11) (h : Ws w wB U z qs) (hi : qs[i]? = some p) (hl : Lk p.d p.r) (ho : RdOp w U o) : Calls Try.prog 37 #[.pointer (some ⟨wB, 0, none⟩), o.val, .pointer (some ⟨p.dB, 0, none⟩), .pointer (some ⟨p.rB, 0, none⟩)] w (ActsP w wB U z qs i o.kind p.d) := by
 obtain ⟨A0, B0, dB, rB, d, r⟩ := p
 have HL := Lib.hid hl
 clear hl
 have nb : ¬ U w.heap.size := fun q => Nat.lt_irrefl _ (h.lt _ q)
 have NB := Lib.hid nb
 clear nb
 have HK := Lib.hid hk
 clear hk
 have HW := Lib.hid h
 have HI := Lib.hid hi
 have HO := Lib.hid ho
 clear h hi ho
 unfold OpD.val
 simp only
 go_enter Try.func37, Try.ntmps37
 go_upto_region 1 with fail
 have hX : ∃ X, X = w.alloc (.cells #[.int .i64 o.kind, .int .i64 o.obj, .string o.nm, .string o.nt, .slice o.aB o.nB o.kB, .int .i64 o.pos, .int .i64 o.num, .slice o.aC o.nC o.kC, .slice o.aF o.nF o.kF] 30) := ⟨_, rfl⟩
 obtain ⟨X, hX⟩ := hX
 have bx : OBox X w.heap.size o := by rw [hX]; exact heap_new _ _
 have bA : Below w.heap.size w X := by rw [hX]; exact (Below.refl _ _).alloc (Nat.le_refl _) _
 rw [← hX]
 clear hX
 have hbo : ∃ bo, bo = w.heap.size := ⟨_, rfl⟩
 obtain ⟨bo, hbo⟩ := hbo
 rw [← hbo] at bx ⊢
 rw [← hbo] at NB
 have HX := Lib.hid (And.intro bx bA)
 have W1 := Lib.hid (HW.out.later bA)
 have c0 := bx.cells.1
 rw [HK.out] at c0
 clear bx bA hbo
 go_upto_region 17 with fail
 clear c0
 have W2 := Lib.hid (W1.out.pr HI.out)
 have q6 := HX.out.1.cells.2.2.2.2.2.2.1
 go_wp2_with fail
 refine (arm_any W2.out.1.dsk o.num HO.out.nu.2).mono ?_
 rintro e9 Z1 ⟨he9, k1, g1⟩
 subst he9
 have D1 := Lib.hid (And.intro k1 g1)
 have HB1 := Lib.hid (HX.out.1.go g1 (fun q => NB.out (W2.out.2 bo (.inl q))))
 clear k1 g1 q6
 have q6 := HB1.out.1.cells.2.2.2.2.2.2.1
 go_wp2_with fail
 refine (rArm_any (T5.stepD W2.out.1 D1.out.1 D1.out.2).1.rd o.num HO.out.nu.2).mono ?_
 rintro e9 Z2 ⟨he9, k2, g2⟩
 subst he9
 have hst := W1.out.act2 HI.out D1.out.1 D1.out.2 k2 g2
 have ST := Lib.hid hst
 clear hst k2 g2 q6
 go_wp2
 go_ret
 have hst := ST.out
 obtain ⟨U2, s1, s2⟩ := hst
 exact ⟨rfl, U2, z, _, s1, arm_lk HL.out o.num, (Go4.of_below HX.out.2).trans s2, by omega, fun hne => absurd HK.out hne⟩
set_option maxRecDepth 100000 in
set_option maxHeartbeats 4000000 in
theorem acts_append (hk : o.kind = 2) (h : Ws w wB U z qs) (hi : qs[i]? = some p) (hl : Lk p.d p.r) (ho : RdOp w U o) (hz : z + 1000000000000 ≤ 4611686018427387904) : Calls Try.prog 37 #[.pointer (some ⟨wB, 0, none⟩), o.val, .pointer (some ⟨p.dB, 0, none⟩), .pointer (some ⟨p.rB, 0, none⟩)] w (ActsP w wB U z qs i o.kind p.d) := by
 obtain ⟨A0, B0, dB, rB, d, r⟩ := p
 have CM0 : Calm o.kind d (appendD d o.nm o.bs).2 := append_calm d o.nm o.bs
 have LK0 := append_lk hl o.nm o.bs
 have hq : ∃ q, q = appendD d o.nm o.bs := ⟨_, rfl⟩
 obtain ⟨q, hq⟩ := hq
 have hqr : ∃ q, q = appendD r o.nm o.bs := ⟨_, rfl⟩
 obtain ⟨qr, hqr⟩ := hqr
 rw [← hq, ← hqr] at LK0
 rw [← hq] at CM0
 have HQ := Lib.hid (And.intro hq hqr)
 clear hq hqr
 obtain ⟨ee, d1⟩ := q
 obtain ⟨ee2, r1⟩ := qr
 obtain ⟨hee, lk1⟩ := LK0
 simp only at hee lk1 CM0
 have CM := Lib.hid CM0
 clear CM0
 subst hee
 have LK := Lib.hid lk1
 clear lk1
 have HZ := Lib.hid hz
 clear hl hz
 have nb : ¬ U w.heap.size := fun q => Nat.lt_irrefl _ (h.lt _ q)
 have NB := Lib.hid nb
 clear nb
 have HK := Lib.hid hk
 clear hk
 have HW := Lib.hid h
 have HI := Lib.hid hi
 have HO := Lib.hid ho
 have ho5 := ho
 clear h hi ho
 unfold OpD.val
 simp only
 go_enter Try.func37, Try.ntmps37
 go_upto_region 1 with fail
 have hX : ∃ X, X = w.alloc (.cells #[.int .i64 o.kind, .int .i64 o.obj, .string o.nm, .string o.nt, .slice o.aB o.nB o.kB, .int .i64 o.pos, .int .i64 o.num, .slice o.aC o.nC o.kC, .slice o.aF o.nF o.kF] 30) := ⟨_, rfl⟩
 obtain ⟨X, hX⟩ := hX
 have bx : OBox X w.heap.size o := by rw [hX]; exact heap_new _ _
 have bA : Below w.heap.size w X := by rw [hX]; exact (Below.refl _ _).alloc (Nat.le_refl _) _
 rw [← hX]
 clear hX
 have hbo : ∃ bo, bo = w.heap.size := ⟨_, rfl⟩
 obtain ⟨bo, hbo⟩ := hbo
 rw [← hbo] at bx ⊢
 rw [← hbo] at NB
 have HX := Lib.hid (And.intro bx bA)
 have W1 := Lib.hid (HW.out.later bA)
 have c0 := bx.cells.1
 rw [HK.out] at c0
 clear bx bA hbo
 go_upto_region 5 with fail
 clear c0
 have hnb := ho5.b.1.len4
 have HNB := Lib.hid hnb
 clear hnb ho5
 have q4 := HX.out.1.cells.2.2.2.2.1
 go_wp2_with fail
 refine (roomy4_any (HO.out.b.1.later HX.out.2) (by have := HO.out.lb; omega)).mono ?_
 rintro e1 X1 ⟨aw, cw, he1, own1, b1⟩
 subst he1
 have hnw : ∃ nw, nw = o.bs.length + 5 := ⟨_, rfl⟩
 obtain ⟨nw, hnw⟩ := hnw
 rw [← hnw] at own1 ⊢
 have hga := own_addr own1 (by omega)
 obtain ⟨gw, hga⟩ := hga
 have hga1 := hga.1
 subst hga1
 have j1 : (o.nB : Int) ≤ (cw : Int) := by have := hga.2.2.2; have := HNB.out; omega
 have j2 : (0 : Int) ≤ (o.nB : Int) := by omega
 have HGW := Lib.hid (And.intro hga.2 hnw)
 have OW1 := Lib.hid own1
 have rsub : Rd X1 (.slice (some ⟨gw, 0, none⟩) o.nB cw) o.bs := by
  have hr : Rd X1 (.slice (some ⟨gw, 0, none⟩) nw cw) (o.bs ++ mk5) := own1.rd (bys_app4 HO.out.b.1.1 (by intro x hx; simp [mk5] at hx; omega)) (by have := HO.out.lb; omega)
  have := hr.pre4 (m := o.nB) (by have := HNB.out; omega)
  rw [HNB.out, List.take_left] at this
  rw [HNB.out]
  exact this
 have RS := Lib.hid rsub
 have W3 := Lib.hid (W1.out.later (b1.mono (Nat.le_refl _)))
 have HX3 := Lib.hid (And.intro (HX.out.1.later b1) (HX.out.2.trans (b1.mono HX.out.2.size)))
 clear own1 b1 hga hnw rsub q4
 go_upto_region 6 with fail
 have BD : Below X1.heap.size X1 X1.drew := (Below.refl _ _).drew
 refine wp_region_noPanic ?_
 refine wp_region_anyE (S := fun wx => OBox wx bo o) (E := fun j => true) (by kernel_rfl) ?_
 have hHeld : OBox X1.drew bo o := HX3.out.1.later BD
 have W2 := Lib.hid (W3.out.later BD)
 have HBD := Lib.hid BD
 have G2 := Lib.hid (Go4.of_below (O := U) (HX3.out.2.trans (BD.mono HX3.out.2.size)))
 have hZ0 : ∃ z, z = X1.drew := ⟨_, rfl⟩
 obtain ⟨Z0, hZ0⟩ := hZ0
 rw [← hZ0] at W2 G2 HBD hHeld ⊢
 clear hZ0 BD
 have NBW : Hid (¬ A0 gw ∧ ¬ U gw) := ⟨fun q => by have := HW.out.lt gw ((HW.out.pr HI.out).2 gw (.inl q)); have := HGW.out.1.1; have := HX.out.2.size; omega, fun q => by have := HW.out.lt gw q; have := HGW.out.1.1; have := HX.out.2.size; omega⟩
 have RS2 := Lib.hid (RS.out.later (HBD.out))
 refine AnyE.take (i := 0) (.pointer (some ⟨dB, 0, none⟩)) rfl (by kernel_rfl) (by kernel_rfl) (by kernel_rfl) (by kernel_rfl) (fun _ _ _ h => h) (.inl ⟨by kernel_rfl, fun wy hy => by (go_simp; done)⟩) hHeld ?_
 try simp only [Act.put, List.setIfInBounds_toArray, List.set_cons_zero, List.set_cons_succ]
 refine AnyE.take (i := 1) (.pointer (some ⟨bo, 2, none⟩)) rfl (by kernel_rfl) (by kernel_rfl) (by kernel_rfl) (by kernel_rfl) (fun _ _ _ h => h) (.inl ⟨by kernel_rfl, fun wy hy => by (go_simp; done)⟩) hHeld ?_
 try simp only [Act.put, List.setIfInBounds_toArray, List.set_cons_zero, List.set_cons_succ]
 refine AnyE.take (i := 2) (.string o.nm) rfl (by kernel_rfl) (by kernel_rfl) (by kernel_rfl) (by kernel_rfl) (fun _ _ _ h => h) (.inl ⟨by kernel_rfl, fun wy hy => by (have q0 := hy.cells.2.2.1; go_simp; done)⟩) hHeld ?_
 try simp only [Act.put, List.setIfInBounds_toArray, List.set_cons_zero, List.set_cons_succ]
 refine AnyE.take (i := 3) (.slice (some ⟨gw, 0, none⟩) nw cw) rfl (by kernel_rfl) (by kernel_rfl) (by kernel_rfl) (by kernel_rfl) (fun _ _ _ h => h) (.inl ⟨by kernel_rfl, fun wy hy => by (go_simp; done)⟩) hHeld ?_
 try simp only [Act.put, List.setIfInBounds_toArray, List.set_cons_zero, List.set_cons_succ]
 refine AnyE.take (i := 4) (.pointer (some ⟨bo, 4, none⟩)) rfl (by kernel_rfl) (by kernel_rfl) (by kernel_rfl) (by kernel_rfl) (fun _ _ _ h => h) (.inl ⟨by kernel_rfl, fun wy hy => by (go_simp; done)⟩) hHeld ?_
 try simp only [Act.put, List.setIfInBounds_toArray, List.set_cons_zero, List.set_cons_succ]
 refine AnyE.take (i := 5) (.slice o.aB o.nB o.kB) rfl (by kernel_rfl) (by kernel_rfl) (by kernel_rfl) (by kernel_rfl) (fun _ _ _ h => h) (.inl ⟨by kernel_rfl, fun wy hy => by (have q0 := hy.cells.2.2.2.2.1; go_simp; done)⟩) hHeld ?_
 try simp only [Act.put, List.setIfInBounds_toArray, List.set_cons_zero, List.set_cons_succ]
 refine AnyE.take (i := 6) (.int .i64 (o.nB : Int)) rfl (by kernel_rfl) (by kernel_rfl) (by kernel_rfl) (by kernel_rfl) (fun _ _ _ h => h) (.inl ⟨by kernel_rfl, fun wy hy => by (cases o.aB <;> go_simp; done)⟩) hHeld ?_
 try simp only [Act.put, List.setIfInBounds_toArray, List.set_cons_zero, List.set_cons_succ]
 refine AnyE.take (i := 7) (.slice (some ⟨gw, 0, none⟩) o.nB cw) rfl (by kernel_rfl) (by kernel_rfl) (by kernel_rfl) (by kernel_rfl) (fun _ _ _ h => h) (.inl ⟨by kernel_rfl, fun wy hy => by (go_simp; done)⟩) hHeld ?_
 try simp only [Act.put, List.setIfInBounds_toArray, List.set_cons_zero, List.set_cons_succ]
 refine AnyE.one (i := 8) rfl (by kernel_rfl) (by kernel_rfl) (fun KK hK => ?_)
 go_simp
 go_at_call 55
 have T2 := Lib.hid (W2.out.pr HI.out)
 have HC := append_any (s := o.nm) T2.out.1.dsk ⟨RS2.out, fun b off n c e n0 q => NBW.out.1 (by simp only [Value.slice.injEq, Option.some.injEq, Addr.mk.injEq] at e; rw [e.1.1]; exact q)⟩
 rw [← HQ.out.1] at HC
 refine HC.mono ?_
 rintro e9 Z1 ⟨he9, A1, k1, g1⟩
 subst he9
 have hHeld1 := hHeld
 have hHeld : OBox Z1 bo o := hHeld1.kept (g1.block _ hHeld1.lt (fun q => NB.out (T2.out.2 bo (.inl q))))
 have D1 := Lib.hid (And.intro k1 g1)
 clear k1 g1 HC hHeld1
 go_wp2_with fail
 refine hK.out _ _ ⟨fun _ => hHeld, ?_⟩
 clear hK
 try simp only [Act.put, List.setIfInBounds_toArray, List.set_cons_zero, List.set_cons_succ]
 refine AnyE.one (i := 9) rfl (by kernel_rfl) (by kernel_rfl) (fun KK hK => ?_)
 go_simp
 refine hK.out _ _ ⟨fun _ => hHeld, ?_⟩
 clear hK
 try simp only [Act.put, List.setIfInBounds_toArray, List.set_cons_zero, List.set_cons_succ]
 refine AnyE.done (by kernel_rfl) (NoPanic.normal ?_) _
 have HB1 := Lib.hid hHeld
 have hst := W2.out.actD HI.out D1.out.1 D1.out.2
 obtain ⟨U1, s1, g1⟩ := hst
 have W4 := Lib.hid s1
 have HB2 := Lib.hid (And.intro hHeld (fun q : U1 bo => (g1.new bo q).elim NB.out (fun e => by have := HX3.out.1.lt; have := HBD.out.size; omega)))
 have NG1 : Hid (¬ U1 gw) := fun q => (g1.new gw q).elim NBW.out.2 (fun e => by have := HGW.out.1.2.1; have := HBD.out.size; omega)
 have G4 := Lib.hid (G2.out.trans g1)
 have OW2 := Lib.hid ((OW1.out.later HBD.out).keep4 (w' := Z1) (fun g e => g1.block g (by simp only [Value.ownBlock, Option.some.injEq] at e; have := HGW.out.1.2.1; have := HBD.out.size; omega) (fun q => NBW.out.2 (by simp only [Value.ownBlock, Option.some.injEq] at e; rw [e]; exact q))))
 have HO2 := Lib.hid (HO.out.go G4.out)
 clear s1 g1 hHeld
 go_simp
 go_step
 have q4 := HB2.out.1.cells.2.2.2.2.1
 go_wp2_with fail
 refine (roomy4_any HO2.out.b.1 (by have := HO2.out.lb; omega)).mono ?_
 rintro e2 X5 ⟨a5, c5, he2, own5, b5⟩
 subst he2
 rw [← HGW.out.2] at own5 ⊢
 have W5 := Lib.hid (W4.out.later b5)
 have OW3 := Lib.hid (OW2.out.later b5)
 have HB3 := Lib.hid (HB2.out.1.later b5)
 have G5 := Lib.hid (G4.out.trans (Go4.of_below b5))
 have hbys : Bys (o.bs ++ mk5) := bys_app4 HO.out.b.1.1 (by intro x hx; simp [mk5] at hx; omega)
 have hn47 : nw ≤ 281474976710656 := by have := HO.out.lb; have := HGW.out.2; omega
 have SM := Lib.hid (same_self (OW3.out.rd hbys hn47) (own5.rd hbys hn47))
 clear own5 b5 q4 hbys hn47
 go_wp2_with fail
 refine SM.out.mono ?_
 rintro e3 X6 ⟨he3, hx6⟩
 subst he3
 rw [hx6]
 clear hx6 SM
 go_wp2_with fail
 refine (W5.out.take (OW3.out.mono (Nat.zero_le _)) (by have := HO.out.lb; have := HGW.out.2; omega) (fun g e => by simp only [Value.ownBlock, Option.some.injEq] at e; rw [← e]; exact NG1.out) (by have := HZ.out; omega)).mono ?_
 rintro e4 X7 ⟨he4, U7, w7, g7⟩
 subst he4
 have W7 := Lib.hid w7
 have HB4 := Lib.hid (HB3.out.go g7 (fun q => q.elim HB2.out.2 (fun e => by simp only [Value.ownBlock, Option.some.injEq] at e; have := HGW.out.1.1; have := HX.out.1.lt; omega)))
 have G7 := Lib.hid ((G5.out.more (Q := fun i => (Value.slice (some ⟨gw, 0, none⟩) nw cw).ownBlock = some i) (fun i e => by simp only [Value.ownBlock, Option.some.injEq] at e; have := HGW.out.1.1; have := HX.out.2.size; omega)).trans g7)
 have HO7 := Lib.hid (HO.out.go G7.out)
 clear w7 g7
 go_upto_region 9 with fail
 have BD : Below X7.heap.size X7 X7.drew := (Below.refl _ _).drew
 refine wp_region_noPanic ?_
 refine wp_region_anyE (S := fun wx => OBox wx bo o) (E := fun j => true) (by kernel_rfl) ?_
 have hHeld : OBox X7.drew bo o := HB4.out.1.later BD
 have W8 := Lib.hid (W7.out.later BD)
 have G8 := Lib.hid (G7.out.trans (Go4.of_below (O := U7) BD))
 have HO8 := Lib.hid (HO.out.go G8.out)
 have hZ0 : ∃ z, z = X7.drew := ⟨_, rfl⟩
 obtain ⟨Z8, hZ8⟩ := hZ0
 rw [← hZ8] at W8 G8 HO8 hHeld ⊢
 clear hZ8 BD
 refine AnyE.take (i := 0) (.bool true) rfl (by kernel_rfl) (by kernel_rfl) (by kernel_rfl) (by kernel_rfl) (fun _ _ _ h => h) (.inl ⟨by kernel_rfl, fun wy hy => by (go_simp; done)⟩) hHeld ?_
 try simp only [Act.put, List.setIfInBounds_toArray, List.set_cons_zero, List.set_cons_succ]
 refine AnyE.take (i := 1) (.bool true) rfl (by kernel_rfl) (by kernel_rfl) (by kernel_rfl) (by kernel_rfl) (fun _ _ _ h => h) (.inl ⟨by kernel_rfl, fun wy hy => by (go_simp; done)⟩) hHeld ?_
 try simp only [Act.put, List.setIfInBounds_toArray, List.set_cons_zero, List.set_cons_succ]
 refine AnyE.take (i := 2) (.int .i64 ee) rfl (by kernel_rfl) (by kernel_rfl) (by kernel_rfl) (by kernel_rfl) (fun _ _ _ h => h) (.inl ⟨by kernel_rfl, fun wy hy => by (go_simp; done)⟩) hHeld ?_
 try simp only [Act.put, List.setIfInBounds_toArray, List.set_cons_zero, List.set_cons_succ]
 refine AnyE.take (i := 4) (.pointer (some ⟨rB, 0, none⟩)) rfl (by kernel_rfl) (by kernel_rfl) (by kernel_rfl) (by kernel_rfl) (fun _ _ _ h => h) (.inl ⟨by kernel_rfl, fun wy hy => by (go_simp; done)⟩) hHeld ?_
 try simp only [Act.put, List.setIfInBounds_toArray, List.set_cons_zero, List.set_cons_succ]
 refine AnyE.take (i := 5) (.pointer (some ⟨bo, 2, none⟩)) rfl (by kernel_rfl) (by kernel_rfl) (by kernel_rfl) (by kernel_rfl) (fun _ _ _ h => h) (.inl ⟨by kernel_rfl, fun wy hy => by (go_simp; done)⟩) hHeld ?_
 try simp only [Act.put, List.setIfInBounds_toArray, List.set_cons_zero, List.set_cons_succ]
 refine AnyE.take (i := 6) (.string o.nm) rfl (by kernel_rfl) (by kernel_rfl) (by kernel_rfl) (by kernel_rfl) (fun _ _ _ h => h) (.inl ⟨by kernel_rfl, fun wy hy => by (have q0 := hy.cells.2.2.1; go_simp; done)⟩) hHeld ?_
 try simp only [Act.put, List.setIfInBounds_toArray, List.set_cons_zero, List.set_cons_succ]
 refine AnyE.take (i := 7) (.pointer (some ⟨bo, 4, none⟩)) rfl (by kernel_rfl) (by kernel_rfl) (by kernel_rfl) (by kernel_rfl) (fun _ _ _ h => h) (.inl ⟨by kernel_rfl, fun wy hy => by (go_simp; done)⟩) hHeld ?_
 try simp only [Act.put, List.setIfInBounds_toArray, List.set_cons_zero, List.set_cons_succ]
 refine AnyE.take (i := 8) (.slice o.aB o.nB o.kB) rfl (by kernel_rfl) (by kernel_rfl) (by kernel_rfl) (by kernel_rfl) (fun _ _ _ h => h) (.inl ⟨by kernel_rfl, fun wy hy => by (have q0 := hy.cells.2.2.2.2.1; go_simp; done)⟩) hHeld ?_
 try simp only [Act.put, List.setIfInBounds_toArray, List.set_cons_zero, List.set_cons_succ]
 refine AnyE.one (i := 3) rfl (by kernel_rfl) (by kernel_rfl) (fun KK hK => ?_)
 go_simp
 go_at_call 20
 refine (num4_any _ _).mono ?_
 rintro e10 Z1b ⟨he10, hz1b⟩
 subst he10
 rw [hz1b]
 clear hz1b
 go_wp2_with fail
 refine hK.out _ _ ⟨fun _ => hHeld, ?_⟩
 clear hK
 try simp only [Act.put, List.setIfInBounds_toArray, List.set_cons_zero, List.set_cons_succ]
 refine AnyE.one (i := 9) rfl (by kernel_rfl) (by kernel_rfl) (fun KK hK => ?_)
 go_simp
 go_at_call 56
 have T8 := Lib.hid (W8.out.pr (set_at HI.out))
 have HC := rAppend_any (s := o.nm) T8.out.1.rd HO8.out.b.1
 simp only at HC
 rw [← HQ.out.2] at HC
 refine HC.mono ?_
 rintro e11 Z9 ⟨he11, B1, k2, g2⟩
 subst he11
 have hHeld1 := hHeld
 have hHeld : OBox Z9 bo o := hHeld1.kept (g2.block _ hHeld1.lt (fun q => HB4.out.2 (T8.out.2 bo (.inr q))))
 have hst := W8.out.actR (set_at HI.out) k2 g2
 rw [List.set_set] at hst
 have ST := Lib.hid hst
 clear k2 g2 HC hHeld1 hst
 go_wp2_with fail
 refine hK.out _ _ ⟨fun _ => hHeld, ?_⟩
 clear hK
 try simp only [Act.put, List.setIfInBounds_toArray, List.set_cons_zero, List.set_cons_succ]
 refine AnyE.one (i := 10) rfl (by kernel_rfl) (by kernel_rfl) (fun KK hK => ?_)
 go_simp
 refine hK.out _ _ ⟨fun _ => hHeld, ?_⟩
 clear hK
 try simp only [Act.put, List.setIfInBounds_toArray, List.set_cons_zero, List.set_cons_succ]
 refine AnyE.one (i := 11) rfl (by kernel_rfl) (by kernel_rfl) (fun KK hK => ?_)
 go_simp
 refine hK.out _ _ ⟨fun _ => hHeld, ?_⟩
 clear hK
 try simp only [Act.put, List.setIfInBounds_toArray, List.set_cons_zero, List.set_cons_succ]
 refine AnyE.one (i := 12) rfl (by kernel_rfl) (by kernel_rfl) (fun KK hK => ?_)
 go_simp
 refine hK.out _ _ ⟨fun _ => hHeld, ?_⟩
 clear hK
 try simp only [Act.put, List.setIfInBounds_toArray, List.set_cons_zero, List.set_cons_succ]
 refine AnyE.done (by kernel_rfl) (NoPanic.normal ?_) _
 clear hHeld
 go_simp
 go_step
 go_wp2
 go_ret
 have hst := ST.out
 obtain ⟨U2, s1, s2⟩ := hst
 exact ⟨rfl, U2, _, _, s1, LK.out, G8.out.trans s2, by have := HO.out.lb; have := HGW.out.2; omega, CM.out⟩
end Go.Proofs.Ytlkhphhmhffdjaa
