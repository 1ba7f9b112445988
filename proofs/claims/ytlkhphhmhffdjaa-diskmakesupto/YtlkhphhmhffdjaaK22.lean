import Derived.Test.YtlkhphhmhffdjaaK21
set_option linter.unusedSimpArgs false
set_option linter.unusedVariables false
namespace Go.Proofs.Ytlkhphhmhffdjaa
open Go.RowKit Go.MapKept Go.Sort
variable {w w' W X : World} {O O' U U' : Nat → Prop} {wB i : Nat} {z : Int} {qs : List Pr4} {o : OpD} {p : Pr4}
theorem und_ints5 : Try.prog.underlying 28 = some (.slice 3) := by kernel_rfl
theorem info_int5 : (Try.prog.info? 3).map (fun i => (i.zero, i.size, i.bytes)) = some (some (.int .i64 0), 1, 8) := by kernel_rfl
def iv (l : List Int) : List Value := l.map (fun j => .int .i64 j)
theorem iv_at {l : List Int} {t : Nat} {u : Value} (h : (iv l)[t]? = some u) : ∃ j, l[t]? = some j ∧ u = .int .i64 j := by
 unfold iv at h
 rw [List.getElem?_map] at h
 cases hj : l[t]? with
 | none => rw [hj] at h; cases h
 | some j => rw [hj] at h; exact ⟨j, rfl, by simpa using h.symm⟩
theorem iv_get {l : List Int} {t : Nat} {j : Int} (h : l[t]? = some j) : (iv l)[t]? = some (.int .i64 j) := by unfold iv; rw [List.getElem?_map, h]; rfl
theorem row_ints {B n g c : Nat} {l : List Int} (h : w.ownsRow B 3 1 (.slice (some ⟨g, 0, none⟩) n c) n (iv l)) {t : Nat} {j : Int} (hj : l[t]? = some j) : w.cell? ⟨g, t, none⟩ = some (.int .i64 j) := by
 have hl : (iv l).length = n * 1 := h.1
 have ht := (List.getElem?_eq_some_iff.1 (iv_get hj)).1
 rcases h.2 with ⟨e, _⟩ | ⟨g2, cap, cur, h3, h4, h5, h6, h7, h8, h9⟩
 ·cases e
 ·simp only [Value.slice.injEq, Option.some.injEq, Addr.mk.injEq] at h3
  have hq := iv_get hj
  rw [← h9, List.getElem?_take_of_lt (by omega)] at hq
  rw [← h3.1.1] at h5
  simp [World.cell?, h5]
  simpa using hq
theorem row_lt2 {B sz n k : Nat} {e : TypeId} {v : Value} {xs : List Value} (h : w.ownsRow B e sz v n xs) (hk : v.ownBlock = some k) : B ≤ k := by
 rcases h.2 with ⟨h1, _⟩ | ⟨g2, cap, cur, h3, h4, h5, _⟩
 ·rw [h1] at hk; cases hk
 ·rw [h3] at hk
  simp only [Value.ownBlock, Option.some.injEq] at hk
  omega
theorem row_addr {B sz n : Nat} {e : TypeId} {a : Option Addr} {c : Nat} {xs : List Value} (h : w.ownsRow B e sz (.slice a n c) n xs) (hn : 0 < n) : ∃ g, a = some ⟨g, 0, none⟩ ∧ B ≤ g ∧ g < w.heap.size ∧ n ≤ c ∧ c ≤ maxLen := by
 rcases h.2 with ⟨e, h0⟩ | ⟨g, cap, cur, e, h1, h2, h3, h4, _⟩
 ·omega
 ·simp only [Value.slice.injEq] at e
  exact ⟨g, e.1, h1, (Array.getElem?_eq_some_iff.1 h2).1, by omega, by omega⟩
set_option maxRecDepth 100000 in
set_option maxHeartbeats 4000000 in
theorem acts_crash (hk : o.kind = 13) (h : Ws w wB U z qs) (hi : qs[i]? = some p) (hl : Lk p.d p.r) (ho : RdOp w U o) : Calls Try.prog 37 #[.pointer (some ⟨wB, 0, none⟩), o.val, .pointer (some ⟨p.dB, 0, none⟩), .pointer (some ⟨p.rB, 0, none⟩)] w (ActsP w wB U z qs i o.kind p.d) := by
 obtain ⟨A0, B0, dB, rB, d, r⟩ := p
 have hsrt := (h.pr hi).1.rd.1.2
 have CM0 : Calm o.kind d (crashD d o.cuts).2 := fun _ _ _ => ⟨rfl, rfl⟩
 have LK0 := crash_lk hl hsrt o.cuts
 have hq : ∃ q, q = crashD d o.cuts := ⟨_, rfl⟩
 obtain ⟨q, hq⟩ := hq
 have hqr : ∃ q, q = crashR r o.cuts := ⟨_, rfl⟩
 obtain ⟨qr, hqr⟩ := hqr
 rw [← hq, ← hqr] at LK0
 rw [← hq] at CM0
 have HQ := Lib.hid (And.intro hq hqr)
 clear hq hqr
 obtain ⟨ee, d1⟩ := q
 obtain ⟨ee2, r1⟩ := qr
 obtain ⟨hee, lk1⟩ := LK0
 simp only at hee lk1 CM0
 have CM := Lib.hid CM0
 clear CM0
 subst hee
 have LK := Lib.hid lk1
 clear lk1
 clear hl hsrt
 have HCN := Lib.hid ho.cn
 have hnc := ho.nc
 have hncb := ho.lc
 have HNC := Lib.hid (And.intro hnc hncb)
 have hnq : o.nC ≤ 1048576 := by omega
 clear hnc hncb
 have nb : ¬ U w.heap.size := fun q => Nat.lt_irrefl _ (h.lt _ q)
 have NB := Lib.hid nb
 clear nb
 have HK := Lib.hid hk
 clear hk
 have HW := Lib.hid h
 have HI := Lib.hid hi
 have HO := Lib.hid ho
 clear h hi ho
 unfold OpD.val
 simp only
 go_enter Try.func37, Try.ntmps37
 go_upto_region 1 with fail
 have hX : ∃ X, X = w.alloc (.cells #[.int .i64 o.kind, .int .i64 o.obj, .string o.nm, .string o.nt, .slice o.aB o.nB o.kB, .int .i64 o.pos, .int .i64 o.num, .slice o.aC o.nC o.kC, .slice o.aF o.nF o.kF] 30) := ⟨_, rfl⟩
 obtain ⟨X, hX⟩ := hX
 have bx : OBox X w.heap.size o := by rw [hX]; exact heap_new _ _
 have bA : Below w.heap.size w X := by rw [hX]; exact (Below.refl _ _).alloc (Nat.le_refl _) _
 rw [← hX]
 clear hX
 have hbo : ∃ bo, bo = w.heap.size := ⟨_, rfl⟩
 obtain ⟨bo, hbo⟩ := hbo
 rw [← hbo] at bx ⊢
 rw [← hbo] at NB
 have HX := Lib.hid (And.intro bx bA)
 have W1 := Lib.hid (HW.out.later bA)
 have c0 := bx.cells.1
 rw [HK.out] at c0
 clear bx bA hbo
 have j0 : (0 : Int) ≤ (o.nC : Int) := by omega
 go_upto_region 20 with fail
 clear c0
 have HI4 := Lib.hid (HO.out.c.go2 (Go4.of_below (O := U) HX.out.2))
 have q7 := HX.out.1.cells.2.2.2.2.2.2.2.1
 have lbo := HX.out.1.lt
 have HSN : Hid (o.aC = none → o.nC = 0 ∧ o.kC = 0) := fun e => by
  refine ⟨?_, HCN.out e⟩
  rw [HNC.out.1]
  cases hcz : o.cuts with
  | nil => rfl
  | cons y ys =>
   obtain ⟨b, off, e2, _⟩ := HI4.out.cel 0 y (by rw [hcz]; rfl)
   rw [e] at e2
   cases e2
 have HUS : Hid (∀ ad, o.aC = some ad → ∀ (jj : Nat) u, (iv o.cuts)[jj]? = some u → (X.alloc (.cells #[] 3)).cell? (ad.add jj) = some u) := fun ad e jj u hu => by
  obtain ⟨jv, hjv, rfl⟩ := iv_at hu
  obtain ⟨b, off, e2, _, hcell⟩ := HI4.out.cel jj jv hjv
  rw [e] at e2
  cases e2
  have eadd : (⟨b, off, none⟩ : Addr).add jj = ⟨b, off + jj, none⟩ := by unfold Addr.add; split <;> simp_all
  rw [eadd]
  exact (((Below.refl X.heap.size X).alloc (Nat.le_refl _) (.cells #[] 3)).cell (World.block_lt_of_cell? _ _ hcell)).trans hcell
 have HU1 : Hid (∀ u ∈ iv o.cuts, u.oneCell' = true) := fun u hu => by
  obtain ⟨k, hk⟩ := List.getElem?_of_mem hu
  obtain ⟨jv, _, rfl⟩ := iv_at hk
  rfl
 have HL1 : Hid (o.nC = (iv o.cuts).length) := Lib.hid (by rw [HNC.out.1]; simp [iv])
 go_wp2_with (at_builtin; refine dpl_appendm rfl _ _ 3 28 8 (.int .i64 0) und_ints5 info_int5 rfl (by decide) rfl X.heap.size (some ⟨X.heap.size, 0, none⟩) 0 0 [] rfl (World.ownsRow_made X #[] 0 (Nat.le_refl _) (Nat.zero_le _) rfl) o.aC o.nC o.kC (iv o.cuts) HL1.out rfl HSN.out HUS.out HU1.out (by have := HNC.out; omega) (by simp) ?_; intro a2 c2 X2 own2 gr2 loc2; refine Hid.out ?_)
 refine Lib.hid ?_
 simp only [Nat.zero_add, List.nil_append] at own2 gr2 loc2 ⊢
 have b2 : Below X.heap.size X X2 := ((Below.refl _ X).alloc (Nat.le_refl _) _).grown gr2 (by simp) (fun k hk => by simp [Value.ownBlock] at hk; omega)
 have HX2 := Lib.hid (And.intro own2 b2)
 clear own2 gr2 loc2 b2 q7 lbo HSN HUS HU1 HL1
 have r2 : (X2.alloc (.cells #[.int .i64 (-77)] 3)).ownsRow X.heap.size 3 1 (.slice a2 o.nC c2) o.nC (iv o.cuts) := row_keep HX2.out.1 (fun g e => ((Below.refl X2.heap.size X2).alloc (Nat.le_refl _) (.cells #[.int .i64 (-77)] 3)).block g (row_lt HX2.out.1 e))
 have cm : (X2.alloc (.cells #[.int .i64 (-77)] 3)).cell? ⟨X2.heap.size, 0, none⟩ = some (.int .i64 (-77)) := by simp [go_sem]
 have sz : X.heap.size ≤ (X2.alloc (.cells #[.int .i64 (-77)] 3)).heap.size := (HX2.out.2.alloc HX2.out.2.size _).size
 have HR2 := Lib.hid (And.intro r2 (And.intro cm sz))
 clear r2 cm sz
 have HU2 : Hid (∀ ad, some (⟨X2.heap.size, 0, none⟩ : Addr) = some ad → ∀ (jj : Nat) u, [Value.int .i64 (-77)][jj]? = some u → (X2.alloc (.cells #[.int .i64 (-77)] 3)).cell? (ad.add jj) = some u) := fun ad e jj u hu => by
  cases e
  match jj, hu with
  | 0, hu =>
   simp at hu
   subst hu
   have eadd : (⟨X2.heap.size, 0, none⟩ : Addr).add 0 = ⟨X2.heap.size, 0, none⟩ := by unfold Addr.add; split <;> simp_all
   rw [eadd]
   exact HR2.out.2.1
  | k + 1, hu => simp at hu
 have HU3 : Hid (∀ u ∈ [Value.int .i64 (-77)], u.oneCell' = true) := fun u hu => by simp at hu; subst hu; rfl
 go_wp2_with (at_builtin; refine dpl_appendm rfl _ _ 3 28 8 (.int .i64 0) und_ints5 info_int5 rfl (by decide) rfl X.heap.size a2 o.nC c2 (iv o.cuts) rfl HR2.out.1 (some ⟨X2.heap.size, 0, none⟩) 1 1 [.int .i64 (-77)] rfl rfl (fun e => by cases e) HU2.out HU3.out (by omega) HR2.out.2.2 ?_; intro a3 cc X3 own3 gr3 loc3; refine Hid.out ?_)
 refine Lib.hid ?_
 have hmc : ∃ mc, mc = o.nC + 1 := ⟨_, rfl⟩
 obtain ⟨mc, hmc⟩ := hmc
 rw [← hmc] at own3 loc3 ⊢
 have hga := row_addr own3 (by omega)
 obtain ⟨gc, hga⟩ := hga
 have hga1 := hga.1
 subst hga1
 have b3 : Below X.heap.size X X3 := by
  have bq : Below X.heap.size X (X2.alloc (.cells #[.int .i64 (-77)] 3)) := HX2.out.2.alloc HX2.out.2.size _
  exact bq.grown gr3 bq.size (fun k hk => (row_lt2 HX2.out.1 hk))
 have HX3 := Lib.hid (And.intro own3 b3)
 have HGC := Lib.hid (And.intro hga.2 hmc)
 have j1 : (o.nC : Int) ≤ (cc : Int) := by have := hga.2.2.2.1; omega
 have j3 : (o.nC : Int) < (mc : Int) := by omega
 clear own3 gr3 loc3 b3 hga hmc
 have W3 := Lib.hid (W1.out.later HX3.out.2)
 have HB3 := Lib.hid (HX.out.1.later HX3.out.2)
 have T3 := Lib.hid (W3.out.pr HI.out)
 have q7 := HB3.out.cells.2.2.2.2.2.2.2.1
 have NGC : Hid (¬ U gc) := fun q => by have := HW.out.lt gc q; have := HGC.out.1.1; have := HX.out.2.size; omega
 have hri : RdI4 X3 A0 (some ⟨gc, 0, none⟩) cc o.cuts := by
  refine ⟨⟨by have := HGC.out; have := HNC.out; omega, HGC.out.1.2.2.2⟩, fun t j hj => ⟨gc, 0, rfl, fun q => NGC.out (T3.out.2 gc (.inl q)), ?_⟩⟩
  rw [Nat.zero_add]
  have hiv : iv o.cuts ++ [.int .i64 (-77)] = iv (o.cuts ++ [-77]) := by simp [iv]
  have own := HX3.out.1
  rw [hiv] at own
  exact row_ints own (by rw [List.getElem?_append_left (List.getElem?_eq_some_iff.1 hj).1]; exact hj)
 have HC := crash_any T3.out.1.dsk hri HNC.out.1
 rw [← HQ.out.1] at HC
 have HCC := Lib.hid HC
 clear hri HC
 go_wp2_with fail
 refine HCC.out.mono ?_
 rintro e9 Z1 ⟨he9, A1, k1, g1⟩
 subst he9
 have hst := W3.out.actD HI.out k1 g1
 obtain ⟨U1, s1, g1U⟩ := hst
 have W4 := Lib.hid s1
 have G4 := Lib.hid ((Go4.of_below (O := U) (HX.out.2.trans (HX3.out.2.mono HX.out.2.size))).trans g1U)
 have HB4 := Lib.hid (HB3.out.go g1U NB.out)
 have own4 : Z1.ownsRow X.heap.size 3 1 (.slice (some ⟨gc, 0, none⟩) mc cc) mc (iv (o.cuts ++ [-77])) := by
  have hiv : iv o.cuts ++ [.int .i64 (-77)] = iv (o.cuts ++ [-77]) := by simp [iv]
  rw [← hiv]
  exact row_keep HX3.out.1 (fun g e => by
   simp only [Value.ownBlock, Option.some.injEq] at e
   subst e
   exact g1U.block gc HGC.out.1.2.1 NGC.out)
 have HOW := Lib.hid own4
 clear k1 g1 s1 g1U own4 q7 HCC T3 W3
 have HO4 := Lib.hid (HO.out.go G4.out)
 have q7 := HB4.out.1.cells.2.2.2.2.2.2.2.1
 go_wp2_with fail
 go_loopw [14] (fun v wr => ∃ t : Nat, t ≤ o.nC ∧ v = .int .i64 (t : Int) ∧ Below Z1.heap.size Z1 wr) (fun v _ => o.nC - (intOf v).toNat)
 case atStart => exact ⟨0, Nat.zero_le _, rfl, Below.refl _ _⟩
 case round =>
  obtain ⟨t, ht, rfl, hb⟩ := hrel
  have HBW := Lib.hid hb
  clear hb q7
  have q7 := (HB4.out.1.later HBW.out).cells.2.2.2.2.2.2.2.1
  by_cases hlt : t < o.nC
  ·have j4 : (t : Int) < (o.nC : Int) := by omega
   have j5 : (0 : Int) ≤ (t : Int) := by omega
   have j6 : (t : Int) < (mc : Int) := by omega
   have hx : ∃ x, o.cuts[t]? = some x := ⟨_, List.getElem?_eq_getElem (by have := HNC.out.1; omega)⟩
   obtain ⟨jt, hx⟩ := hx
   have hc1 := row_ints HOW.out (t := t) (j := jt) (by rw [List.getElem?_append_left (List.getElem?_eq_some_iff.1 hx).1]; exact hx)
   have hc2 := HO4.out.c.cel t jt hx
   obtain ⟨bC, oC, eC, _, hc2⟩ := hc2
   have lgc := World.block_lt_of_cell? _ _ hc1
   have lbc := World.block_lt_of_cell? _ _ hc2
   have CT := Lib.hid (And.intro hc1 hc2)
   have CA := Lib.hid eC
   clear hx hc1 hc2 eC
   go_upto_region 26 with fail
   clear q7
   have BD : Below wr.heap.size wr wr.drew := (Below.refl _ _).drew
   refine wp_region_noPanic ?_
   refine wp_region_anyE (S := fun wx => OBox wx bo o ∧ Below Z1.heap.size Z1 wx) (E := fun j => true) (by kernel_rfl) ?_
   have hHeld : OBox wr.drew bo o ∧ Below Z1.heap.size Z1 wr.drew := ⟨(HB4.out.1.later HBW.out).later BD, HBW.out.trans (BD.mono HBW.out.size)⟩
   have hZ0 : ∃ z, z = wr.drew := ⟨_, rfl⟩
   obtain ⟨Z0, hZ0⟩ := hZ0
   rw [← hZ0] at hHeld ⊢
   clear hZ0 BD
   refine AnyE.take (i := 0) (.slice (some ⟨gc, 0, none⟩) mc cc) rfl (by kernel_rfl) (by kernel_rfl) (by kernel_rfl) (by kernel_rfl) (fun _ _ _ h => h) (.inl ⟨by kernel_rfl, fun wy hy => by (go_simp; done)⟩) hHeld ?_
   try simp only [Act.put, List.setIfInBounds_toArray, List.set_cons_zero, List.set_cons_succ]
   refine AnyE.take (i := 1) (.int .i64 (t : Int)) rfl (by kernel_rfl) (by kernel_rfl) (by kernel_rfl) (by kernel_rfl) (fun _ _ _ h => h) (.inl ⟨by kernel_rfl, fun wy hy => by (go_simp; done)⟩) hHeld ?_
   try simp only [Act.put, List.setIfInBounds_toArray, List.set_cons_zero, List.set_cons_succ]
   refine AnyE.take (i := 2) (.pointer (some ⟨gc, t, none⟩)) rfl (by kernel_rfl) (by kernel_rfl) (by kernel_rfl) (by kernel_rfl) (fun _ _ _ h => h) (.inl ⟨by kernel_rfl, fun wy hy => by (go_simp; done)⟩) hHeld ?_
   try simp only [Act.put, List.setIfInBounds_toArray, List.set_cons_zero, List.set_cons_succ]
   refine AnyE.take (i := 3) (.int .i64 jt) rfl (by kernel_rfl) (by kernel_rfl) (by kernel_rfl) (by kernel_rfl) (fun _ _ _ h => h) (.inl ⟨by kernel_rfl, fun wy hy => by (have q0 := (hy.2.cell lgc).trans CT.out.1; go_simp; done)⟩) hHeld ?_
   try simp only [Act.put, List.setIfInBounds_toArray, List.set_cons_zero, List.set_cons_succ]
   refine AnyE.take (i := 4) (.pointer (some ⟨bo, 7, none⟩)) rfl (by kernel_rfl) (by kernel_rfl) (by kernel_rfl) (by kernel_rfl) (fun _ _ _ h => h) (.inl ⟨by kernel_rfl, fun wy hy => by (go_simp; done)⟩) hHeld ?_
   try simp only [Act.put, List.setIfInBounds_toArray, List.set_cons_zero, List.set_cons_succ]
   refine AnyE.take (i := 5) (.slice (some ⟨bC, oC, none⟩) o.nC o.kC) rfl (by kernel_rfl) (by kernel_rfl) (by kernel_rfl) (by kernel_rfl) (fun _ _ _ h => h) (.inl ⟨by kernel_rfl, fun wy hy => by (have q0 := hy.1.cells.2.2.2.2.2.2.2.1; rw [CA.out] at q0; go_simp; done)⟩) hHeld ?_
   try simp only [Act.put, List.setIfInBounds_toArray, List.set_cons_zero, List.set_cons_succ]
   refine AnyE.take (i := 6) (.int .i64 (t : Int)) rfl (by kernel_rfl) (by kernel_rfl) (by kernel_rfl) (by kernel_rfl) (fun _ _ _ h => h) (.inl ⟨by kernel_rfl, fun wy hy => by (go_simp; done)⟩) hHeld ?_
   try simp only [Act.put, List.setIfInBounds_toArray, List.set_cons_zero, List.set_cons_succ]
   refine AnyE.take (i := 7) (.pointer (some ⟨bC, oC + t, none⟩)) rfl (by kernel_rfl) (by kernel_rfl) (by kernel_rfl) (by kernel_rfl) (fun _ _ _ h => h) (.inl ⟨by kernel_rfl, fun wy hy => by (go_simp; done)⟩) hHeld ?_
   try simp only [Act.put, List.setIfInBounds_toArray, List.set_cons_zero, List.set_cons_succ]
   refine AnyE.take (i := 8) (.int .i64 jt) rfl (by kernel_rfl) (by kernel_rfl) (by kernel_rfl) (by kernel_rfl) (fun _ _ _ h => h) (.inl ⟨by kernel_rfl, fun wy hy => by (have q0 := (hy.2.cell lbc).trans CT.out.2; go_simp; done)⟩) hHeld ?_
   try simp only [Act.put, List.setIfInBounds_toArray, List.set_cons_zero, List.set_cons_succ]
   refine AnyE.one (i := 9) rfl (by kernel_rfl) (by kernel_rfl) (fun KK hK => ?_)
   go_simp
   refine hK.out _ _ ⟨fun _ => hHeld, ?_⟩
   clear hK
   try simp only [Act.put, List.setIfInBounds_toArray, List.set_cons_zero, List.set_cons_succ]
   refine AnyE.done (by kernel_rfl) (NoPanic.normal ?_) _
   have HHD := Lib.hid hHeld
   clear hHeld
   go_simp
   go_step
   go_wp2
   go_roundw
   case rel => exact ⟨t + 1, by omega, by go_num, HHD.out.2⟩
   case measure => simp [intOf]; omega
  ·have j4 : (o.nC : Int) ≤ (t : Int) := by omega
   clear hlt
   have hcl := row_ints HOW.out (t := o.nC) (j := -77) (by rw [List.getElem?_append_right (by rw [HNC.out.1]; exact Nat.le_refl _), HNC.out.1]; simp)
   have hcl2 := (HBW.out.cell (World.block_lt_of_cell? _ _ hcl)).trans hcl
   have W5 := Lib.hid (W4.out.later HBW.out)
   have T5a := Lib.hid (W5.out.pr (set_at HI.out))
   have G5 := Lib.hid (G4.out.trans (Go4.of_below (O := U1) HBW.out))
   have HO5 := Lib.hid (HO.out.go G5.out)
   have hri : RdI4 wr B0 o.aC o.kC o.cuts := ⟨HO5.out.c.cap, fun t j hj => by
    obtain ⟨b, off, e, hn, hc⟩ := HO5.out.c.cel t j hj
    exact ⟨b, off, e, fun q => hn (T5a.out.2 b (.inr q)), hc⟩⟩
   have HC := rCrash_any T5a.out.1.rd hri HNC.out.1
   simp only at HC
   rw [← HQ.out.2] at HC
   have HCC := Lib.hid HC
   clear hri HC hcl
   go_wp2_with fail
   refine HCC.out.mono ?_
   rintro e11 Z9 ⟨he11, B1, k2, g2⟩
   subst he11
   have hst := W5.out.actR (set_at HI.out) k2 g2
   rw [List.set_set] at hst
   have ST := Lib.hid hst
   clear k2 g2 hst HCC hcl2
   go_wp2
   go_ret
   have hst := ST.out
   obtain ⟨U2, s1, s2⟩ := hst
   exact ⟨rfl, U2, _, _, s1, LK.out, G5.out.trans s2, by omega, CM.out⟩
end Go.Proofs.Ytlkhphhmhffdjaa

namespace Go.Proofs.Ytlkhphhmhffdjaa
open Go.RowKit Go.MapKept Go.Sort
variable {w w' W X : World} {O O' U U' : Nat → Prop} {wB i : Nat} {z : Int} {qs : List Pr4} {o : OpD} {p : Pr4}
theorem acts_any (hk : o.kind = 1 ∨ o.kind = 2 ∨ o.kind = 3 ∨ o.kind = 4 ∨ o.kind = 5 ∨ o.kind = 11 ∨ o.kind = 13 ∨ o.kind = 14) (h : Ws w wB U z qs) (hi : qs[i]? = some p) (hl : Lk p.d p.r) (ho : RdOp w U o) (hz : z + 1000000000000 ≤ 4611686018427387904) :
  Calls Try.prog 37 #[.pointer (some ⟨wB, 0, none⟩), o.val, .pointer (some ⟨p.dB, 0, none⟩), .pointer (some ⟨p.rB, 0, none⟩)] w (ActsP w wB U z qs i o.kind p.d) := by
 rcases hk with k | k | k | k | k | k | k | k
 ·exact acts_create k h hi hl ho
 ·exact acts_append k h hi hl ho hz
 ·exact acts_sync k h hi hl ho
 ·exact acts_rename k h hi hl ho
 ·exact acts_delete k h hi hl ho
 ·exact acts_arm k h hi hl ho
 ·exact acts_crash k h hi hl ho
 ·exact acts_flip k h hi hl ho
theorem RD.box {rB : Nat} {r : Dk4} (h : RD w O rB r) : ∃ f, RBox w rB r.cap f r.down r.arm r.c := by
 obtain ⟨_, a, n, k, l, hm, _⟩ := h
 exact ⟨_, hm.box⟩
theorem Dsk.bysR {dB : Nat} {d : Dk4} (h : Dsk w O dB d) (s : ByteArray) (x y : Int) : Bys (readD d s x y).2 := by
 obtain ⟨_, mb, fl, hm, hfl⟩ := h
 have key : ∀ v, atP d.fs s = some v → Bys v.1 := fun v hv => by
  have hmem := atP_mem4 hv
  rw [← hfl] at hmem
  obtain ⟨f, hf, e⟩ := List.mem_map.1 hmem
  have := (hm.fil f hf).2.1.bys
  unfold FE.pf at e
  simp only [Prod.mk.injEq] at e
  rw [← e.2]
  exact this
 unfold readD
 split
 ·exact fun q hq => by simp at hq
 ·split
  ·exact fun q hq => by simp at hq
  ·cases hv : atP d.fs s with
   | none => exact fun q hq => by simp [hv] at hq
   | some v => exact fun q hq => key v hv q (List.mem_of_mem_drop (List.mem_of_mem_take hq))
theorem readD_len {d : Dk4} (ok : d.Ok) (s : ByteArray) (x y : Int) : (readD d s x y).2.length ≤ 67108864 := by
 unfold readD
 split
 ·simp
 ·split
  ·simp
  ·cases hv : atP d.fs s with
   | none => simp
   | some v =>
    have h1 := totP_mem hv
    have h2 := ok.tot
    have h3 := ok.cap1
    simp only [Option.getD_some, List.length_take, List.length_drop]
    omega
theorem Ws.quiet {kk : Int} (h : Ws w wB U z qs) (hi : qs[i]? = some p) (hl : Lk p.d p.r) (b : Below w.heap.size w w') : ∃ (U' : Nat → Prop) (z' : Int) (p' : Pr4), Ws w' wB U' z' (qs.set i p') ∧ Lk p'.d p'.r ∧ Go4 w w' U U' ∧ z' ≤ z + 1000000000000 ∧ Calm kk p.d p'.d :=
 ⟨U, z, p, by rw [set_self hi]; exact h.later b, hl, Go4.of_below b, by omega, fun _ h1 h2 => ⟨h1, h2⟩⟩
set_option maxRecDepth 100000 in
set_option maxHeartbeats 4000000 in
theorem tells_size (hk : o.kind = 7) (h : Ws w wB U z qs) (hi : qs[i]? = some p) (hl : Lk p.d p.r) (ho : RdOp w U o) : Calls Try.prog 38 #[.pointer (some ⟨wB, 0, none⟩), o.val, .pointer (some ⟨p.dB, 0, none⟩), .pointer (some ⟨p.rB, 0, none⟩)] w (ActsP w wB U z qs i o.kind p.d) := by
 obtain ⟨A0, B0, dB, rB, d, r⟩ := p
 have hq : ∃ q, q = szR4 d o.nm := ⟨_, rfl⟩
 obtain ⟨q, hq⟩ := hq
 have hqr : q = szR4 r o.nm := by rw [hq]; exact size_lk hl o.nm
 have HQ := Lib.hid (And.intro hq hqr)
 clear hq hqr
 obtain ⟨nn, ee⟩ := q
 have HL := Lib.hid hl
 clear hl
 have nb : ¬ U w.heap.size := fun q => Nat.lt_irrefl _ (h.lt _ q)
 have NB := Lib.hid nb
 clear nb
 have HK := Lib.hid hk
 clear hk
 have HW := Lib.hid h
 have HI := Lib.hid hi
 have HO := Lib.hid ho
 clear h hi ho
 unfold OpD.val
 simp only
 go_enter Try.func38, Try.ntmps38
 go_upto_region 1 with fail
 have hX : ∃ X, X = w.alloc (.cells #[.int .i64 o.kind, .int .i64 o.obj, .string o.nm, .string o.nt, .slice o.aB o.nB o.kB, .int .i64 o.pos, .int .i64 o.num, .slice o.aC o.nC o.kC, .slice o.aF o.nF o.kF] 30) := ⟨_, rfl⟩
 obtain ⟨X, hX⟩ := hX
 have bx : OBox X w.heap.size o := by rw [hX]; exact heap_new _ _
 have bA : Below w.heap.size w X := by rw [hX]; exact (Below.refl _ _).alloc (Nat.le_refl _) _
 rw [← hX]
 clear hX
 have hbo : ∃ bo, bo = w.heap.size := ⟨_, rfl⟩
 obtain ⟨bo, hbo⟩ := hbo
 rw [← hbo] at bx ⊢
 rw [← hbo] at NB
 have HX := Lib.hid (And.intro bx bA)
 have W1 := Lib.hid (HW.out.later bA)
 have c0 := bx.cells.1
 rw [HK.out] at c0
 clear bx bA hbo
 go_upto_region 9 with fail
 clear c0
 have T2 := Lib.hid (W1.out.pr HI.out)
 have q2 := HX.out.1.cells.2.2.1
 have HC := size4_any (s := o.nm) T2.out.1.dsk
 simp only at HC
 rw [← HQ.out.1] at HC
 have HCC := Lib.hid HC
 clear HC
 go_wp2_with fail
 refine HCC.out.mono ?_
 rintro e9 Z1 ⟨he9, b1⟩
 subst he9
 have HB1 := Lib.hid (HX.out.1.later b1)
 have W2 := Lib.hid (W1.out.later b1)
 have B1 := Lib.hid (HX.out.2.trans (b1.mono HX.out.2.size))
 clear b1 q2 HCC
 have q2 := HB1.out.cells.2.2.1
 have HC := rSize_any (s := o.nm) (W2.out.pr HI.out).1.rd
 simp only at HC
 rw [← HQ.out.2] at HC
 have HCC := Lib.hid HC
 clear HC
 go_wp2_with fail
 refine HCC.out.mono ?_
 rintro e10 Z2 ⟨he10, b2⟩
 subst he10
 have HBF := Lib.hid (B1.out.trans (b2.mono B1.out.size))
 clear b2 q2 HCC
 go_wp2_with fail
 refine (num4_any _ _).mono ?_
 rintro e11 Z3 ⟨he11, hz3⟩
 subst he11
 rw [hz3]
 clear hz3
 go_wp2
 go_ret
 exact ⟨rfl, HW.out.quiet HI.out HL.out HBF.out⟩
set_option maxRecDepth 100000 in
set_option maxHeartbeats 4000000 in
theorem tells_free (hk : o.kind = 9) (h : Ws w wB U z qs) (hi : qs[i]? = some p) (hl : Lk p.d p.r) (ho : RdOp w U o) : Calls Try.prog 38 #[.pointer (some ⟨wB, 0, none⟩), o.val, .pointer (some ⟨p.dB, 0, none⟩), .pointer (some ⟨p.rB, 0, none⟩)] w (ActsP w wB U z qs i o.kind p.d) := by
 obtain ⟨A0, B0, dB, rB, d, r⟩ := p
 have hq : ∃ q, q = d.cap - (totP d.fs : Int) := ⟨_, rfl⟩
 obtain ⟨q, hq⟩ := hq
 have hqr : q = r.cap - (totP r.fs : Int) := by rw [hq, hl.cap, tot_lk hl]
 have HQ := Lib.hid (And.intro hq hqr)
 clear hq hqr
 have HL := Lib.hid hl
 clear hl
 have nb : ¬ U w.heap.size := fun q => Nat.lt_irrefl _ (h.lt _ q)
 have NB := Lib.hid nb
 clear nb
 have HK := Lib.hid hk
 clear hk
 have HW := Lib.hid h
 have HI := Lib.hid hi
 have HO := Lib.hid ho
 clear h hi ho
 unfold OpD.val
 simp only
 go_enter Try.func38, Try.ntmps38
 go_upto_region 1 with fail
 have hX : ∃ X, X = w.alloc (.cells #[.int .i64 o.kind, .int .i64 o.obj, .string o.nm, .string o.nt, .slice o.aB o.nB o.kB, .int .i64 o.pos, .int .i64 o.num, .slice o.aC o.nC o.kC, .slice o.aF o.nF o.kF] 30) := ⟨_, rfl⟩
 obtain ⟨X, hX⟩ := hX
 have bx : OBox X w.heap.size o := by rw [hX]; exact heap_new _ _
 have bA : Below w.heap.size w X := by rw [hX]; exact (Below.refl _ _).alloc (Nat.le_refl _) _
 rw [← hX]
 clear hX
 have hbo : ∃ bo, bo = w.heap.size := ⟨_, rfl⟩
 obtain ⟨bo, hbo⟩ := hbo
 rw [← hbo] at bx ⊢
 rw [← hbo] at NB
 have HX := Lib.hid (And.intro bx bA)
 have W1 := Lib.hid (HW.out.later bA)
 have c0 := bx.cells.1
 rw [HK.out] at c0
 clear bx bA hbo
 go_upto_region 22 with fail
 clear c0
 have T2 := Lib.hid (W1.out.pr HI.out)
 have HC := free_dsk T2.out.1.dsk
 simp only at HC
 rw [← HQ.out.1] at HC
 have HCC := Lib.hid HC
 clear HC
 go_wp2_with fail
 refine HCC.out.mono ?_
 rintro e9 Z1 ⟨he9, b1⟩
 subst he9
 have W2 := Lib.hid (W1.out.later b1)
 have B1 := Lib.hid (HX.out.2.trans (b1.mono HX.out.2.size))
 clear b1 HCC
 have HC := rFree_any (W2.out.pr HI.out).1.rd
 simp only at HC
 rw [← HQ.out.2] at HC
 have HCC := Lib.hid HC
 clear HC
 go_wp2_with fail
 refine HCC.out.mono ?_
 rintro e10 Z2 ⟨he10, b2⟩
 subst he10
 have HBF := Lib.hid (B1.out.trans (b2.mono B1.out.size))
 clear b2 HCC
 go_wp2
 go_ret
 exact ⟨rfl, HW.out.quiet HI.out HL.out HBF.out⟩
set_option maxRecDepth 100000 in
set_option maxHeartbeats 4000000 in
theorem tells_cap (hk : o.kind = 10) (h : Ws w wB U z qs) (hi : qs[i]? = some p) (hl : Lk p.d p.r) (ho : RdOp w U o) : Calls Try.prog 38 #[.pointer (some ⟨wB, 0, none⟩), o.val, .pointer (some ⟨p.dB, 0, none⟩), .pointer (some ⟨p.rB, 0, none⟩)] w (ActsP w wB U z qs i o.kind p.d) := by
 obtain ⟨A0, B0, dB, rB, d, r⟩ := p
 have hq : ∃ q, q = d.cap := ⟨_, rfl⟩
 obtain ⟨q, hq⟩ := hq
 have hqr : q = r.cap := by rw [hq]; exact hl.cap
 have HQ := Lib.hid (And.intro hq hqr)
 clear hq hqr
 have HL := Lib.hid hl
 clear hl
 have nb : ¬ U w.heap.size := fun q => Nat.lt_irrefl _ (h.lt _ q)
 have NB := Lib.hid nb
 clear nb
 have HK := Lib.hid hk
 clear hk
 have HW := Lib.hid h
 have HI := Lib.hid hi
 have HO := Lib.hid ho
 clear h hi ho
 unfold OpD.val
 simp only
 go_enter Try.func38, Try.ntmps38
 go_upto_region 1 with fail
 have hX : ∃ X, X = w.alloc (.cells #[.int .i64 o.kind, .int .i64 o.obj, .string o.nm, .string o.nt, .slice o.aB o.nB o.kB, .int .i64 o.pos, .int .i64 o.num, .slice o.aC o.nC o.kC, .slice o.aF o.nF o.kF] 30) := ⟨_, rfl⟩
 obtain ⟨X, hX⟩ := hX
 have bx : OBox X w.heap.size o := by rw [hX]; exact heap_new _ _
 have bA : Below w.heap.size w X := by rw [hX]; exact (Below.refl _ _).alloc (Nat.le_refl _) _
 rw [← hX]
 clear hX
 have hbo : ∃ bo, bo = w.heap.size := ⟨_, rfl⟩
 obtain ⟨bo, hbo⟩ := hbo
 rw [← hbo] at bx ⊢
 rw [← hbo] at NB
 have HX := Lib.hid (And.intro bx bA)
 have W1 := Lib.hid (HW.out.later bA)
 have c0 := bx.cells.1
 rw [HK.out] at c0
 clear bx bA hbo
 go_upto_region 24 with fail
 clear c0
 have BD : Below X.heap.size X X.drew := (Below.refl _ _).drew
 have W2 := Lib.hid (W1.out.later BD)
 have hbx := (W2.out.pr HI.out).1.rd.box
 obtain ⟨fv, hbx⟩ := hbx
 simp only at hbx
 rw [← HQ.out.2] at hbx
 have B2 := Lib.hid (HX.out.2.trans (BD.mono HX.out.2.size))
 refine wp_region_noPanic ?_
 refine wp_region_anyE (S := fun wx => RBox wx rB q fv r.down r.arm r.c) (E := fun j => true) (by kernel_rfl) ?_
 have hHeld : RBox X.drew rB q fv r.down r.arm r.c := hbx
 have hZ0 : ∃ z, z = X.drew := ⟨_, rfl⟩
 obtain ⟨Z0, hZ0⟩ := hZ0
 rw [← hZ0] at W2 B2 hHeld ⊢
 clear hZ0 BD hbx
 refine AnyE.take (i := 0) (.pointer (some ⟨dB, 0, none⟩)) rfl (by kernel_rfl) (by kernel_rfl) (by kernel_rfl) (by kernel_rfl) (fun _ _ _ h => h) (.inl ⟨by kernel_rfl, fun wy hy => by (go_simp; done)⟩) hHeld ?_
 try simp only [Act.put, List.setIfInBounds_toArray, List.set_cons_zero, List.set_cons_succ]
 refine AnyE.take (i := 2) (.pointer (some ⟨rB, 0, none⟩)) rfl (by kernel_rfl) (by kernel_rfl) (by kernel_rfl) (by kernel_rfl) (fun _ _ _ h => h) (.inl ⟨by kernel_rfl, fun wy hy => by (go_simp; done)⟩) hHeld ?_
 try simp only [Act.put, List.setIfInBounds_toArray, List.set_cons_zero, List.set_cons_succ]
 refine AnyE.take (i := 3) (.pointer (some ⟨rB, 0, none⟩)) rfl (by kernel_rfl) (by kernel_rfl) (by kernel_rfl) (by kernel_rfl) (fun _ _ _ h => h) (.inl ⟨by kernel_rfl, fun wy hy => by (go_simp; done)⟩) hHeld ?_
 try simp only [Act.put, List.setIfInBounds_toArray, List.set_cons_zero, List.set_cons_succ]
 refine AnyE.take (i := 4) (.pointer (some ⟨rB, 0, none⟩)) rfl (by kernel_rfl) (by kernel_rfl) (by kernel_rfl) (by kernel_rfl) (fun _ _ _ h => h) (.inl ⟨by kernel_rfl, fun wy hy => by (go_simp; done)⟩) hHeld ?_
 try simp only [Act.put, List.setIfInBounds_toArray, List.set_cons_zero, List.set_cons_succ]
 refine AnyE.take (i := 5) (.int .i64 q) rfl (by kernel_rfl) (by kernel_rfl) (by kernel_rfl) (by kernel_rfl) (fun _ _ _ h => h) (.inl ⟨by kernel_rfl, fun wy hy => by (have q0 := hy.cells.1; go_simp; done)⟩) hHeld ?_
 try simp only [Act.put, List.setIfInBounds_toArray, List.set_cons_zero, List.set_cons_succ]
 refine AnyE.one (i := 1) rfl (by kernel_rfl) (by kernel_rfl) (fun KK hK => ?_)
 go_simp
 go_at_call 28
 have HC := cap_any (W2.out.pr HI.out).1.dsk
 simp only at HC
 rw [← HQ.out.1] at HC
 refine HC.mono ?_
 rintro e9 Z1 ⟨he9, hz1⟩
 subst he9
 rw [hz1]
 clear hz1 HC
 go_wp2_with fail
 refine hK.out _ _ ⟨fun _ => hHeld, ?_⟩
 clear hK
 try simp only [Act.put, List.setIfInBounds_toArray, List.set_cons_zero, List.set_cons_succ]
 refine AnyE.one (i := 6) rfl (by kernel_rfl) (by kernel_rfl) (fun KK hK => ?_)
 go_simp
 refine hK.out _ _ ⟨fun _ => hHeld, ?_⟩
 clear hK
 try simp only [Act.put, List.setIfInBounds_toArray, List.set_cons_zero, List.set_cons_succ]
 refine AnyE.one (i := 7) rfl (by kernel_rfl) (by kernel_rfl) (fun KK hK => ?_)
 go_simp
 refine hK.out _ _ ⟨fun _ => hHeld, ?_⟩
 clear hK
 try simp only [Act.put, List.setIfInBounds_toArray, List.set_cons_zero, List.set_cons_succ]
 refine AnyE.done (by kernel_rfl) (NoPanic.normal ?_) _
 have HBF := B2
 clear hHeld
 go_simp
 go_step
 go_wp2
 go_ret
 exact ⟨rfl, HW.out.quiet HI.out HL.out HBF.out⟩
set_option maxRecDepth 100000 in
set_option maxHeartbeats 4000000 in
theorem tells_down (hk : o.kind = 12) (h : Ws w wB U z qs) (hi : qs[i]? = some p) (hl : Lk p.d p.r) (ho : RdOp w U o) : Calls Try.prog 38 #[.pointer (some ⟨wB, 0, none⟩), o.val, .pointer (some ⟨p.dB, 0, none⟩), .pointer (some ⟨p.rB, 0, none⟩)] w (ActsP w wB U z qs i o.kind p.d) := by
 obtain ⟨A0, B0, dB, rB, d, r⟩ := p
 have hq : ∃ q, q = d.down := ⟨_, rfl⟩
 obtain ⟨q, hq⟩ := hq
 have hqr : q = r.down := by rw [hq]; exact hl.down
 have HQ := Lib.hid (And.intro hq hqr)
 clear hq hqr
 have HL := Lib.hid hl
 clear hl
 have nb : ¬ U w.heap.size := fun q => Nat.lt_irrefl _ (h.lt _ q)
 have NB := Lib.hid nb
 clear nb
 have HK := Lib.hid hk
 clear hk
 have HW := Lib.hid h
 have HI := Lib.hid hi
 have HO := Lib.hid ho
 clear h hi ho
 unfold OpD.val
 simp only
 go_enter Try.func38, Try.ntmps38
 go_upto_region 1 with fail
 have hX : ∃ X, X = w.alloc (.cells #[.int .i64 o.kind, .int .i64 o.obj, .string o.nm, .string o.nt, .slice o.aB o.nB o.kB, .int .i64 o.pos, .int .i64 o.num, .slice o.aC o.nC o.kC, .slice o.aF o.nF o.kF] 30) := ⟨_, rfl⟩
 obtain ⟨X, hX⟩ := hX
 have bx : OBox X w.heap.size o := by rw [hX]; exact heap_new _ _
 have bA : Below w.heap.size w X := by rw [hX]; exact (Below.refl _ _).alloc (Nat.le_refl _) _
 rw [← hX]
 clear hX
 have hbo : ∃ bo, bo = w.heap.size := ⟨_, rfl⟩
 obtain ⟨bo, hbo⟩ := hbo
 rw [← hbo] at bx ⊢
 rw [← hbo] at NB
 have HX := Lib.hid (And.intro bx bA)
 have W1 := Lib.hid (HW.out.later bA)
 have c0 := bx.cells.1
 rw [HK.out] at c0
 clear bx bA hbo
 go_upto_region 26 with fail
 clear c0
 have BD : Below X.heap.size X X.drew := (Below.refl _ _).drew
 have W2 := Lib.hid (W1.out.later BD)
 have hbx := (W2.out.pr HI.out).1.rd.box
 obtain ⟨fv, hbx⟩ := hbx
 simp only at hbx
 rw [← HQ.out.2] at hbx
 have B2 := Lib.hid (HX.out.2.trans (BD.mono HX.out.2.size))
 refine wp_region_noPanic ?_
 refine wp_region_anyE (S := fun wx => RBox wx rB r.cap fv q r.arm r.c) (E := fun j => true) (by kernel_rfl) ?_
 have hHeld : RBox X.drew rB r.cap fv q r.arm r.c := hbx
 have hZ0 : ∃ z, z = X.drew := ⟨_, rfl⟩
 obtain ⟨Z0, hZ0⟩ := hZ0
 rw [← hZ0] at W2 B2 hHeld ⊢
 clear hZ0 BD hbx
 refine AnyE.take (i := 0) (.pointer (some ⟨dB, 0, none⟩)) rfl (by kernel_rfl) (by kernel_rfl) (by kernel_rfl) (by kernel_rfl) (fun _ _ _ h => h) (.inl ⟨by kernel_rfl, fun wy hy => by (go_simp; done)⟩) hHeld ?_
 try simp only [Act.put, List.setIfInBounds_toArray, List.set_cons_zero, List.set_cons_succ]
 refine AnyE.take (i := 2) (.pointer (some ⟨rB, 0, none⟩)) rfl (by kernel_rfl) (by kernel_rfl) (by kernel_rfl) (by kernel_rfl) (fun _ _ _ h => h) (.inl ⟨by kernel_rfl, fun wy hy => by (go_simp; done)⟩) hHeld ?_
 try simp only [Act.put, List.setIfInBounds_toArray, List.set_cons_zero, List.set_cons_succ]
 refine AnyE.take (i := 3) (.pointer (some ⟨rB, 0, none⟩)) rfl (by kernel_rfl) (by kernel_rfl) (by kernel_rfl) (by kernel_rfl) (fun _ _ _ h => h) (.inl ⟨by kernel_rfl, fun wy hy => by (go_simp; done)⟩) hHeld ?_
 try simp only [Act.put, List.setIfInBounds_toArray, List.set_cons_zero, List.set_cons_succ]
 refine AnyE.take (i := 4) (.pointer (some ⟨rB, 2, none⟩)) rfl (by kernel_rfl) (by kernel_rfl) (by kernel_rfl) (by kernel_rfl) (fun _ _ _ h => h) (.inl ⟨by kernel_rfl, fun wy hy => by (go_simp; done)⟩) hHeld ?_
 try simp only [Act.put, List.setIfInBounds_toArray, List.set_cons_zero, List.set_cons_succ]
 refine AnyE.take (i := 5) (.bool q) rfl (by kernel_rfl) (by kernel_rfl) (by kernel_rfl) (by kernel_rfl) (fun _ _ _ h => h) (.inl ⟨by kernel_rfl, fun wy hy => by (have q0 := hy.cells.2.2.1; go_simp; done)⟩) hHeld ?_
 try simp only [Act.put, List.setIfInBounds_toArray, List.set_cons_zero, List.set_cons_succ]
 refine AnyE.one (i := 1) rfl (by kernel_rfl) (by kernel_rfl) (fun KK hK => ?_)
 go_simp
 go_at_call 14
 have HC := down_any (W2.out.pr HI.out).1.dsk
 simp only at HC
 rw [← HQ.out.1] at HC
 refine HC.mono ?_
 rintro e9 Z1 ⟨he9, hz1⟩
 subst he9
 rw [hz1]
 clear hz1 HC
 go_wp2_with fail
 refine hK.out _ _ ⟨fun _ => hHeld, ?_⟩
 clear hK
 try simp only [Act.put, List.setIfInBounds_toArray, List.set_cons_zero, List.set_cons_succ]
 refine AnyE.one (i := 6) rfl (by kernel_rfl) (by kernel_rfl) (fun KK hK => ?_)
 go_simp
 refine hK.out _ _ ⟨fun _ => hHeld, ?_⟩
 clear hK
 try simp only [Act.put, List.setIfInBounds_toArray, List.set_cons_zero, List.set_cons_succ]
 refine AnyE.one (i := 7) rfl (by kernel_rfl) (by kernel_rfl) (fun KK hK => ?_)
 go_simp
 refine hK.out _ _ ⟨fun _ => hHeld, ?_⟩
 clear hK
 try simp only [Act.put, List.setIfInBounds_toArray, List.set_cons_zero, List.set_cons_succ]
 refine AnyE.done (by kernel_rfl) (NoPanic.normal ?_) _
 have HBF := B2
 clear hHeld
 go_simp
 go_step
 go_wp2
 go_ret
 exact ⟨rfl, HW.out.quiet HI.out HL.out HBF.out⟩
set_option maxRecDepth 100000 in
set_option maxHeartbeats 4000000 in
theorem tells_read (hk : o.kind = 6) (h : Ws w wB U z qs) (hi : qs[i]? = some p) (hl : Lk p.d p.r) (ho : RdOp w U o) (hz : z + 1000000000000 ≤ 4611686018427387904) : Calls Try.prog 38 #[.pointer (some ⟨wB, 0, none⟩), o.val, .pointer (some ⟨p.dB, 0, none⟩), .pointer (some ⟨p.rB, 0, none⟩)] w (ActsP w wB U z qs i o.kind p.d) := by
 obtain ⟨A0, B0, dB, rB, d, r⟩ := p
 have hq : ∃ q, q = readD d o.nm o.pos o.num := ⟨_, rfl⟩
 obtain ⟨q, hq⟩ := hq
 have hqr : q = readD r o.nm o.pos o.num := by rw [hq]; exact read_lk hl o.nm o.pos o.num
 have HBY : Hid (Bys q.2) := by rw [hq]; exact (h.pr hi).1.dsk.bysR o.nm o.pos o.num
 have hlen : q.2.length ≤ 67108864 := by rw [hq]; exact readD_len (h.pr hi).1.dsk.1 o.nm o.pos o.num
 have HQ := Lib.hid (And.intro hq hqr)
 have HZ := Lib.hid hz
 clear hq hqr hz
 obtain ⟨ee, bs⟩ := q
 simp only at HBY hlen
 have hbb : ∃ bb, bb = decide (ee = 0) := ⟨_, rfl⟩
 obtain ⟨bb, hbb⟩ := hbb
 have LK2 := Lib.hid (red_lk hl bb)
 have HBB := Lib.hid hbb
 have hnv : ∃ nv, nv = bs.length := ⟨_, rfl⟩
 obtain ⟨nv, hnv⟩ := hnv
 rw [← hnv] at hlen
 have HNV := Lib.hid hnv
 clear hbb hnv
 have HL := Lib.hid hl
 clear hl
 have nb : ¬ U w.heap.size := fun q => Nat.lt_irrefl _ (h.lt _ q)
 have NB := Lib.hid nb
 clear nb
 have HK := Lib.hid hk
 clear hk
 have HW := Lib.hid h
 have HI := Lib.hid hi
 have HO := Lib.hid ho
 clear h hi ho
 unfold OpD.val
 simp only
 go_enter Try.func38, Try.ntmps38
 go_upto_region 1 with fail
 have hX : ∃ X, X = w.alloc (.cells #[.int .i64 o.kind, .int .i64 o.obj, .string o.nm, .string o.nt, .slice o.aB o.nB o.kB, .int .i64 o.pos, .int .i64 o.num, .slice o.aC o.nC o.kC, .slice o.aF o.nF o.kF] 30) := ⟨_, rfl⟩
 obtain ⟨X, hX⟩ := hX
 have bx : OBox X w.heap.size o := by rw [hX]; exact heap_new _ _
 have bA : Below w.heap.size w X := by rw [hX]; exact (Below.refl _ _).alloc (Nat.le_refl _) _
 rw [← hX]
 clear hX
 have hbo : ∃ bo, bo = w.heap.size := ⟨_, rfl⟩
 obtain ⟨bo, hbo⟩ := hbo
 rw [← hbo] at bx ⊢
 rw [← hbo] at NB
 have HX := Lib.hid (And.intro bx bA)
 have W1 := Lib.hid (HW.out.later bA)
 have c0 := bx.cells.1
 rw [HK.out] at c0
 clear bx bA hbo
 go_upto_region 3 with fail
 clear c0
 have T2 := Lib.hid (W1.out.pr HI.out)
 have q2 := HX.out.1.cells.2.2.1
 have q5 := HX.out.1.cells.2.2.2.2.2.1
 have q6 := HX.out.1.cells.2.2.2.2.2.2.1
 have HC := read_any (s := o.nm) (x := o.pos) (y := o.num) T2.out.1.dsk HO.out.po.2 HO.out.nu.2
 simp only at HC
 rw [← HQ.out.1] at HC
 simp only at HC
 rw [← HNV.out, ← HBB.out] at HC
 have HCC := Lib.hid HC
 clear HC
 go_wp2_with fail
 refine HCC.out.mono ?_
 rintro e9 Z1 ⟨v1, he9, own1, k1, g1⟩
 subst he9
 have hform := own_form own1
 obtain ⟨a1, hform⟩ := hform
 obtain ⟨c1, hform⟩ := hform
 subst hform
 have st := T5.stepD T2.out.1 k1 g1
 have s1 := W1.out.same (p' := ⟨A0, B0, dB, rB, d.red bb, r⟩) HI.out st.1 rfl rfl st.2 (fun x hx => hx)
 have W2 := Lib.hid s1.1
 have HB1 := Lib.hid (HX.out.1.go s1.2 NB.out)
 have G1 := Lib.hid ((Go4.of_below (O := U) HX.out.2).trans s1.2)
 have OW1 := Lib.hid own1
 clear own1 k1 g1 st s1 q2 q5 q6 HCC
 have q2 := HB1.out.1.cells.2.2.1
 have q5 := HB1.out.1.cells.2.2.2.2.2.1
 have q6 := HB1.out.1.cells.2.2.2.2.2.2.1
 have T3 := Lib.hid (W2.out.pr (set_at HI.out))
 have HC := rRead_any (s := o.nm) (x := o.pos) (y := o.num) T3.out.1.rd HO.out.po.2 HO.out.nu.2
 simp only at HC
 rw [← HQ.out.2] at HC
 simp only at HC
 rw [← HNV.out, ← HBB.out] at HC
 have HCC := Lib.hid HC
 clear HC
 go_wp2_with fail
 refine HCC.out.mono ?_
 rintro e10 Z2 ⟨v2, he10, own2, k2, g2⟩
 subst he10
 have hform := own_form own2
 obtain ⟨a2, hform⟩ := hform
 obtain ⟨c2, hform⟩ := hform
 subst hform
 have st := T5.stepR T3.out.1 k2 g2
 have s1 := W2.out.same (p' := ⟨A0, B0, dB, rB, d.red bb, r.red bb⟩) (set_at HI.out) st.1 rfl rfl st.2 (fun x hx => hx)
 rw [List.set_set] at s1
 have W3 := Lib.hid s1.1
 have G2 := Lib.hid (G1.out.trans s1.2)
 have NV : Hid (∀ g, (Value.slice a1 nv c1).ownBlock = some g → ¬ U g) := fun g e q => by have h1 := (OW1.out.lt g e).1; have h2 := HW.out.lt g q; have := HX.out.2.size; omega
 have OW3 := Lib.hid (row_keep OW1.out (fun g e => s1.2.block g (row_lt OW1.out e) (NV.out g e)))
 have OW2 := Lib.hid own2
 have R1 : Hid (Rd Z2 (.slice a1 nv c1) bs) := Rd.of_owns HNV.out OW3.out HBY.out (by have := HNV.out; omega)
 have R2 : Hid (Rd Z2 (.slice a2 nv c2) bs) := Rd.of_owns HNV.out OW2.out HBY.out (by have := HNV.out; omega)
 clear own2 k2 g2 st s1 q2 q5 q6 HCC
 go_wp2_with fail
 refine (same_self R1.out R2.out).mono ?_
 rintro e11 Z3 ⟨he11, hz3⟩
 subst he11
 rw [hz3]
 clear hz3
 go_wp2_with fail
 refine (W3.out.take (a := a1) (m := nv) (c := c1) (bs := bs) ⟨HNV.out, ownsRow_less OW3.out (Nat.zero_le _)⟩ (by omega) NV.out (by have := HZ.out; omega)).mono ?_
 rintro e12 Z4 ⟨he12, U4, w4, g4⟩
 subst he12
 have W4 := Lib.hid w4
 have G4 := Lib.hid ((G2.out.more (Q := fun i => (Value.slice a1 nv c1).ownBlock = some i) (fun i e => by have h1 := (OW1.out.lt i e).1; have := HX.out.2.size; omega)).trans g4)
 clear w4 g4
 go_wp2_with fail
 refine (num4_any _ _).mono ?_
 rintro e13 Z5 ⟨he13, hz5⟩
 subst he13
 rw [hz5]
 clear hz5
 go_wp2
 go_ret
 exact ⟨rfl, U4, _, _, W4.out, LK2.out, G4.out, by omega, fun _ h1 h2 => by unfold Dk4.red; split <;> exact ⟨h1, h2⟩⟩
end Go.Proofs.Ytlkhphhmhffdjaa

namespace Go.Proofs.Ytlkhphhmhffdjaa
open Go.RowKit Go.MapKept Go.Sort
variable {w w' W X : World} {O O' U U' : Nat → Prop} {wB i : Nat} {z : Int} {qs : List Pr4} {o : OpD} {p : Pr4}
set_option maxRecDepth 100000 in
set_option maxHeartbeats 4000000 in
theorem tells_counts (hk : o.kind = 16) (h : Ws w wB U z qs) (hi : qs[i]? = some p) (hl : Lk p.d p.r) (ho : RdOp w U o) : Calls Try.prog 38 #[.pointer (some ⟨wB, 0, none⟩), o.val, .pointer (some ⟨p.dB, 0, none⟩), .pointer (some ⟨p.rB, 0, none⟩)] w (ActsP w wB U z qs i o.kind p.d) := by
 obtain ⟨A0, B0, dB, rB, d, r⟩ := p
 have hq : ∃ q, q = d.c := ⟨_, rfl⟩
 obtain ⟨q, hq⟩ := hq
 have hqr : q = r.c := by rw [hq]; exact hl.c
 have HQ := Lib.hid (And.intro hq hqr)
 clear hq hqr
 have HL := Lib.hid hl
 clear hl
 have nb : ¬ U w.heap.size := fun q => Nat.lt_irrefl _ (h.lt _ q)
 have NB := Lib.hid nb
 clear nb
 have HK := Lib.hid hk
 clear hk
 have HW := Lib.hid h
 have HI := Lib.hid hi
 have HO := Lib.hid ho
 clear h hi ho
 unfold OpD.val
 simp only
 go_enter Try.func38, Try.ntmps38
 go_upto_region 1 with fail
 have hX : ∃ X, X = w.alloc (.cells #[.int .i64 o.kind, .int .i64 o.obj, .string o.nm, .string o.nt, .slice o.aB o.nB o.kB, .int .i64 o.pos, .int .i64 o.num, .slice o.aC o.nC o.kC, .slice o.aF o.nF o.kF] 30) := ⟨_, rfl⟩
 obtain ⟨X, hX⟩ := hX
 have bx : OBox X w.heap.size o := by rw [hX]; exact heap_new _ _
 have bA : Below w.heap.size w X := by rw [hX]; exact (Below.refl _ _).alloc (Nat.le_refl _) _
 rw [← hX]
 clear hX
 have hbo : ∃ bo, bo = w.heap.size := ⟨_, rfl⟩
 obtain ⟨bo, hbo⟩ := hbo
 rw [← hbo] at bx ⊢
 rw [← hbo] at NB
 have HX := Lib.hid (And.intro bx bA)
 have W1 := Lib.hid (HW.out.later bA)
 have c0 := bx.cells.1
 rw [HK.out] at c0
 clear bx bA hbo
 go_upto_region 37 with fail
 clear c0
 have BD : Below X.heap.size X X.drew := (Below.refl _ _).drew
 have W2 := Lib.hid (W1.out.later BD)
 have hbx := (W2.out.pr HI.out).1.rd.box
 obtain ⟨fv, hbx⟩ := hbx
 simp only at hbx
 rw [← HQ.out.2] at hbx
 have B2 := Lib.hid (HX.out.2.trans (BD.mono HX.out.2.size))
 refine wp_region_noPanic ?_
 refine wp_region_anyE (S := fun wx => RBox wx rB r.cap fv r.down r.arm q) (E := fun j => true) (by kernel_rfl) ?_
 have hHeld : RBox X.drew rB r.cap fv r.down r.arm q := hbx
 have HHB := Lib.hid hHeld
 have hZ0 : ∃ z, z = X.drew := ⟨_, rfl⟩
 obtain ⟨Z0, hZ0⟩ := hZ0
 rw [← hZ0] at W2 B2 HHB hHeld ⊢
 clear hZ0 BD hbx
 refine AnyE.take (i := 0) (.pointer (some ⟨dB, 0, none⟩)) rfl (by kernel_rfl) (by kernel_rfl) (by kernel_rfl) (by kernel_rfl) (fun _ _ _ h => h) (.inl ⟨by kernel_rfl, fun wy hy => by (go_simp; done)⟩) hHeld ?_
 try simp only [Act.put, List.setIfInBounds_toArray, List.set_cons_zero, List.set_cons_succ]
 refine AnyE.take (i := 2) (.pointer (some ⟨rB, 0, none⟩)) rfl (by kernel_rfl) (by kernel_rfl) (by kernel_rfl) (by kernel_rfl) (fun _ _ _ h => h) (.inl ⟨by kernel_rfl, fun wy hy => by (go_simp; done)⟩) hHeld ?_
 try simp only [Act.put, List.setIfInBounds_toArray, List.set_cons_zero, List.set_cons_succ]
 refine AnyE.take (i := 3) (.pointer (some ⟨rB, 0, none⟩)) rfl (by kernel_rfl) (by kernel_rfl) (by kernel_rfl) (by kernel_rfl) (fun _ _ _ h => h) (.inl ⟨by kernel_rfl, fun wy hy => by (go_simp; done)⟩) hHeld ?_
 try simp only [Act.put, List.setIfInBounds_toArray, List.set_cons_zero, List.set_cons_succ]
 refine AnyE.take (i := 4) (.pointer (some ⟨rB, 4, none⟩)) rfl (by kernel_rfl) (by kernel_rfl) (by kernel_rfl) (by kernel_rfl) (fun _ _ _ h => h) (.inl ⟨by kernel_rfl, fun wy hy => by (go_simp; done)⟩) hHeld ?_
 try simp only [Act.put, List.setIfInBounds_toArray, List.set_cons_zero, List.set_cons_succ]
 refine AnyE.take (i := 5) (.agg #[.int .i64 (q 0), .int .i64 (q 1), .int .i64 (q 2), .int .i64 (q 3), .int .i64 (q 4), .int .i64 (q 5)]) rfl (by kernel_rfl) (by kernel_rfl) (by kernel_rfl) (by kernel_rfl) (fun _ _ _ h => h) (.inl ⟨by kernel_rfl, fun wy hy => by (have q0 := hy.cells.2.2.2.2.1; have q1 := hy.cells.2.2.2.2.2.1; have q2 := hy.cells.2.2.2.2.2.2.1; have q3 := hy.cells.2.2.2.2.2.2.2.1; have q4 := hy.cells.2.2.2.2.2.2.2.2.1; have q5 := hy.cells.2.2.2.2.2.2.2.2.2; go_simp; done)⟩) hHeld ?_
 try simp only [Act.put, List.setIfInBounds_toArray, List.set_cons_zero, List.set_cons_succ]
 refine AnyE.one (i := 1) rfl (by kernel_rfl) (by kernel_rfl) (fun KK hK => ?_)
 go_simp
 go_at_call 17
 have HC := counts4_any (W2.out.pr HI.out).1.dsk
 simp only at HC
 rw [← HQ.out.1] at HC
 refine HC.mono ?_
 rintro e9 Z1 ⟨he9, b1⟩
 subst he9
 have hHeld : RBox Z1 rB r.cap fv r.down r.arm q := HHB.out.kept (b1.block _ HHB.out.lt)
 have B3 := Lib.hid (B2.out.trans (b1.mono B2.out.size))
 clear b1 HC
 unfold ctV
 go_wp2_with fail
 refine hK.out _ _ ⟨fun _ => hHeld, ?_⟩
 clear hK
 try simp only [Act.put, List.setIfInBounds_toArray, List.set_cons_zero, List.set_cons_succ]
 refine AnyE.one (i := 6) rfl (by kernel_rfl) (by kernel_rfl) (fun KK hK => ?_)
 go_simp
 refine hK.out _ _ ⟨fun _ => hHeld, ?_⟩
 clear hK
 try simp only [Act.put, List.setIfInBounds_toArray, List.set_cons_zero, List.set_cons_succ]
 refine AnyE.one (i := 7) rfl (by kernel_rfl) (by kernel_rfl) (fun KK hK => ?_)
 go_simp
 refine hK.out _ _ ⟨fun _ => hHeld, ?_⟩
 clear hK
 try simp only [Act.put, List.setIfInBounds_toArray, List.set_cons_zero, List.set_cons_succ]
 refine AnyE.done (by kernel_rfl) (NoPanic.normal ?_) _
 have HBF := B3
 clear hHeld
 go_simp
 go_step
 go_wp2
 go_ret
 exact ⟨rfl, HW.out.quiet HI.out HL.out HBF.out⟩
end Go.Proofs.Ytlkhphhmhffdjaa
