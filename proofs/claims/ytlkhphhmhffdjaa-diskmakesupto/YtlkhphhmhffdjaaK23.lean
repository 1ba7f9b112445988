import Derived.Test.YtlkhphhmhffdjaaK22
set_option linter.unusedSimpArgs false
set_option linter.unusedVariables false
namespace Go.Proofs.Ytlkhphhmhffdjaa
open Go.RowKit Go.MapKept Go.Sort
variable {w w' W X : World} {O O' U U' : Nat → Prop} {wB i : Nat} {z : Int} {qs : List Pr4} {o : OpD} {p : Pr4}
theorem names_same {a b : Option Addr} {n m ka kb : Nat} {L : List (List UInt8)} (h1 : n = L.length ∧ RdN4 w a ka (L.map ofL)) (h2 : m = L.length ∧ RdN4 w b kb (L.map ofL)) : Calls Try.prog 71 #[.slice a n ka, .slice b m kb] w fun e w' => e = .returned (.bool true) ∧ Below w.heap.size w w' := by
 have hs := sameNames4_any h1.2 h2.2
 rw [decide_eq_true rfl] at hs
 simp only [List.length_map] at hs
 obtain ⟨rfl, _⟩ := h1
 obtain ⟨rfl, _⟩ := h2
 exact hs
set_option maxRecDepth 100000 in
set_option maxHeartbeats 4000000 in
theorem tells_list (hk : o.kind = 8) (h : Ws w wB U z qs) (hi : qs[i]? = some p) (hl : Lk p.d p.r) (ho : RdOp w U o) : Calls Try.prog 38 #[.pointer (some ⟨wB, 0, none⟩), o.val, .pointer (some ⟨p.dB, 0, none⟩), .pointer (some ⟨p.rB, 0, none⟩)] w (ActsP w wB U z qs i o.kind p.d) := by
 obtain ⟨A0, B0, dB, rB, d, r⟩ := p
 have hq : ∃ L, L = lsP d.fs o.nm := ⟨_, rfl⟩
 obtain ⟨L, hq⟩ := hq
 have hqr : L = lsR r.fs o.nm := by rw [hq, ← hl.files (h.pr hi).1.rd.1.2, lsR_files]
 have hlen : L.length ≤ 256 := by
  rw [hq]
  unfold lsP
  rw [List.length_mergeSort, List.length_map]
  refine Nat.le_trans (List.length_filter_le _ _) ?_
  rw [List.length_map]
  exact (h.pr hi).1.dsk.1.cnt
 have HQ := Lib.hid (And.intro hq hqr)
 have HLEN := Lib.hid hlen
 clear hq hqr hlen
 have HL := Lib.hid hl
 clear hl
 have nb : ¬ U w.heap.size := fun q => Nat.lt_irrefl _ (h.lt _ q)
 have NB := Lib.hid nb
 clear nb
 have HK := Lib.hid hk
 clear hk
 have HW := Lib.hid h
 have HI := Lib.hid hi
 have HO := Lib.hid ho
 clear h hi ho
 unfold OpD.val
 simp only
 go_enter Try.func38, Try.ntmps38
 go_upto_region 1 with fail
 have hX : ∃ X, X = w.alloc (.cells #[.int .i64 o.kind, .int .i64 o.obj, .string o.nm, .string o.nt, .slice o.aB o.nB o.kB, .int .i64 o.pos, .int .i64 o.num, .slice o.aC o.nC o.kC, .slice o.aF o.nF o.kF] 30) := ⟨_, rfl⟩
 obtain ⟨X, hX⟩ := hX
 have bx : OBox X w.heap.size o := by rw [hX]; exact heap_new _ _
 have bA : Below w.heap.size w X := by rw [hX]; exact (Below.refl _ _).alloc (Nat.le_refl _) _
 rw [← hX]
 clear hX
 have hbo : ∃ bo, bo = w.heap.size := ⟨_, rfl⟩
 obtain ⟨bo, hbo⟩ := hbo
 rw [← hbo] at bx ⊢
 rw [← hbo] at NB
 have HX := Lib.hid (And.intro bx bA)
 have W1 := Lib.hid (HW.out.later bA)
 have c0 := bx.cells.1
 rw [HK.out] at c0
 clear bx bA hbo
 go_upto_region 13 with fail
 clear c0
 have q2 := HX.out.1.cells.2.2.1
 have HC := list_dsk (W1.out.pr HI.out).1.dsk o.nm
 simp only at HC
 rw [← HQ.out.1] at HC
 have HCC := Lib.hid HC
 clear HC
 go_wp2_with fail
 refine HCC.out.mono ?_
 rintro e9 Z1 ⟨a1, n1, k1, he9, own1, b1⟩
 subst he9
 have HB1 := Lib.hid (HX.out.1.later b1)
 have W2 := Lib.hid (W1.out.later b1)
 have B1 := Lib.hid b1
 have OW1 := Lib.hid own1
 have hn1 : n1 ≤ 256 := by have := own1.1; have := HLEN.out; omega
 clear b1 own1 q2 HCC
 have q2 := HB1.out.cells.2.2.1
 have HC := rList_any (W2.out.pr HI.out).1.rd o.nm
 simp only at HC
 rw [← HQ.out.2] at HC
 have HCC := Lib.hid HC
 clear HC
 go_wp2_with fail
 refine HCC.out.mono ?_
 rintro e10 Z2 ⟨a2, n2, k2, he10, own2, b2⟩
 subst he10
 have B2 := Lib.hid (B1.out.trans (b2.mono B1.out.size))
 have OW2 := Lib.hid (OW1.out.later b2)
 have SM : Hid (Calls Try.prog 71 #[.slice a1 n1 k1, .slice a2 n2 k2] Z2 fun e w' => e = .returned (.bool true) ∧ Below Z2.heap.size Z2 w') := by
  exact names_same OW2.out.rd own2.rd
 clear b2 own2 q2 HCC
 go_wp2_with fail
 refine SM.out.mono ?_
 rintro e11 Z3 ⟨he11, b3⟩
 subst he11
 have B3 := Lib.hid (B2.out.trans (b3.mono B2.out.size))
 have OW3 := Lib.hid (OW2.out.later b3)
 clear b3 SM
 go_wp2_with fail
 go_loopw [20] (fun v wr => ∃ (t : Nat) (ss : List (List UInt8)), t ≤ n1 ∧ v = .int .i64 (t : Int) ∧ OwnS wr X.heap.size (.slice a1 n1 k1) n1 ss ∧ Below X.heap.size X wr) (fun v _ => n1 - (intOf v).toNat)
 case atStart => exact ⟨0, L, Nat.zero_le _, rfl, OW3.out, B3.out⟩
 case round =>
  obtain ⟨t, ss, ht, rfl, ow, bw⟩ := hrel
  have OW := Lib.hid ow
  have BW := Lib.hid bw
  clear ow bw
  by_cases hlt : t < n1
  ·have j1 : (t : Int) < (n1 : Int) := by omega
   have j2 : (0 : Int) ≤ (t : Int) := by omega
   have hga := row_addr OW.out.2 (by omega)
   obtain ⟨gl, hga⟩ := hga
   have hga1 := hga.1
   subst hga1
   have hfz := OW.out.2.frozenAt t
   have hcl : ∃ u, wr.cell? ⟨gl, t, none⟩ = some u := by
    have hl : t < (ss.map encStr).length := by rw [List.length_map]; have := OW.out.1; omega
    exact ⟨(ss.map encStr)[t], (OW.out.2.cellAt t (by omega)).trans (List.getElem?_eq_getElem hl)⟩
   obtain ⟨u, hcl⟩ := hcl
   have HGA := Lib.hid hga.2
   clear hga
   go_upto_region 17 with fail
   have hZ : ∃ Z, Z = wr.setCell ⟨gl, t, none⟩ (.string { data := #[109, 97, 114, 107] }) := ⟨_, rfl⟩
   obtain ⟨Z, hZ⟩ := hZ
   have ow2 : OwnS Z X.heap.size (.slice (some ⟨gl, 0, none⟩) n1 k1) n1 (ss.set t [109, 97, 114, 107]) := by
    rw [hZ]
    refine ⟨by rw [List.length_set]; exact OW.out.1, ?_⟩
    have := row_set4 OW.out.2 (j := t) (by rw [List.length_map]; have := OW.out.1; omega) (.string { data := #[109, 97, 114, 107] })
    rw [List.map_set]
    exact this
   have bw2 : Below X.heap.size X Z := by
    rw [hZ]
    exact ⟨BW.out.os, BW.out.tape, BW.out.output, by simp [World.setCell]; exact BW.out.size, fun k hk => (heap_setCell_other _ _ _ _ (by have := HGA.out.1; simp only; omega)).trans (BW.out.block k hk)⟩
   rw [← hZ]
   have OW2b := Lib.hid ow2
   have BW2 := Lib.hid bw2
   clear hZ ow2 bw2 hcl hfz
   go_wp2
   go_roundw
   case rel => exact ⟨t + 1, _, by omega, by go_num, OW2b.out, BW2.out⟩
   case measure => simp [intOf]; omega
  ·have j1 : (n1 : Int) ≤ (t : Int) := by omega
   clear hlt
   have r2 : (wr.alloc (.cells #[.string { data := #[109, 111, 114, 101] }] 9)).ownsRow X.heap.size 9 1 (.slice a1 n1 k1) n1 (ss.map encStr) := row_keep OW.out.2 (fun g e => ((Below.refl wr.heap.size wr).alloc (Nat.le_refl _) _).block g (row_lt OW.out.2 e))
   have cm : (wr.alloc (.cells #[.string { data := #[109, 111, 114, 101] }] 9)).cell? ⟨wr.heap.size, 0, none⟩ = some (.string { data := #[109, 111, 114, 101] }) := by simp [go_sem]
   have sz : X.heap.size ≤ (wr.alloc (.cells #[.string { data := #[109, 111, 114, 101] }] 9)).heap.size := (BW.out.alloc BW.out.size _).size
   have HR2 := Lib.hid (And.intro r2 (And.intro cm sz))
   clear r2 cm sz
   go_wp2_with (at_builtin; refine dpl_append1 rfl _ _ 9 63 16 (.string ⟨#[]⟩) und_strs4 info_str4 rfl (by decide) rfl X.heap.size a1 n1 k1 (ss.map encStr) rfl HR2.out.1 wr.heap.size (.string { data := #[109, 111, 114, 101] }) rfl HR2.out.2.1 rfl (by omega) HR2.out.2.2 ?_; intro a3 k3 X3 own3 gr3 loc3; refine Hid.out ?_)
   refine Lib.hid ?_
   have hm3 : ∃ m3, m3 = n1 + 1 := ⟨_, rfl⟩
   obtain ⟨m3, hm3⟩ := hm3
   rw [← hm3]
   have jm : (m3 : Int) = (n1 : Int) + 1 := by omega
   have b3 : Below X.heap.size X X3 := by
    have bq : Below X.heap.size X (wr.alloc (.cells #[.string { data := #[109, 111, 114, 101] }] 9)) := BW.out.alloc BW.out.size _
    exact bq.grown gr3 bq.size (fun k hk => (row_lt2 OW.out.2 hk))
   have BX3 := Lib.hid b3
   have hwr : IntKind.i64.wrap ((n1 : Int) + 1) = (n1 : Int) + 1 := IntWalk.i64_in _ ⟨by omega, by omega⟩
   have JM := Lib.hid jm
   have HWR := Lib.hid hwr
   clear own3 gr3 loc3 b3 hm3 jm hwr HR2
   go_upto_region 20 with fail
   have BD : Below X3.heap.size X3 X3.drew := (Below.refl _ _).drew
   have B4 := Lib.hid (BX3.out.trans (BD.mono BX3.out.size))
   refine wp_region_noPanic ?_
   refine wp_region_anyE (S := fun wx => OBox wx bo o) (E := fun j => true) (by kernel_rfl) ?_
   have hHeld : OBox X3.drew bo o := HX.out.1.later B4.out
   have hZ0 : ∃ z, z = X3.drew := ⟨_, rfl⟩
   obtain ⟨Z0, hZ0⟩ := hZ0
   rw [← hZ0] at B4 hHeld ⊢
   clear hZ0 BD
   have jm := JM.out
   have hwr := HWR.out
   refine AnyE.take (i := 0) (.bool true) rfl (by kernel_rfl) (by kernel_rfl) (by kernel_rfl) (by kernel_rfl) (fun _ _ _ h => h) (.inl ⟨by kernel_rfl, fun wy hy => by (go_simp; done)⟩) hHeld ?_
   try simp only [Act.put, List.setIfInBounds_toArray, List.set_cons_zero, List.set_cons_succ]
   refine AnyE.take (i := 1) (.bool true) rfl (by kernel_rfl) (by kernel_rfl) (by kernel_rfl) (by kernel_rfl) (fun _ _ _ h => h) (.inl ⟨by kernel_rfl, fun wy hy => by (go_simp; done)⟩) hHeld ?_
   try simp only [Act.put, List.setIfInBounds_toArray, List.set_cons_zero, List.set_cons_succ]
   refine AnyE.take (i := 2) (.slice a3 m3 k3) rfl (by kernel_rfl) (by kernel_rfl) (by kernel_rfl) (by kernel_rfl) (fun _ _ _ h => h) (.inl ⟨by kernel_rfl, fun wy hy => by (go_simp; done)⟩) hHeld ?_
   try simp only [Act.put, List.setIfInBounds_toArray, List.set_cons_zero, List.set_cons_succ]
   refine AnyE.take (i := 3) (.int .i64 ((n1 : Int) + 1)) rfl (by kernel_rfl) (by kernel_rfl) (by kernel_rfl) (by kernel_rfl) (fun _ _ _ h => h) (.inl ⟨by kernel_rfl, fun wy hy => by (cases a3 <;> go_simp; done)⟩) hHeld ?_
   try simp only [Act.put, List.setIfInBounds_toArray, List.set_cons_zero, List.set_cons_succ]
   refine AnyE.take (i := 4) (.slice a1 n1 k1) rfl (by kernel_rfl) (by kernel_rfl) (by kernel_rfl) (by kernel_rfl) (fun _ _ _ h => h) (.inl ⟨by kernel_rfl, fun wy hy => by (go_simp; done)⟩) hHeld ?_
   try simp only [Act.put, List.setIfInBounds_toArray, List.set_cons_zero, List.set_cons_succ]
   refine AnyE.take (i := 5) (.int .i64 (n1 : Int)) rfl (by kernel_rfl) (by kernel_rfl) (by kernel_rfl) (by kernel_rfl) (fun _ _ _ h => h) (.inl ⟨by kernel_rfl, fun wy hy => by (cases a1 <;> go_simp; done)⟩) hHeld ?_
   try simp only [Act.put, List.setIfInBounds_toArray, List.set_cons_zero, List.set_cons_succ]
   refine AnyE.take (i := 6) (.int .i64 ((n1 : Int) + 1)) rfl (by kernel_rfl) (by kernel_rfl) (by kernel_rfl) (by kernel_rfl) (fun _ _ _ h => h) (.inl ⟨by kernel_rfl, fun wy hy => by (go_simp; done)⟩) hHeld ?_
   try simp only [Act.put, List.setIfInBounds_toArray, List.set_cons_zero, List.set_cons_succ]
   refine AnyE.take (i := 7) (.bool true) rfl (by kernel_rfl) (by kernel_rfl) (by kernel_rfl) (by kernel_rfl) (fun _ _ _ h => h) (.inl ⟨by kernel_rfl, fun wy hy => by (go_simp; done)⟩) hHeld ?_
   try simp only [Act.put, List.setIfInBounds_toArray, List.set_cons_zero, List.set_cons_succ]
   refine AnyE.take (i := 8) (.bool true) rfl (by kernel_rfl) (by kernel_rfl) (by kernel_rfl) (by kernel_rfl) (fun _ _ _ h => h) (.inl ⟨by kernel_rfl, fun wy hy => by (go_simp; done)⟩) hHeld ?_
   try simp only [Act.put, List.setIfInBounds_toArray, List.set_cons_zero, List.set_cons_succ]
   refine AnyE.take (i := 9) (.bool true) rfl (by kernel_rfl) (by kernel_rfl) (by kernel_rfl) (by kernel_rfl) (fun _ _ _ h => h) (.inl ⟨by kernel_rfl, fun wy hy => by (go_simp; done)⟩) hHeld ?_
   try simp only [Act.put, List.setIfInBounds_toArray, List.set_cons_zero, List.set_cons_succ]
   refine AnyE.take (i := 10) (.pointer (some ⟨dB, 0, none⟩)) rfl (by kernel_rfl) (by kernel_rfl) (by kernel_rfl) (by kernel_rfl) (fun _ _ _ h => h) (.inl ⟨by kernel_rfl, fun wy hy => by (go_simp; done)⟩) hHeld ?_
   try simp only [Act.put, List.setIfInBounds_toArray, List.set_cons_zero, List.set_cons_succ]
   refine AnyE.take (i := 11) (.pointer (some ⟨bo, 2, none⟩)) rfl (by kernel_rfl) (by kernel_rfl) (by kernel_rfl) (by kernel_rfl) (fun _ _ _ h => h) (.inl ⟨by kernel_rfl, fun wy hy => by (go_simp; done)⟩) hHeld ?_
   try simp only [Act.put, List.setIfInBounds_toArray, List.set_cons_zero, List.set_cons_succ]
   refine AnyE.take (i := 12) (.string o.nm) rfl (by kernel_rfl) (by kernel_rfl) (by kernel_rfl) (by kernel_rfl) (fun _ _ _ h => h) (.inl ⟨by kernel_rfl, fun wy hy => by (have q0 := hy.cells.2.2.1; go_simp; done)⟩) hHeld ?_
   try simp only [Act.put, List.setIfInBounds_toArray, List.set_cons_zero, List.set_cons_succ]
   refine AnyE.take (i := 14) (.pointer (some ⟨rB, 0, none⟩)) rfl (by kernel_rfl) (by kernel_rfl) (by kernel_rfl) (by kernel_rfl) (fun _ _ _ h => h) (.inl ⟨by kernel_rfl, fun wy hy => by (go_simp; done)⟩) hHeld ?_
   try simp only [Act.put, List.setIfInBounds_toArray, List.set_cons_zero, List.set_cons_succ]
   refine AnyE.take (i := 15) (.pointer (some ⟨bo, 2, none⟩)) rfl (by kernel_rfl) (by kernel_rfl) (by kernel_rfl) (by kernel_rfl) (fun _ _ _ h => h) (.inl ⟨by kernel_rfl, fun wy hy => by (go_simp; done)⟩) hHeld ?_
   try simp only [Act.put, List.setIfInBounds_toArray, List.set_cons_zero, List.set_cons_succ]
   refine AnyE.take (i := 16) (.string o.nm) rfl (by kernel_rfl) (by kernel_rfl) (by kernel_rfl) (by kernel_rfl) (fun _ _ _ h => h) (.inl ⟨by kernel_rfl, fun wy hy => by (have q0 := hy.cells.2.2.1; go_simp; done)⟩) hHeld ?_
   try simp only [Act.put, List.setIfInBounds_toArray, List.set_cons_zero, List.set_cons_succ]
   clear jm hwr
   refine AnyE.one (i := 13) rfl (by kernel_rfl) (by kernel_rfl) (fun KK hK => ?_)
   go_simp
   go_at_call 33
   have HC := list_dsk ((W1.out.later B4.out).pr HI.out).1.dsk o.nm
   simp only at HC
   rw [← HQ.out.1] at HC
   refine HC.mono ?_
   rintro e9 Z5 ⟨a5, n5, k5, he9, own5, b5⟩
   subst he9
   have hHeld1 := hHeld
   have hHeld : OBox Z5 bo o := hHeld1.later b5
   have B5 := Lib.hid (B4.out.trans (b5.mono B4.out.size))
   have OW5 := Lib.hid own5
   clear own5 b5 HC hHeld1
   go_wp2_with fail
   refine hK.out _ _ ⟨fun _ => hHeld, ?_⟩
   clear hK
   try simp only [Act.put, List.setIfInBounds_toArray, List.set_cons_zero, List.set_cons_succ]
   refine AnyE.one (i := 17) rfl (by kernel_rfl) (by kernel_rfl) (fun KK hK => ?_)
   go_simp
   go_at_call 72
   have HC := rList_any ((W1.out.later B5.out).pr HI.out).1.rd o.nm
   simp only at HC
   rw [← HQ.out.2] at HC
   refine HC.mono ?_
   rintro e10 Z6 ⟨a6, n6, k6, he10, own6, b6⟩
   subst he10
   have hHeld1 := hHeld
   have hHeld : OBox Z6 bo o := hHeld1.later b6
   have B6 := Lib.hid (B5.out.trans (b6.mono B5.out.size))
   have OW6 := Lib.hid (OW5.out.later b6)
   have SM : Hid (Calls Try.prog 71 #[.slice a5 n5 k5, .slice a6 n6 k6] Z6 fun e w' => e = .returned (.bool true) ∧ Below Z6.heap.size Z6 w') := by
    exact names_same OW6.out.rd own6.rd
   clear own6 b6 HC hHeld1
   go_wp2_with fail
   refine hK.out _ _ ⟨fun _ => hHeld, ?_⟩
   clear hK
   try simp only [Act.put, List.setIfInBounds_toArray, List.set_cons_zero, List.set_cons_succ]
   refine AnyE.one (i := 18) rfl (by kernel_rfl) (by kernel_rfl) (fun KK hK => ?_)
   go_simp
   go_at_call 71
   refine SM.out.mono ?_
   rintro e11 Z7 ⟨he11, b7⟩
   subst he11
   have hHeld1 := hHeld
   have hHeld : OBox Z7 bo o := hHeld1.later b7
   have B7 := Lib.hid (B6.out.trans (b7.mono B6.out.size))
   clear b7 hHeld1
   go_wp2_with fail
   refine hK.out _ _ ⟨fun _ => hHeld, ?_⟩
   clear hK
   try simp only [Act.put, List.setIfInBounds_toArray, List.set_cons_zero, List.set_cons_succ]
   refine AnyE.one (i := 19) rfl (by kernel_rfl) (by kernel_rfl) (fun KK hK => ?_)
   go_simp
   refine hK.out _ _ ⟨fun _ => hHeld, ?_⟩
   clear hK
   try simp only [Act.put, List.setIfInBounds_toArray, List.set_cons_zero, List.set_cons_succ]
   refine AnyE.one (i := 20) rfl (by kernel_rfl) (by kernel_rfl) (fun KK hK => ?_)
   go_simp
   refine hK.out _ _ ⟨fun _ => hHeld, ?_⟩
   clear hK
   try simp only [Act.put, List.setIfInBounds_toArray, List.set_cons_zero, List.set_cons_succ]
   refine AnyE.done (by kernel_rfl) (NoPanic.normal ?_) _
   have HBF := Lib.hid (HX.out.2.trans (B7.out.mono HX.out.2.size))
   clear hHeld
   go_simp
   go_step
   go_wp2
   go_ret
   exact ⟨rfl, HW.out.quiet HI.out HL.out HBF.out⟩
end Go.Proofs.Ytlkhphhmhffdjaa

namespace Go.Proofs.Ytlkhphhmhffdjaa
open Go.RowKit Go.MapKept Go.Sort
variable {w w' W X : World} {O O' : Nat → Prop} {dB : Nat} {d : Dk4}
structure DidD where
 kind : Int
 file : Int
 too : Int
 a : Option Addr
 n : Nat
 k : Nat
 bs : List Nat
def DidD.act (d : Dk4) (x : DidD) : Int × Dk4 := actD d x.kind x.file x.too x.bs
structure RdDid (w : World) (a : Option Addr) (k : Nat) (xs : List DidD) : Prop where
 cap : xs.length ≤ k ∧ k ≤ maxLen
 cel : ∀ i x, xs[i]? = some x → ∃ g off, a = some ⟨g, off, none⟩ ∧ w.cell? ⟨g, off + i * 4, none⟩ = some (.int .i64 x.kind) ∧ w.cell? ⟨g, off + i * 4 + 1, none⟩ = some (.int .i64 x.file) ∧ w.cell? ⟨g, off + i * 4 + 2, none⟩ = some (.int .i64 x.too) ∧ w.cell? ⟨g, off + i * 4 + 3, none⟩ = some (.slice x.a x.n x.k)
 dat : ∀ x ∈ xs, RdA w (fun i => w.heap.size ≤ i) (.slice x.a x.n x.k) x.bs
end Go.Proofs.Ytlkhphhmhffdjaa

namespace Go.Proofs.Ytlkhphhmhffdjaa
open Go.RowKit Go.MapKept Go.Sort
variable {w w' W X X' : World} {O O' O1 O2 : Nat → Prop} {dB cB : Nat} {d c : Dk4}
structure Two (w X : World) (O1 O2 : Nat → Prop) (dB cB : Nat) (d c : Dk4) : Prop where
 l : Mad w X O1 dB d
 r : Mad w X O2 cB c
 ap : ∀ i, O1 i → ¬ O2 i
theorem FLs.rdF {B n k : Nat} {a : Option Addr} {l : List (PF × Value)} {d : Dk4} (h : FLs w B (.slice a n k) n l) (hl : l.map (·.1) = filesP d) (ok : d.Ok) : n = l.length ∧ RdF4 w a k l ∧ n ≤ 256 ∧ ∀ x ∈ l, x.1.2.1.length ≤ 67108864 := by
 have hs := filesP_small ok
 have hx : ∀ x ∈ l, x.1.2.1.length ≤ 67108864 := fun x hx => hs.1 x.1 (by rw [← hl]; exact List.mem_map.2 ⟨x, hx, rfl⟩)
 have h1 := h.rd (fun x hx2 => by have := hx x hx2; omega)
 refine ⟨h1.1, h1.2, ?_, hx⟩
 have := congrArg List.length hl
 rw [List.length_map] at this
 have := hs.2
 omega
end Go.Proofs.Ytlkhphhmhffdjaa

namespace Go.Proofs.Ytlkhphhmhffdjaa
open Go.RowKit Go.MapKept Go.Sort
variable {w w' W X : World} {O O' U U' : Nat → Prop} {wB i : Nat} {z : Int} {qs : List Pr4} {o : OpD} {p : Pr4}
theorem files_same {a b : Option Addr} {n m ka kb B1 B2 : Nat} {l1 l2 : List (PF × Value)} {d : Dk4} (ok : d.Ok) (h1 : FLs w B1 (.slice a n ka) n l1) (e1 : l1.map (·.1) = filesP d) (h2 : FLs w B2 (.slice b m kb) m l2) (e2 : l2.map (·.1) = filesP d) :
  Calls Try.prog 9 #[.slice a n ka, .slice b m kb] w fun e w' => e = .returned (.bool true) ∧ Below w.heap.size w w' := by
 have r1 := h1.rdF e1 ok
 have r2 := h2.rdF e2 ok
 have hs := sameFiles_any r1.2.1 r2.2.1 r1.1 r2.1
 rw [e1, e2, decide_eq_true rfl] at hs
 exact hs
structure FSt (X wr : World) (U : Nat → Prop) (a : Option Addr) (n k : Nat) (l : List (PF × Value)) (t : Nat) : Prop where
 row : ∃ cs, wr.ownsRow X.heap.size 60 3 (.slice a n k) n cs ∧ ∀ j x, t ≤ j → l[j]? = some x → cs[j * 3 + 1]? = some x.2
 rU : ∀ g, (Value.slice a n k).ownBlock = some g → ¬ U g
 dat : ∀ j x, t ≤ j → l[j]? = some x → OwnO wr (fun i => X.heap.size ≤ i) x.2 x.1.2.1 ∧ ∀ g, x.2.ownBlock = some g → ¬ U g
variable {a : Option Addr} {n k t : Nat} {l : List (PF × Value)} {wr w2 : World}
theorem FSt.far (h : FSt X wr U a n k l t) (g : Go4 wr w2 O O') (hr : ∀ q, (Value.slice a n k).ownBlock = some q → ¬ O q) (hd : ∀ j x, t ≤ j → l[j]? = some x → ∀ q, x.2.ownBlock = some q → ¬ O q) (hU : ∀ q, U' q → U q ∨ O' q) : FSt X w2 U' a n k l t := by
 have rl : ∀ q, (Value.slice a n k).ownBlock = some q → q < wr.heap.size := fun q e => by obtain ⟨cs, h1, _⟩ := h.row; exact row_lt h1 e
 have dl : ∀ j x, t ≤ j → l[j]? = some x → ∀ q, x.2.ownBlock = some q → q < wr.heap.size := fun j x hj hx q e => by
  obtain ⟨cur, ht⟩ := (h.dat j x hj hx).1.typ e
  exact (Array.getElem?_eq_some_iff.1 ht).1
 refine ⟨?_, fun q e hq => ?_, fun j x hj hx => ⟨(h.dat j x hj hx).1.kept (fun q e => ⟨g.block q (dl j x hj hx q e) (hd j x hj hx q e), (h.dat j x hj hx).1.blk q e⟩), fun q e hq => ?_⟩⟩
 ·obtain ⟨cs, h1, h2⟩ := h.row
  exact ⟨cs, row_keep h1 (fun q e => g.block q (rl q e) (hr q e)), h2⟩
 ·rcases hU q hq with z | z
  ·exact h.rU q e z
  ·exact (g.new q z).elim (hr q e) (fun y => by have := rl q e; omega)
 ·rcases hU q hq with z | z
  ·exact (h.dat j x hj hx).2 q e z
  ·exact (g.new q z).elim (hd j x hj hx q e) (fun y => by have := dl j x hj hx q e; omega)
theorem FSt.ne (h : FSt X wr U a n k l t) {j : Nat} {x : PF × Value} (hj : t ≤ j) (hx : l[j]? = some x) {q : Nat} (hq : (Value.slice a n k).ownBlock = some q) : x.2.ownBlock ≠ some q := by
 intro e
 obtain ⟨cs, h1, _⟩ := h.row
 obtain ⟨cur, ht⟩ := (h.dat j x hj hx).1.typ e
 exact row_ty h1 (g := q) ht (by decide) hq
theorem FSt.ne' {g i : Nat} (h : FSt X wr U (some ⟨g, 0, none⟩) n k l t) {j : Nat} {x : PF × Value} (hj : t ≤ j) (hx : l[j]? = some x) (hi : i = g) : x.2.ownBlock ≠ some i := h.ne hj hx (by rw [hi]; rfl)
theorem FSt.set {g q : Nat} (h : FSt X wr U (some ⟨g, 0, none⟩) n k l t) (hq : q < t * 3) (ht : t ≤ n) (v : Value) : FSt X (wr.setCell ⟨g, q, none⟩ v) U (some ⟨g, 0, none⟩) n k l t := by
 obtain ⟨cs, h1, h2⟩ := h.row
 have hl : cs.length = n * 3 := h1.1
 refine ⟨⟨_, row_set4 h1 (j := q) (by omega) v, fun j x hj hx => ?_⟩, h.rU, fun j x hj hx => ⟨(h.dat j x hj hx).1.kept (fun i e => ⟨heap_setCell_other _ _ _ _ (fun e2 => h.ne' hj hx e2 e), (h.dat j x hj hx).1.blk i e⟩), (h.dat j x hj hx).2⟩⟩
 rw [List.getElem?_set_ne (by omega)]
 exact h2 j x hj hx
theorem Go4.put (h : Go4 w w' O O') {b q : Nat} (hb : w.heap.size ≤ b) (v : Value) : Go4 w (w'.setCell ⟨b, q, none⟩ v) O O' := ⟨h.os, h.tape, h.output, by simp [World.setCell]; exact h.size, fun i hi hn => (heap_setCell_other _ _ _ _ (by simp only; omega)).trans (h.block i hi hn), h.new⟩
theorem FSt.next (h : FSt X wr U a n k l t) : FSt X wr U a n k l (t + 1) := by
 obtain ⟨cs, h1, h2⟩ := h.row
 exact ⟨⟨cs, h1, fun j x hj => h2 j x (by omega)⟩, h.rU, fun j x hj => h.dat j x (by omega)⟩
theorem FApart.at_ (h : FApart l) {i j : Nat} {x y : PF × Value} (hij : i < j) (hx : l[i]? = some x) (hy : l[j]? = some y) : ∀ g, x.2.ownBlock = some g → y.2.ownBlock ≠ some g := by
 obtain ⟨hi, e1⟩ := List.getElem?_eq_some_iff.1 hx
 obtain ⟨hj, e2⟩ := List.getElem?_eq_some_iff.1 hy
 have := List.pairwise_iff_getElem.1 h i j hi hj hij
 rw [e1, e2] at this
 exact this
set_option maxRecDepth 100000 in
set_option maxHeartbeats 4000000 in
theorem tells_files (hk : o.kind = 15) (h : Ws w wB U z qs) (hi : qs[i]? = some p) (hl : Lk p.d p.r) (ho : RdOp w U o) (hz : z + 1000000000000 ≤ 4611686018427387904) : Calls Try.prog 38 #[.pointer (some ⟨wB, 0, none⟩), o.val, .pointer (some ⟨p.dB, 0, none⟩), .pointer (some ⟨p.rB, 0, none⟩)] w (ActsP w wB U z qs i o.kind p.d) := by
 obtain ⟨A0, B0, dB, rB, d, r⟩ := p
 have hfr : r.fs = filesP d := (hl.files (h.pr hi).1.rd.1.2).symm
 have hok := (h.pr hi).1.dsk.1
 simp only at hok
 have HF := Lib.hid (And.intro hfr hok)
 have HZ := Lib.hid hz
 clear hfr hok hz
 have HL := Lib.hid hl
 clear hl
 have nb : ¬ U w.heap.size := fun q => Nat.lt_irrefl _ (h.lt _ q)
 have NB := Lib.hid nb
 clear nb
 have HK := Lib.hid hk
 clear hk
 have HW := Lib.hid h
 have HI := Lib.hid hi
 have HO := Lib.hid ho
 clear h hi ho
 unfold OpD.val
 simp only
 go_enter Try.func38, Try.ntmps38
 go_upto_region 1 with fail
 have hX : ∃ X, X = w.alloc (.cells #[.int .i64 o.kind, .int .i64 o.obj, .string o.nm, .string o.nt, .slice o.aB o.nB o.kB, .int .i64 o.pos, .int .i64 o.num, .slice o.aC o.nC o.kC, .slice o.aF o.nF o.kF] 30) := ⟨_, rfl⟩
 obtain ⟨X, hX⟩ := hX
 have bx : OBox X w.heap.size o := by rw [hX]; exact heap_new _ _
 have bA : Below w.heap.size w X := by rw [hX]; exact (Below.refl _ _).alloc (Nat.le_refl _) _
 rw [← hX]
 clear hX
 have hbo : ∃ bo, bo = w.heap.size := ⟨_, rfl⟩
 obtain ⟨bo, hbo⟩ := hbo
 rw [← hbo] at bx ⊢
 rw [← hbo] at NB
 have HX := Lib.hid (And.intro bx bA)
 have W1 := Lib.hid (HW.out.later bA)
 have c0 := bx.cells.1
 rw [HK.out] at c0
 clear bx bA hbo
 go_upto_region 28 with fail
 clear c0
 go_wp2_with fail
 refine (files_any2 (W1.out.pr HI.out).1.dsk).mono ?_
 rintro e9 Z1 ⟨a1, n1, k1, l1, he9, f1, hl1, b1, ap1⟩
 subst he9
 simp only at hl1
 have W2 := Lib.hid (W1.out.later b1)
 have B1 := Lib.hid b1
 have F1 := Lib.hid (And.intro f1 (And.intro hl1 ap1))
 have hn1 : n1 ≤ 256 := (f1.rdF hl1 HF.out.2).2.2.1
 clear b1 f1 hl1 ap1
 go_wp2_with fail
 refine (rFiles_any (W2.out.pr HI.out).1.rd).mono ?_
 rintro e10 Z2 ⟨a2, n2, k2, l2, he10, f2, hl2, b2⟩
 subst he10
 simp only at hl2
 rw [HF.out.1] at hl2
 have B2 := Lib.hid (B1.out.trans (b2.mono B1.out.size))
 have F2 := Lib.hid (F1.out.1.later b2)
 have SM := Lib.hid (files_same HF.out.2 F2.out F1.out.2.1 f2 hl2)
 clear b2 f2 hl2
 go_wp2_with fail
 refine SM.out.mono ?_
 rintro e11 Z3 ⟨he11, b3⟩
 subst he11
 have B3 := Lib.hid (B2.out.trans (b3.mono B2.out.size))
 have F3 := Lib.hid (F2.out.later b3)
 clear b3 SM
 have hst0 : FSt X Z3 U a1 n1 k1 l1 0 := by
  refine ⟨⟨_, F3.out.row, fun j x _ hx => (fCells_at l1 j x hx).2.1⟩, fun g e q => ?_, fun j x _ hx => ⟨F3.out.dat x (List.mem_of_getElem? hx), fun g e q => ?_⟩⟩
  ·have := row_lt2 F3.out.row e
   have := HW.out.lt g q
   have := HX.out.2.size
   omega
  ·have h1 : X.heap.size ≤ g := (F3.out.dat x (List.mem_of_getElem? hx)).blk g e
   have := HW.out.lt g q
   have := HX.out.2.size
   omega
 have ST0 := Lib.hid hst0
 clear hst0
 go_wp2_with fail
 go_loopw [24] (fun v wr => ∃ (t : Nat) (Ut : Nat → Prop) (zt : Int), t ≤ n1 ∧ v = .int .i64 (t : Int) ∧ Ws wr wB Ut zt qs ∧ FSt X wr Ut a1 n1 k1 l1 t ∧ Go4 w wr U Ut ∧ zt ≤ z + (t : Int) * 134217798) (fun v _ => n1 - (intOf v).toNat)
 case atStart => exact ⟨0, U, z, Nat.zero_le _, rfl, W1.out.later B3.out, ST0.out, Go4.of_below (HX.out.2.trans (B3.out.mono HX.out.2.size)), by omega⟩
 case round =>
  obtain ⟨t, Ut, zt, ht, rfl, wt, ft, gt, hzt⟩ := hrel
  have WT := Lib.hid wt
  have FT := Lib.hid ft
  have GT := Lib.hid gt
  have HZT := Lib.hid hzt
  clear wt ft gt hzt
  by_cases hlt : t < n1
  ·have j1 : (t : Int) < (n1 : Int) := by omega
   have j2 : (0 : Int) ≤ (t : Int) := by omega
   have hx : ∃ x, l1[t]? = some x := ⟨_, List.getElem?_eq_getElem (by rw [← F1.out.1.len]; exact hlt)⟩
   obtain ⟨x, hx⟩ := hx
   have hdx := FT.out.dat t x (Nat.le_refl _) hx
   have hform := hdx.1.form
   obtain ⟨ax, hform⟩ := hform
   obtain ⟨cx, hform⟩ := hform
   have hnx : ∃ nx, nx = x.1.2.1.length := ⟨_, rfl⟩
   obtain ⟨nx, hnx⟩ := hnx
   rw [← hnx] at hform
   have hnxb : nx ≤ 67108864 := by rw [hnx]; exact (F1.out.1.rdF F1.out.2.1 HF.out.2).2.2.2 x (List.mem_of_getElem? hx)
   have hrow := FT.out.row
   obtain ⟨cs, hrow⟩ := hrow
   have hga := row_addr hrow.1 (by omega)
   obtain ⟨gl, hga⟩ := hga
   have hga1 := hga.1
   subst hga1
   have hcl := (hrow.1.cellAt (t * 3 + 1) (by have := hrow.1.1; omega)).trans (hrow.2 t x (Nat.le_refl _) hx)
   rw [hform] at hcl
   have lgl := World.block_lt_of_cell? _ _ hcl
   have CX := Lib.hid hcl
   have HX9 := Lib.hid (And.intro hx (And.intro hform hnx))
   have HRW := Lib.hid hrow
   have HGA := Lib.hid hga.2
   clear hdx hform hnx hga hcl hx hrow
   go_upto_region 33 with fail
   have BD : Below wr.heap.size wr wr.drew := (Below.refl _ _).drew
   refine wp_region_noPanic ?_
   refine wp_region_anyE (S := fun wx => wx.cell? ⟨gl, t * 3 + 1, none⟩ = some (.slice ax nx cx)) (E := fun j => true) (by kernel_rfl) ?_
   have hHeld : wr.drew.cell? ⟨gl, t * 3 + 1, none⟩ = some (.slice ax nx cx) := (BD.cell lgl).trans CX.out
   have HB := Lib.hid BD
   have hZ0 : ∃ z, z = wr.drew := ⟨_, rfl⟩
   obtain ⟨Z0, hZ0⟩ := hZ0
   rw [← hZ0] at HB hHeld ⊢
   clear hZ0 BD
   refine AnyE.take (i := 0) (.pointer (some ⟨wB, 0, none⟩)) rfl (by kernel_rfl) (by kernel_rfl) (by kernel_rfl) (by kernel_rfl) (fun _ _ _ h => h) (.inl ⟨by kernel_rfl, fun wy hy => by (go_simp; done)⟩) hHeld ?_
   try simp only [Act.put, List.setIfInBounds_toArray, List.set_cons_zero, List.set_cons_succ]
   refine AnyE.take (i := 1) (.pointer (some ⟨wB, 0, none⟩)) rfl (by kernel_rfl) (by kernel_rfl) (by kernel_rfl) (by kernel_rfl) (fun _ _ _ h => h) (.inl ⟨by kernel_rfl, fun wy hy => by (go_simp; done)⟩) hHeld ?_
   try simp only [Act.put, List.setIfInBounds_toArray, List.set_cons_zero, List.set_cons_succ]
   refine AnyE.take (i := 2) (.pointer (some ⟨wB, 2, none⟩)) rfl (by kernel_rfl) (by kernel_rfl) (by kernel_rfl) (by kernel_rfl) (fun _ _ _ h => h) (.inl ⟨by kernel_rfl, fun wy hy => by (go_simp; done)⟩) hHeld ?_
   try simp only [Act.put, List.setIfInBounds_toArray, List.set_cons_zero, List.set_cons_succ]
   refine AnyE.take (i := 3) (.slice (some ⟨gl, 0, none⟩) n1 k1) rfl (by kernel_rfl) (by kernel_rfl) (by kernel_rfl) (by kernel_rfl) (fun _ _ _ h => h) (.inl ⟨by kernel_rfl, fun wy hy => by (go_simp; done)⟩) hHeld ?_
   try simp only [Act.put, List.setIfInBounds_toArray, List.set_cons_zero, List.set_cons_succ]
   refine AnyE.take (i := 4) (.int .i64 (t : Int)) rfl (by kernel_rfl) (by kernel_rfl) (by kernel_rfl) (by kernel_rfl) (fun _ _ _ h => h) (.inl ⟨by kernel_rfl, fun wy hy => by (go_simp; done)⟩) hHeld ?_
   try simp only [Act.put, List.setIfInBounds_toArray, List.set_cons_zero, List.set_cons_succ]
   refine AnyE.take (i := 5) (.pointer (some ⟨gl, t * 3, none⟩)) rfl (by kernel_rfl) (by kernel_rfl) (by kernel_rfl) (by kernel_rfl) (fun _ _ _ h => h) (.inl ⟨by kernel_rfl, fun wy hy => by (go_simp; done)⟩) hHeld ?_
   try simp only [Act.put, List.setIfInBounds_toArray, List.set_cons_zero, List.set_cons_succ]
   refine AnyE.take (i := 6) (.pointer (some ⟨gl, t * 3 + 1, none⟩)) rfl (by kernel_rfl) (by kernel_rfl) (by kernel_rfl) (by kernel_rfl) (fun _ _ _ h => h) (.inl ⟨by kernel_rfl, fun wy hy => by (go_simp; done)⟩) hHeld ?_
   try simp only [Act.put, List.setIfInBounds_toArray, List.set_cons_zero, List.set_cons_succ]
   refine AnyE.take (i := 7) (.slice ax nx cx) rfl (by kernel_rfl) (by kernel_rfl) (by kernel_rfl) (by kernel_rfl) (fun _ _ _ h => h) (.inl ⟨by kernel_rfl, fun wy hy => by (have q0 := hy; go_simp; done)⟩) hHeld ?_
   try simp only [Act.put, List.setIfInBounds_toArray, List.set_cons_zero, List.set_cons_succ]
   refine AnyE.one (i := 8) rfl (by kernel_rfl) (by kernel_rfl) (fun KK hK => ?_)
   go_simp
   go_at_call 29
   have f0 := FT.out.far (Go4.of_below (O := Ut) HB.out) FT.out.rU (fun j x hj hx => (FT.out.dat j x hj hx).2) (fun q hq => .inl hq)
   have hd0 := f0.dat t x (Nat.le_refl _) HX9.out.1
   rw [HX9.out.2.1] at hd0
   refine ((WT.out.later HB.out).take (a := ax) (m := nx) (c := cx) (bs := x.1.2.1) ⟨HX9.out.2.2, by rw [HX9.out.2.2]; rw [HX9.out.2.2] at hd0; exact hd0.1.own⟩ (by omega) hd0.2 (by have := HZ.out; have := HZT.out; omega)).mono ?_
   rintro e12 Z4 ⟨he12, U4, w4, g4⟩
   subst he12
   have f4 := f0.next.far g4 (fun q e z => z.elim (f0.rU q e) (fun e2 => f0.ne (Nat.le_refl _) HX9.out.1 e (by rw [HX9.out.2.1]; exact e2))) (fun j y hj hy q e z => z.elim ((f0.dat j y (by omega) hy).2 q e) (fun e2 => F1.out.2.2.at_ (i := t) (j := j) (by omega) HX9.out.1 hy q (by rw [HX9.out.2.1]; exact e2) e)) (U' := U4) (fun q hq => .inr hq)
   have W4 := Lib.hid w4
   have F4 := Lib.hid f4
   have G4 := Lib.hid ((GT.out.trans (Go4.of_below (O := Ut) HB.out)).more (Q := fun i => (Value.slice ax nx cx).ownBlock = some i) (fun i e => by have h1 : X.heap.size ≤ i := hd0.1.blk i e; have := HX.out.2.size; omega) |>.trans g4)
   have hHeld1 := hHeld
   have HH4 : Hid (Z4.cell? ⟨gl, t * 3 + 1, none⟩ = some (.slice ax nx cx)) := (World.cell?_of_block (a := ⟨gl, t * 3 + 1, none⟩) (g4.block gl (Nat.lt_of_lt_of_le lgl HB.out.size) (fun z => z.elim (f0.rU gl rfl) (fun e2 => f0.ne (Nat.le_refl _) HX9.out.1 rfl (by rw [HX9.out.2.1]; exact e2))))).trans hHeld1
   clear w4 f4 g4 f0 hd0 hHeld1
   go_wp2_with fail
   refine hK.out _ _ ⟨fun _ => HH4.out, ?_⟩
   clear hK
   try simp only [Act.put, List.setIfInBounds_toArray, List.set_cons_zero, List.set_cons_succ]
   refine AnyE.done (by kernel_rfl) (NoPanic.normal ?_) _
   clear hHeld
   go_simp
   go_step
   have hrow := F4.out.row
   obtain ⟨cs4, hrow⟩ := hrow
   have hl4 : cs4.length = n1 * 3 := hrow.1.1
   have fz0 := hrow.1.frozenAt (t * 3)
   have fz1 := hrow.1.frozenAt (t * 3 + 1)
   have fz2 := hrow.1.frozenAt (t * 3 + 2)
   have ce0 := (hrow.1.cellAt (t * 3) (by omega)).trans (List.getElem?_eq_getElem (by omega : t * 3 < cs4.length))
   have ce1 := (hrow.1.cellAt (t * 3 + 1) (by omega)).trans (List.getElem?_eq_getElem (by omega : t * 3 + 1 < cs4.length))
   have ce2 := (hrow.1.cellAt (t * 3 + 2) (by omega)).trans (List.getElem?_eq_getElem (by omega : t * 3 + 2 < cs4.length))
   have HR4 := Lib.hid hrow
   clear hrow
   go_upto_region 32 with fail
   have f5 := ((F4.out.set (q := t * 3) (by omega) (by omega) (.string { data := #[109, 97, 114, 107] })).set (q := t * 3 + 1) (by omega) (by omega) (.slice none 0 0)).set (q := t * 3 + 2) (by omega) (by omega) (.int .i64 0)
   have ngl : ¬ U4 gl := fun q => F4.out.rU gl rfl q
   have w5 : Ws (((Z4.setCell ⟨gl, t * 3, none⟩ (.string { data := #[109, 97, 114, 107] })).setCell ⟨gl, t * 3 + 1, none⟩ (.slice none 0 0)).setCell ⟨gl, t * 3 + 2, none⟩ (.int .i64 0)) wB U4 (zt + 2 * (nx : Int) + 70) qs := W4.out.kept (fun i hi => by
    have hne : i ≠ gl := fun e => ngl (e ▸ hi)
    rw [heap_setCell_other _ _ _ _ (by simp only; exact hne), heap_setCell_other _ _ _ _ (by simp only; exact hne), heap_setCell_other _ _ _ _ (by simp only; exact hne)]) (by simp [World.setCell])
   have hgw : w.heap.size ≤ gl := Nat.le_trans HX.out.2.size HGA.out.1
   have g5 := ((G4.out.put (q := t * 3) hgw (.string { data := #[109, 97, 114, 107] })).put (q := t * 3 + 1) hgw (.slice none 0 0)).put (q := t * 3 + 2) hgw (.int .i64 0)
   have hZ5 : ∃ Z5, Z5 = ((Z4.setCell ⟨gl, t * 3, none⟩ (.string { data := #[109, 97, 114, 107] })).setCell ⟨gl, t * 3 + 1, none⟩ (.slice none 0 0)).setCell ⟨gl, t * 3 + 2, none⟩ (.int .i64 0) := ⟨_, rfl⟩
   obtain ⟨Z5, hZ5⟩ := hZ5
   rw [← hZ5] at f5 w5 g5 ⊢
   have F5 := Lib.hid (And.intro f5 (And.intro w5 g5))
   clear hZ5 f5 w5 g5 fz0 fz1 fz2 ce0 ce1 ce2 ngl hgw hl4
   go_wp2
   go_roundw
   case rel => exact ⟨t + 1, U4, _, by omega, by go_num, F5.out.2.1, F5.out.1, F5.out.2.2, by have := HZT.out; omega⟩
   case measure => simp [intOf]; omega
  ·have j1 : (n1 : Int) ≤ (t : Int) := by omega
   clear hlt
   go_wp2_with fail
   refine (files_any (WT.out.pr HI.out).1.dsk).mono ?_
   rintro e9 Z6 ⟨a6, n6, k6, l6, he9, f6, hl6, b6⟩
   subst he9
   simp only at hl6
   have W6 := Lib.hid (WT.out.later b6)
   have B6 := Lib.hid b6
   have F6 := Lib.hid (And.intro f6 hl6)
   clear b6 f6 hl6
   go_wp2_with fail
   refine (rFiles_any (W6.out.pr HI.out).1.rd).mono ?_
   rintro e10 Z7 ⟨a7, n7, k7, l7, he10, f7, hl7, b7⟩
   subst he10
   simp only at hl7
   rw [HF.out.1] at hl7
   have B7 := Lib.hid (B6.out.trans (b7.mono B6.out.size))
   have SM := Lib.hid (files_same HF.out.2 (F6.out.1.later b7) F6.out.2 f7 hl7)
   clear b7 f7 hl7
   go_wp2_with fail
   refine SM.out.mono ?_
   rintro e11 Z8 ⟨he11, b8⟩
   subst he11
   have B8 := Lib.hid (B7.out.trans (b8.mono B7.out.size))
   clear b8 SM
   go_wp2
   go_ret
   exact ⟨rfl, Ut, zt, ⟨A0, B0, dB, rB, d, r⟩, by rw [set_self HI.out]; exact WT.out.later B8.out, HL.out, GT.out.trans (Go4.of_below B8.out), by have := HZT.out; omega, fun _ h1 h2 => ⟨h1, h2⟩⟩
end Go.Proofs.Ytlkhphhmhffdjaa

namespace Go.Proofs.Ytlkhphhmhffdjaa
open Go.RowKit Go.MapKept Go.Sort
variable {w w' W X : World} {O O' U U' : Nat → Prop} {wB i : Nat} {z : Int} {qs : List Pr4} {o : OpD} {p : Pr4}
set_option maxRecDepth 100000 in
set_option maxHeartbeats 4000000 in
theorem tells_other (hk : o.kind ≠ 6 ∧ o.kind ≠ 7 ∧ o.kind ≠ 8 ∧ o.kind ≠ 9 ∧ o.kind ≠ 10 ∧ o.kind ≠ 12 ∧ o.kind ≠ 15 ∧ o.kind ≠ 16) (h : Ws w wB U z qs) (hi : qs[i]? = some p) (hl : Lk p.d p.r) : Calls Try.prog 38 #[.pointer (some ⟨wB, 0, none⟩), o.val, .pointer (some ⟨p.dB, 0, none⟩), .pointer (some ⟨p.rB, 0, none⟩)] w (ActsP w wB U z qs i o.kind p.d) := by
 have HW := Lib.hid h
 have HI := Lib.hid hi
 have HL := Lib.hid hl
 clear h hi hl
 obtain ⟨A0, B0, dB, rB, d, r⟩ := p
 unfold OpD.val
 simp only
 have e6 : (o.kind == 6) = false := by simp; exact hk.1
 have e7 : (o.kind == 7) = false := by simp; exact hk.2.1
 have e8 : (o.kind == 8) = false := by simp; exact hk.2.2.1
 have e9 : (o.kind == 9) = false := by simp; exact hk.2.2.2.1
 have e10 : (o.kind == 10) = false := by simp; exact hk.2.2.2.2.1
 have e12 : (o.kind == 12) = false := by simp; exact hk.2.2.2.2.2.1
 have e15 : (o.kind == 15) = false := by simp; exact hk.2.2.2.2.2.2.1
 have e16 : (o.kind == 16) = false := by simp; exact hk.2.2.2.2.2.2.2
 have HK := Lib.hid hk
 clear hk
 go_enter Try.func38, Try.ntmps38
 go_upto_region 1 with fail
 have hX : ∃ X, X = w.alloc (.cells #[.int .i64 o.kind, .int .i64 o.obj, .string o.nm, .string o.nt, .slice o.aB o.nB o.kB, .int .i64 o.pos, .int .i64 o.num, .slice o.aC o.nC o.kC, .slice o.aF o.nF o.kF] 30) := ⟨_, rfl⟩
 obtain ⟨X, hX⟩ := hX
 have bx : OBox X w.heap.size o := by rw [hX]; exact heap_new _ _
 have bA : Below w.heap.size w X := by rw [hX]; exact (Below.refl _ _).alloc (Nat.le_refl _) _
 rw [← hX]
 clear hX
 have c0 := bx.cells.1
 have HB := Lib.hid bA
 clear bx bA
 go_wp2
 go_ret
 exact ⟨rfl, HW.out.quiet HI.out HL.out HB.out⟩
theorem tells_any (h : Ws w wB U z qs) (hi : qs[i]? = some p) (hl : Lk p.d p.r) (ho : RdOp w U o) (hz : z + 1000000000000 ≤ 4611686018427387904) :
  Calls Try.prog 38 #[.pointer (some ⟨wB, 0, none⟩), o.val, .pointer (some ⟨p.dB, 0, none⟩), .pointer (some ⟨p.rB, 0, none⟩)] w (ActsP w wB U z qs i o.kind p.d) := by
 by_cases k6 : o.kind = 6
 ·exact tells_read k6 h hi hl ho hz
 by_cases k7 : o.kind = 7
 ·exact tells_size k7 h hi hl ho
 by_cases k8 : o.kind = 8
 ·exact tells_list k8 h hi hl ho
 by_cases k9 : o.kind = 9
 ·exact tells_free k9 h hi hl ho
 by_cases k10 : o.kind = 10
 ·exact tells_cap k10 h hi hl ho
 by_cases k12 : o.kind = 12
 ·exact tells_down k12 h hi hl ho
 by_cases k15 : o.kind = 15
 ·exact tells_files k15 h hi hl ho hz
 by_cases k16 : o.kind = 16
 ·exact tells_counts k16 h hi hl ho
 exact tells_other ⟨k6, k7, k8, k9, k10, k12, k15, k16⟩ h hi hl
end Go.Proofs.Ytlkhphhmhffdjaa
