import Derived.Test.YtlkhphhmhffdjaaK18
set_option linter.unusedSimpArgs false
set_option linter.unusedVariables false
namespace Go.Proofs.Ytlkhphhmhffdjaa
open Go.RowKit Go.MapKept Go.Sort
variable {w w' W X : World} {O O' U U' : Nat → Prop} {wB i : Nat} {z : Int} {qs : List Pr4} {o : OpD} {p : Pr4}
def OBox (w : World) (b : Nat) (o : OpD) : Prop := w.heap[b]? = some (.cells #[.int .i64 o.kind, .int .i64 o.obj, .string o.nm, .string o.nt, .slice o.aB o.nB o.kB, .int .i64 o.pos, .int .i64 o.num, .slice o.aC o.nC o.kC, .slice o.aF o.nF o.kF] 30 (0, 0))
theorem OBox.lt {b : Nat} (h : OBox w b o) : b < w.heap.size := (Array.getElem?_eq_some_iff.1 h).1
theorem OBox.kept {b : Nat} (h : OBox w b o) (k : w'.heap[b]? = w.heap[b]?) : OBox w' b o := k.trans h
theorem OBox.later {b : Nat} (h : OBox w b o) (k : Below w.heap.size w w') : OBox w' b o := h.kept (k.block _ h.lt)
theorem OBox.cells {b : Nat} (h : OBox w b o) : w.cell? ⟨b, 0, none⟩ = some (.int .i64 o.kind) ∧ w.cell? ⟨b, 1, none⟩ = some (.int .i64 o.obj) ∧ w.cell? ⟨b, 2, none⟩ = some (.string o.nm) ∧ w.cell? ⟨b, 3, none⟩ = some (.string o.nt) ∧ w.cell? ⟨b, 4, none⟩ = some (.slice o.aB o.nB o.kB) ∧ w.cell? ⟨b, 5, none⟩ = some (.int .i64 o.pos) ∧ w.cell? ⟨b, 6, none⟩ = some (.int .i64 o.num) ∧ w.cell? ⟨b, 7, none⟩ = some (.slice o.aC o.nC o.kC) ∧ w.cell? ⟨b, 8, none⟩ = some (.slice o.aF o.nF o.kF) := by
 unfold OBox at h
 simp [World.cell?, h]
theorem Ws.actD {w1 : World} {A1 : Nat → Prop} {d1 : Dk4} (h : Ws w wB U z qs) (hi : qs[i]? = some p) (k : Dsk w1 A1 p.dB d1) (g : Go4 w w1 p.A A1) : ∃ U', Ws w1 wB U' z (qs.set i ⟨A1, p.B, p.dB, p.rB, d1, p.r⟩) ∧ Go4 w w1 U U' := by
 have t := T5.stepD (h.pr hi).1 k g
 exact h.go (p' := ⟨A1, p.B, p.dB, p.rB, d1, p.r⟩) hi t.1 rfl rfl t.2
theorem Ws.actR {w2 : World} {B2 : Nat → Prop} {r2 : Dk4} (h : Ws w wB U z qs) (hi : qs[i]? = some p) (k : RD w2 B2 p.rB r2) (g : Go4 w w2 p.B B2) : ∃ U', Ws w2 wB U' z (qs.set i ⟨p.A, B2, p.dB, p.rB, p.d, r2⟩) ∧ Go4 w w2 U U' := by
 have t := T5.stepR (h.pr hi).1 k g
 exact h.go (p' := ⟨p.A, B2, p.dB, p.rB, p.d, r2⟩) hi t.1 rfl rfl t.2
theorem set_at {α : Type} {l : List α} {i : Nat} {x y : α} (h : l[i]? = some x) : (l.set i y)[i]? = some y := by
 rw [List.getElem?_set_self', h]; rfl
theorem Ws.act2 {w1 w2 : World} {A1 B2 : Nat → Prop} {d1 r2 : Dk4} (h : Ws w wB U z qs) (hi : qs[i]? = some p) (k : Dsk w1 A1 p.dB d1) (g : Go4 w w1 p.A A1) (k2 : RD w2 B2 p.rB r2) (g2 : Go4 w1 w2 p.B B2) : ∃ U', Ws w2 wB U' z (qs.set i ⟨A1, B2, p.dB, p.rB, d1, r2⟩) ∧ Go4 w w2 U U' := by
 obtain ⟨U1, s1, e1⟩ := h.actD hi k g
 obtain ⟨U2, s2, e2⟩ := s1.actR (p := ⟨A1, p.B, p.dB, p.rB, d1, p.r⟩) (set_at hi) k2 g2
 rw [List.set_set] at s2
 exact ⟨U2, s2, e1.trans e2⟩
def Calm (kk : Int) (d d' : Dk4) : Prop := kk ≠ 11 → d.down = false → d.arm = 0 → d'.down = false ∧ d'.arm = 0
theorem actP_calm {d : Dk4} {torn : Bool} {fs : List PF} {c : Nat → Int} (h1 : d.down = false) (h2 : d.arm = 0) : (actP d torn fs c).2.down = false ∧ (actP d torn fs c).2.arm = 0 := by
 unfold actP
 rw [if_neg (by rw [h2]; decide)]
 exact ⟨h1, by simp [h2]⟩
theorem create_calm {kk : Int} (d : Dk4) (s : ByteArray) : Calm kk d (createD d s).2 := fun _ h1 h2 => by
 unfold createD
 split
 ·exact ⟨h1, h2⟩
 ·split
  ·exact ⟨h1, h2⟩
  ·split
   ·exact ⟨h1, h2⟩
   ·exact actP_calm h1 h2
theorem sync_calm {kk : Int} (d : Dk4) (s : ByteArray) : Calm kk d (syncD d s).2 := fun _ h1 h2 => by
 unfold syncD
 split
 ·exact ⟨h1, h2⟩
 ·exact actP_calm h1 h2
theorem delete_calm {kk : Int} (d : Dk4) (s : ByteArray) : Calm kk d (deleteD d s).2 := fun _ h1 h2 => by
 unfold deleteD
 split
 ·exact ⟨h1, h2⟩
 ·exact actP_calm h1 h2
theorem rename_calm {kk : Int} (d : Dk4) (s t : ByteArray) : Calm kk d (renameD d s t).2 := fun _ h1 h2 => by
 unfold renameD
 split
 ·exact ⟨h1, h2⟩
 ·split
  ·exact ⟨h1, h2⟩
  ·exact actP_calm h1 h2
theorem append_calm {kk : Int} (d : Dk4) (s : ByteArray) (bs : List Nat) : Calm kk d (appendD d s bs).2 := fun _ h1 h2 => by
 unfold appendD
 split
 ·exact ⟨h1, h2⟩
 ·split
  ·exact ⟨h1, h2⟩
  ·split
   ·exact ⟨h1, h2⟩
   ·split
    ·exact ⟨h1, h2⟩
    ·exact actP_calm h1 h2
theorem flip_calm {kk : Int} (d : Dk4) (s : ByteArray) (x : Int) : Calm kk d (flipD d s x).2 := fun _ h1 h2 => by
 unfold flipD
 split
 ·exact ⟨h1, h2⟩
 ·split
  ·exact ⟨h1, h2⟩
  ·split
   ·exact ⟨h1, h2⟩
   ·exact ⟨h1, h2⟩
def ActsP (w : World) (wB : Nat) (U : Nat → Prop) (z : Int) (qs : List Pr4) (i : Nat) (kk : Int) (d0 : Dk4) (e : Ending) (w' : World) : Prop := e = .returned (.bool true) ∧ ∃ (U' : Nat → Prop) (z' : Int) (p' : Pr4), Ws w' wB U' z' (qs.set i p') ∧ Lk p'.d p'.r ∧ Go4 w w' U U' ∧ z' ≤ z + 1000000000000 ∧ Calm kk d0 p'.d
set_option maxRecDepth 100000 in
set_option maxHeartbeats 4000000 in
theorem acts_create (hk : o.kind = 1) (h : Ws w wB U z qs) (hi : qs[i]? = some p) (hl : Lk p.d p.r) (ho : RdOp w U o) : Calls Try.prog 37 #[.pointer (some ⟨wB, 0, none⟩), o.val, .pointer (some ⟨p.dB, 0, none⟩), .pointer (some ⟨p.rB, 0, none⟩)] w (ActsP w wB U z qs i o.kind p.d) := by
 obtain ⟨A0, B0, dB, rB, d, r⟩ := p
 have CM0 : Calm o.kind d (createD d o.nm).2 := create_calm d o.nm
 have LK0 := create_lk hl o.nm
 have hq : ∃ q, q = createD d o.nm := ⟨_, rfl⟩
 obtain ⟨q, hq⟩ := hq
 have hqr : ∃ q, q = createR r o.nm := ⟨_, rfl⟩
 obtain ⟨qr, hqr⟩ := hqr
 rw [← hq, ← hqr] at LK0
 rw [← hq] at CM0
 have HQ := Lib.hid (And.intro hq hqr)
 clear hq hqr
 obtain ⟨ee, d1⟩ := q
 obtain ⟨ee2, r1⟩ := qr
 obtain ⟨hee, lk1⟩ := LK0
 simp only at hee lk1 CM0
 have CM := Lib.hid CM0
 clear CM0
 subst hee
 have LK := Lib.hid lk1
 clear lk1
 clear hl
 have nb : ¬ U w.heap.size := fun q => Nat.lt_irrefl _ (h.lt _ q)
 have NB := Lib.hid nb
 clear nb
 have HK := Lib.hid hk
 clear hk
 have HW := Lib.hid h
 have HI := Lib.hid hi
 have HO := Lib.hid ho
 clear h hi ho
 unfold OpD.val
 simp only
 go_enter Try.func37, Try.ntmps37
 go_upto_region 1 with fail
 have hX : ∃ X, X = w.alloc (.cells #[.int .i64 o.kind, .int .i64 o.obj, .string o.nm, .string o.nt, .slice o.aB o.nB o.kB, .int .i64 o.pos, .int .i64 o.num, .slice o.aC o.nC o.kC, .slice o.aF o.nF o.kF] 30) := ⟨_, rfl⟩
 obtain ⟨X, hX⟩ := hX
 have bx : OBox X w.heap.size o := by rw [hX]; exact heap_new _ _
 have bA : Below w.heap.size w X := by rw [hX]; exact (Below.refl _ _).alloc (Nat.le_refl _) _
 rw [← hX]
 clear hX
 have hbo : ∃ bo, bo = w.heap.size := ⟨_, rfl⟩
 obtain ⟨bo, hbo⟩ := hbo
 rw [← hbo] at bx ⊢
 rw [← hbo] at NB
 have HX := Lib.hid (And.intro bx bA)
 have W1 := Lib.hid (HW.out.later bA)
 have c0 := bx.cells.1
 rw [HK.out] at c0
 clear bx bA hbo
 go_upto_region 3 with fail
 clear c0
 have BD : Below X.heap.size X X.drew := (Below.refl _ _).drew
 refine wp_region_noPanic ?_
 refine wp_region_anyE (S := fun wx => OBox wx bo o) (E := fun j => true) (by kernel_rfl) ?_
 have hHeld : OBox X.drew bo o := HX.out.1.later BD
 have W2 := Lib.hid (W1.out.later BD)
 have G2 := Lib.hid (Go4.of_below (O := U) (HX.out.2.trans (BD.mono HX.out.2.size)))
 have hZ0 : ∃ z, z = X.drew := ⟨_, rfl⟩
 obtain ⟨Z0, hZ0⟩ := hZ0
 rw [← hZ0] at W2 G2 hHeld ⊢
 clear hZ0 BD
 refine AnyE.take (i := 0) (.pointer (some ⟨dB, 0, none⟩)) rfl (by kernel_rfl) (by kernel_rfl) (by kernel_rfl) (by kernel_rfl) (fun _ _ _ h => h) (.inl ⟨by kernel_rfl, fun wy hy => by (go_simp; done)⟩) hHeld ?_
 try simp only [Act.put, List.setIfInBounds_toArray, List.set_cons_zero, List.set_cons_succ]
 refine AnyE.take (i := 1) (.pointer (some ⟨bo, 2, none⟩)) rfl (by kernel_rfl) (by kernel_rfl) (by kernel_rfl) (by kernel_rfl) (fun _ _ _ h => h) (.inl ⟨by kernel_rfl, fun wy hy => by (go_simp; done)⟩) hHeld ?_
 try simp only [Act.put, List.setIfInBounds_toArray, List.set_cons_zero, List.set_cons_succ]
 refine AnyE.take (i := 2) (.string o.nm) rfl (by kernel_rfl) (by kernel_rfl) (by kernel_rfl) (by kernel_rfl) (fun _ _ _ h => h) (.inl ⟨by kernel_rfl, fun wy hy => by (have q0 := hy.cells.2.2.1; go_simp; done)⟩) hHeld ?_
 try simp only [Act.put, List.setIfInBounds_toArray, List.set_cons_zero, List.set_cons_succ]
 refine AnyE.take (i := 5) (.pointer (some ⟨rB, 0, none⟩)) rfl (by kernel_rfl) (by kernel_rfl) (by kernel_rfl) (by kernel_rfl) (fun _ _ _ h => h) (.inl ⟨by kernel_rfl, fun wy hy => by (go_simp; done)⟩) hHeld ?_
 try simp only [Act.put, List.setIfInBounds_toArray, List.set_cons_zero, List.set_cons_succ]
 refine AnyE.take (i := 6) (.pointer (some ⟨bo, 2, none⟩)) rfl (by kernel_rfl) (by kernel_rfl) (by kernel_rfl) (by kernel_rfl) (fun _ _ _ h => h) (.inl ⟨by kernel_rfl, fun wy hy => by (go_simp; done)⟩) hHeld ?_
 try simp only [Act.put, List.setIfInBounds_toArray, List.set_cons_zero, List.set_cons_succ]
 refine AnyE.take (i := 7) (.string o.nm) rfl (by kernel_rfl) (by kernel_rfl) (by kernel_rfl) (by kernel_rfl) (fun _ _ _ h => h) (.inl ⟨by kernel_rfl, fun wy hy => by (have q0 := hy.cells.2.2.1; go_simp; done)⟩) hHeld ?_
 try simp only [Act.put, List.setIfInBounds_toArray, List.set_cons_zero, List.set_cons_succ]
 refine AnyE.one (i := 3) rfl (by kernel_rfl) (by kernel_rfl) (fun KK hK => ?_)
 go_simp
 go_at_call 24
 have T2 := Lib.hid (W2.out.pr HI.out)
 have HC := create_any (s := o.nm) T2.out.1.dsk
 rw [← HQ.out.1] at HC
 refine HC.mono ?_
 rintro e9 Z1 ⟨he9, A1, k1, g1⟩
 subst he9
 have hHeld1 := hHeld
 have hHeld : OBox Z1 bo o := hHeld1.kept (g1.block _ hHeld1.lt (fun q => NB.out (T2.out.2 bo (.inl q))))
 have D1 := Lib.hid (And.intro k1 g1)
 clear k1 g1 HC hHeld1
 go_wp2_with fail
 refine hK.out _ _ ⟨fun _ => hHeld, ?_⟩
 clear hK
 try simp only [Act.put, List.setIfInBounds_toArray, List.set_cons_zero, List.set_cons_succ]
 refine AnyE.one (i := 4) rfl (by kernel_rfl) (by kernel_rfl) (fun KK hK => ?_)
 go_simp
 go_at_call 20
 refine (num4_any _ _).mono ?_
 rintro e10 Z1b ⟨he10, hz1b⟩
 subst he10
 rw [hz1b]
 clear hz1b
 go_wp2_with fail
 refine hK.out _ _ ⟨fun _ => hHeld, ?_⟩
 clear hK
 try simp only [Act.put, List.setIfInBounds_toArray, List.set_cons_zero, List.set_cons_succ]
 refine AnyE.one (i := 8) rfl (by kernel_rfl) (by kernel_rfl) (fun KK hK => ?_)
 go_simp
 go_at_call 23
 have R1 := (T5.stepD T2.out.1 D1.out.1 D1.out.2).1.rd
 have HC := rCreate_any (s := o.nm) R1
 rw [← HQ.out.2] at HC
 refine HC.mono ?_
 rintro e11 Z3 ⟨he11, B1, k2, g2⟩
 subst he11
 have hHeld1 := hHeld
 have hHeld : OBox Z3 bo o := hHeld1.kept (g2.block _ hHeld1.lt (fun q => NB.out (T2.out.2 bo (.inr q))))
 have hst := W2.out.act2 HI.out D1.out.1 D1.out.2 k2 g2
 have ST := Lib.hid hst
 clear k2 g2 HC hHeld1 R1 hst
 go_wp2_with fail
 refine hK.out _ _ ⟨fun _ => hHeld, ?_⟩
 clear hK
 try simp only [Act.put, List.setIfInBounds_toArray, List.set_cons_zero, List.set_cons_succ]
 refine AnyE.one (i := 9) rfl (by kernel_rfl) (by kernel_rfl) (fun KK hK => ?_)
 go_simp
 refine hK.out _ _ ⟨fun _ => hHeld, ?_⟩
 clear hK
 try simp only [Act.put, List.setIfInBounds_toArray, List.set_cons_zero, List.set_cons_succ]
 refine AnyE.one (i := 10) rfl (by kernel_rfl) (by kernel_rfl) (fun KK hK => ?_)
 go_simp
 refine hK.out _ _ ⟨fun _ => hHeld, ?_⟩
 clear hK
 try simp only [Act.put, List.setIfInBounds_toArray, List.set_cons_zero, List.set_cons_succ]
 refine AnyE.done (by kernel_rfl) (NoPanic.normal ?_) _
 clear hHeld
 go_simp
 go_step
 go_wp2
 go_ret
 have hst := ST.out
 obtain ⟨U2, s1, s2⟩ := hst
 exact ⟨rfl, U2, z, _, s1, LK.out, G2.out.trans s2, by omega, CM.out⟩
set_option maxRecDepth 100000 in
set_option maxHeartbeats 4000000 in
theorem acts_sync (hk : o.kind = 3) (h : Ws w wB U z qs) (hi : qs[i]? = some p) (hl : Lk p.d p.r) (ho : RdOp w U o) : Calls Try.prog 37 #[.pointer (some ⟨wB, 0, none⟩), o.val, .pointer (some ⟨p.dB, 0, none⟩), .pointer (some ⟨p.rB, 0, none⟩)] w (ActsP w wB U z qs i o.kind p.d) := by
 obtain ⟨A0, B0, dB, rB, d, r⟩ := p
 have CM0 : Calm o.kind d (syncD d o.nm).2 := sync_calm d o.nm
 have LK0 := sync_lk hl o.nm
 have hq : ∃ q, q = syncD d o.nm := ⟨_, rfl⟩
 obtain ⟨q, hq⟩ := hq
 have hqr : ∃ q, q = syncD r o.nm := ⟨_, rfl⟩
 obtain ⟨qr, hqr⟩ := hqr
 rw [← hq, ← hqr] at LK0
 rw [← hq] at CM0
 have HQ := Lib.hid (And.intro hq hqr)
 clear hq hqr
 obtain ⟨ee, d1⟩ := q
 obtain ⟨ee2, r1⟩ := qr
 obtain ⟨hee, lk1⟩ := LK0
 simp only at hee lk1 CM0
 have CM := Lib.hid CM0
 clear CM0
 subst hee
 have LK := Lib.hid lk1
 clear lk1
 clear hl
 have nb : ¬ U w.heap.size := fun q => Nat.lt_irrefl _ (h.lt _ q)
 have NB := Lib.hid nb
 clear nb
 have HK := Lib.hid hk
 clear hk
 have HW := Lib.hid h
 have HI := Lib.hid hi
 have HO := Lib.hid ho
 clear h hi ho
 unfold OpD.val
 simp only
 go_enter Try.func37, Try.ntmps37
 go_upto_region 1 with fail
 have hX : ∃ X, X = w.alloc (.cells #[.int .i64 o.kind, .int .i64 o.obj, .string o.nm, .string o.nt, .slice o.aB o.nB o.kB, .int .i64 o.pos, .int .i64 o.num, .slice o.aC o.nC o.kC, .slice o.aF o.nF o.kF] 30) := ⟨_, rfl⟩
 obtain ⟨X, hX⟩ := hX
 have bx : OBox X w.heap.size o := by rw [hX]; exact heap_new _ _
 have bA : Below w.heap.size w X := by rw [hX]; exact (Below.refl _ _).alloc (Nat.le_refl _) _
 rw [← hX]
 clear hX
 have hbo : ∃ bo, bo = w.heap.size := ⟨_, rfl⟩
 obtain ⟨bo, hbo⟩ := hbo
 rw [← hbo] at bx ⊢
 rw [← hbo] at NB
 have HX := Lib.hid (And.intro bx bA)
 have W1 := Lib.hid (HW.out.later bA)
 have c0 := bx.cells.1
 rw [HK.out] at c0
 clear bx bA hbo
 go_upto_region 11 with fail
 clear c0
 have BD : Below X.heap.size X X.drew := (Below.refl _ _).drew
 refine wp_region_noPanic ?_
 refine wp_region_anyE (S := fun wx => OBox wx bo o) (E := fun j => true) (by kernel_rfl) ?_
 have hHeld : OBox X.drew bo o := HX.out.1.later BD
 have W2 := Lib.hid (W1.out.later BD)
 have G2 := Lib.hid (Go4.of_below (O := U) (HX.out.2.trans (BD.mono HX.out.2.size)))
 have hZ0 : ∃ z, z = X.drew := ⟨_, rfl⟩
 obtain ⟨Z0, hZ0⟩ := hZ0
 rw [← hZ0] at W2 G2 hHeld ⊢
 clear hZ0 BD
 refine AnyE.take (i := 0) (.pointer (some ⟨dB, 0, none⟩)) rfl (by kernel_rfl) (by kernel_rfl) (by kernel_rfl) (by kernel_rfl) (fun _ _ _ h => h) (.inl ⟨by kernel_rfl, fun wy hy => by (go_simp; done)⟩) hHeld ?_
 try simp only [Act.put, List.setIfInBounds_toArray, List.set_cons_zero, List.set_cons_succ]
 refine AnyE.take (i := 1) (.pointer (some ⟨bo, 2, none⟩)) rfl (by kernel_rfl) (by kernel_rfl) (by kernel_rfl) (by kernel_rfl) (fun _ _ _ h => h) (.inl ⟨by kernel_rfl, fun wy hy => by (go_simp; done)⟩) hHeld ?_
 try simp only [Act.put, List.setIfInBounds_toArray, List.set_cons_zero, List.set_cons_succ]
 refine AnyE.take (i := 2) (.string o.nm) rfl (by kernel_rfl) (by kernel_rfl) (by kernel_rfl) (by kernel_rfl) (fun _ _ _ h => h) (.inl ⟨by kernel_rfl, fun wy hy => by (have q0 := hy.cells.2.2.1; go_simp; done)⟩) hHeld ?_
 try simp only [Act.put, List.setIfInBounds_toArray, List.set_cons_zero, List.set_cons_succ]
 refine AnyE.take (i := 5) (.pointer (some ⟨rB, 0, none⟩)) rfl (by kernel_rfl) (by kernel_rfl) (by kernel_rfl) (by kernel_rfl) (fun _ _ _ h => h) (.inl ⟨by kernel_rfl, fun wy hy => by (go_simp; done)⟩) hHeld ?_
 try simp only [Act.put, List.setIfInBounds_toArray, List.set_cons_zero, List.set_cons_succ]
 refine AnyE.take (i := 6) (.pointer (some ⟨bo, 2, none⟩)) rfl (by kernel_rfl) (by kernel_rfl) (by kernel_rfl) (by kernel_rfl) (fun _ _ _ h => h) (.inl ⟨by kernel_rfl, fun wy hy => by (go_simp; done)⟩) hHeld ?_
 try simp only [Act.put, List.setIfInBounds_toArray, List.set_cons_zero, List.set_cons_succ]
 refine AnyE.take (i := 7) (.string o.nm) rfl (by kernel_rfl) (by kernel_rfl) (by kernel_rfl) (by kernel_rfl) (fun _ _ _ h => h) (.inl ⟨by kernel_rfl, fun wy hy => by (have q0 := hy.cells.2.2.1; go_simp; done)⟩) hHeld ?_
 try simp only [Act.put, List.setIfInBounds_toArray, List.set_cons_zero, List.set_cons_succ]
 refine AnyE.one (i := 3) rfl (by kernel_rfl) (by kernel_rfl) (fun KK hK => ?_)
 go_simp
 go_at_call 57
 have T2 := Lib.hid (W2.out.pr HI.out)
 have HC := sync_any (s := o.nm) T2.out.1.dsk
 rw [← HQ.out.1] at HC
 refine HC.mono ?_
 rintro e9 Z1 ⟨he9, A1, k1, g1⟩
 subst he9
 have hHeld1 := hHeld
 have hHeld : OBox Z1 bo o := hHeld1.kept (g1.block _ hHeld1.lt (fun q => NB.out (T2.out.2 bo (.inl q))))
 have D1 := Lib.hid (And.intro k1 g1)
 clear k1 g1 HC hHeld1
 go_wp2_with fail
 refine hK.out _ _ ⟨fun _ => hHeld, ?_⟩
 clear hK
 try simp only [Act.put, List.setIfInBounds_toArray, List.set_cons_zero, List.set_cons_succ]
 refine AnyE.one (i := 4) rfl (by kernel_rfl) (by kernel_rfl) (fun KK hK => ?_)
 go_simp
 go_at_call 20
 refine (num4_any _ _).mono ?_
 rintro e10 Z1b ⟨he10, hz1b⟩
 subst he10
 rw [hz1b]
 clear hz1b
 go_wp2_with fail
 refine hK.out _ _ ⟨fun _ => hHeld, ?_⟩
 clear hK
 try simp only [Act.put, List.setIfInBounds_toArray, List.set_cons_zero, List.set_cons_succ]
 refine AnyE.one (i := 8) rfl (by kernel_rfl) (by kernel_rfl) (fun KK hK => ?_)
 go_simp
 go_at_call 58
 have R1 := (T5.stepD T2.out.1 D1.out.1 D1.out.2).1.rd
 have HC := rSync_any (s := o.nm) R1
 rw [← HQ.out.2] at HC
 refine HC.mono ?_
 rintro e11 Z3 ⟨he11, B1, k2, g2⟩
 subst he11
 have hHeld1 := hHeld
 have hHeld : OBox Z3 bo o := hHeld1.kept (g2.block _ hHeld1.lt (fun q => NB.out (T2.out.2 bo (.inr q))))
 have hst := W2.out.act2 HI.out D1.out.1 D1.out.2 k2 g2
 have ST := Lib.hid hst
 clear k2 g2 HC hHeld1 R1 hst
 go_wp2_with fail
 refine hK.out _ _ ⟨fun _ => hHeld, ?_⟩
 clear hK
 try simp only [Act.put, List.setIfInBounds_toArray, List.set_cons_zero, List.set_cons_succ]
 refine AnyE.one (i := 9) rfl (by kernel_rfl) (by kernel_rfl) (fun KK hK => ?_)
 go_simp
 refine hK.out _ _ ⟨fun _ => hHeld, ?_⟩
 clear hK
 try simp only [Act.put, List.setIfInBounds_toArray, List.set_cons_zero, List.set_cons_succ]
 refine AnyE.one (i := 10) rfl (by kernel_rfl) (by kernel_rfl) (fun KK hK => ?_)
 go_simp
 refine hK.out _ _ ⟨fun _ => hHeld, ?_⟩
 clear hK
 try simp only [Act.put, List.setIfInBounds_toArray, List.set_cons_zero, List.set_cons_succ]
 refine AnyE.done (by kernel_rfl) (NoPanic.normal ?_) _
 clear hHeld
 go_simp
 go_step
 go_wp2
 go_ret
 have hst := ST.out
 obtain ⟨U2, s1, s2⟩ := hst
 exact ⟨rfl, U2, z, _, s1, LK.out, G2.out.trans s2, by omega, CM.out⟩
set_option maxRecDepth 100000 in
set_option maxHeartbeats 4000000 in
theorem acts_rename (hk : o.kind = 4) (h : Ws w wB U z qs) (hi : qs[i]? = some p) (hl : Lk p.d p.r) (ho : RdOp w U o) : Calls Try.prog 37 #[.pointer (some ⟨wB, 0, none⟩), o.val, .pointer (some ⟨p.dB, 0, none⟩), .pointer (some ⟨p.rB, 0, none⟩)] w (ActsP w wB U z qs i o.kind p.d) := by
 obtain ⟨A0, B0, dB, rB, d, r⟩ := p
 have CM0 : Calm o.kind d (renameD d o.nm o.nt).2 := rename_calm d o.nm o.nt
 have LK0 := rename_lk hl o.nm o.nt
 have hq : ∃ q, q = renameD d o.nm o.nt := ⟨_, rfl⟩
 obtain ⟨q, hq⟩ := hq
 have hqr : ∃ q, q = renameR r o.nm o.nt := ⟨_, rfl⟩
 obtain ⟨qr, hqr⟩ := hqr
 rw [← hq, ← hqr] at LK0
 rw [← hq] at CM0
 have HQ := Lib.hid (And.intro hq hqr)
 clear hq hqr
 obtain ⟨ee, d1⟩ := q
 obtain ⟨ee2, r1⟩ := qr
 obtain ⟨hee, lk1⟩ := LK0
 simp only at hee lk1 CM0
 have CM := Lib.hid CM0
 clear CM0
 subst hee
 have LK := Lib.hid lk1
 clear lk1
 clear hl
 have nb : ¬ U w.heap.size := fun q => Nat.lt_irrefl _ (h.lt _ q)
 have NB := Lib.hid nb
 clear nb
 have HK := Lib.hid hk
 clear hk
 have HW := Lib.hid h
 have HI := Lib.hid hi
 have HO := Lib.hid ho
 clear h hi ho
 unfold OpD.val
 simp only
 go_enter Try.func37, Try.ntmps37
 go_upto_region 1 with fail
 have hX : ∃ X, X = w.alloc (.cells #[.int .i64 o.kind, .int .i64 o.obj, .string o.nm, .string o.nt, .slice o.aB o.nB o.kB, .int .i64 o.pos, .int .i64 o.num, .slice o.aC o.nC o.kC, .slice o.aF o.nF o.kF] 30) := ⟨_, rfl⟩
 obtain ⟨X, hX⟩ := hX
 have bx : OBox X w.heap.size o := by rw [hX]; exact heap_new _ _
 have bA : Below w.heap.size w X := by rw [hX]; exact (Below.refl _ _).alloc (Nat.le_refl _) _
 rw [← hX]
 clear hX
 have hbo : ∃ bo, bo = w.heap.size := ⟨_, rfl⟩
 obtain ⟨bo, hbo⟩ := hbo
 rw [← hbo] at bx ⊢
 rw [← hbo] at NB
 have HX := Lib.hid (And.intro bx bA)
 have W1 := Lib.hid (HW.out.later bA)
 have c0 := bx.cells.1
 rw [HK.out] at c0
 clear bx bA hbo
 go_upto_region 13 with fail
 clear c0
 have BD : Below X.heap.size X X.drew := (Below.refl _ _).drew
 refine wp_region_noPanic ?_
 refine wp_region_anyE (S := fun wx => OBox wx bo o) (E := fun j => true) (by kernel_rfl) ?_
 have hHeld : OBox X.drew bo o := HX.out.1.later BD
 have W2 := Lib.hid (W1.out.later BD)
 have G2 := Lib.hid (Go4.of_below (O := U) (HX.out.2.trans (BD.mono HX.out.2.size)))
 have hZ0 : ∃ z, z = X.drew := ⟨_, rfl⟩
 obtain ⟨Z0, hZ0⟩ := hZ0
 rw [← hZ0] at W2 G2 hHeld ⊢
 clear hZ0 BD
 refine AnyE.take (i := 0) (.pointer (some ⟨dB, 0, none⟩)) rfl (by kernel_rfl) (by kernel_rfl) (by kernel_rfl) (by kernel_rfl) (fun _ _ _ h => h) (.inl ⟨by kernel_rfl, fun wy hy => by (go_simp; done)⟩) hHeld ?_
 try simp only [Act.put, List.setIfInBounds_toArray, List.set_cons_zero, List.set_cons_succ]
 refine AnyE.take (i := 1) (.pointer (some ⟨bo, 2, none⟩)) rfl (by kernel_rfl) (by kernel_rfl) (by kernel_rfl) (by kernel_rfl) (fun _ _ _ h => h) (.inl ⟨by kernel_rfl, fun wy hy => by (go_simp; done)⟩) hHeld ?_
 try simp only [Act.put, List.setIfInBounds_toArray, List.set_cons_zero, List.set_cons_succ]
 refine AnyE.take (i := 2) (.string o.nm) rfl (by kernel_rfl) (by kernel_rfl) (by kernel_rfl) (by kernel_rfl) (fun _ _ _ h => h) (.inl ⟨by kernel_rfl, fun wy hy => by (have q0 := hy.cells.2.2.1; go_simp; done)⟩) hHeld ?_
 try simp only [Act.put, List.setIfInBounds_toArray, List.set_cons_zero, List.set_cons_succ]
 refine AnyE.take (i := 3) (.pointer (some ⟨bo, 3, none⟩)) rfl (by kernel_rfl) (by kernel_rfl) (by kernel_rfl) (by kernel_rfl) (fun _ _ _ h => h) (.inl ⟨by kernel_rfl, fun wy hy => by (go_simp; done)⟩) hHeld ?_
 try simp only [Act.put, List.setIfInBounds_toArray, List.set_cons_zero, List.set_cons_succ]
 refine AnyE.take (i := 4) (.string o.nt) rfl (by kernel_rfl) (by kernel_rfl) (by kernel_rfl) (by kernel_rfl) (fun _ _ _ h => h) (.inl ⟨by kernel_rfl, fun wy hy => by (have q0 := hy.cells.2.2.2.1; go_simp; done)⟩) hHeld ?_
 try simp only [Act.put, List.setIfInBounds_toArray, List.set_cons_zero, List.set_cons_succ]
 refine AnyE.take (i := 7) (.pointer (some ⟨rB, 0, none⟩)) rfl (by kernel_rfl) (by kernel_rfl) (by kernel_rfl) (by kernel_rfl) (fun _ _ _ h => h) (.inl ⟨by kernel_rfl, fun wy hy => by (go_simp; done)⟩) hHeld ?_
 try simp only [Act.put, List.setIfInBounds_toArray, List.set_cons_zero, List.set_cons_succ]
 refine AnyE.take (i := 8) (.pointer (some ⟨bo, 2, none⟩)) rfl (by kernel_rfl) (by kernel_rfl) (by kernel_rfl) (by kernel_rfl) (fun _ _ _ h => h) (.inl ⟨by kernel_rfl, fun wy hy => by (go_simp; done)⟩) hHeld ?_
 try simp only [Act.put, List.setIfInBounds_toArray, List.set_cons_zero, List.set_cons_succ]
 refine AnyE.take (i := 9) (.string o.nm) rfl (by kernel_rfl) (by kernel_rfl) (by kernel_rfl) (by kernel_rfl) (fun _ _ _ h => h) (.inl ⟨by kernel_rfl, fun wy hy => by (have q0 := hy.cells.2.2.1; go_simp; done)⟩) hHeld ?_
 try simp only [Act.put, List.setIfInBounds_toArray, List.set_cons_zero, List.set_cons_succ]
 refine AnyE.take (i := 10) (.pointer (some ⟨bo, 3, none⟩)) rfl (by kernel_rfl) (by kernel_rfl) (by kernel_rfl) (by kernel_rfl) (fun _ _ _ h => h) (.inl ⟨by kernel_rfl, fun wy hy => by (go_simp; done)⟩) hHeld ?_
 try simp only [Act.put, List.setIfInBounds_toArray, List.set_cons_zero, List.set_cons_succ]
 refine AnyE.take (i := 11) (.string o.nt) rfl (by kernel_rfl) (by kernel_rfl) (by kernel_rfl) (by kernel_rfl) (fun _ _ _ h => h) (.inl ⟨by kernel_rfl, fun wy hy => by (have q0 := hy.cells.2.2.2.1; go_simp; done)⟩) hHeld ?_
 try simp only [Act.put, List.setIfInBounds_toArray, List.set_cons_zero, List.set_cons_succ]
 refine AnyE.one (i := 5) rfl (by kernel_rfl) (by kernel_rfl) (fun KK hK => ?_)
 go_simp
 go_at_call 25
 have T2 := Lib.hid (W2.out.pr HI.out)
 have HC := rename_any (s := o.nm) (t := o.nt) T2.out.1.dsk
 rw [← HQ.out.1] at HC
 refine HC.mono ?_
 rintro e9 Z1 ⟨he9, A1, k1, g1⟩
 subst he9
 have hHeld1 := hHeld
 have hHeld : OBox Z1 bo o := hHeld1.kept (g1.block _ hHeld1.lt (fun q => NB.out (T2.out.2 bo (.inl q))))
 have D1 := Lib.hid (And.intro k1 g1)
 clear k1 g1 HC hHeld1
 go_wp2_with fail
 refine hK.out _ _ ⟨fun _ => hHeld, ?_⟩
 clear hK
 try simp only [Act.put, List.setIfInBounds_toArray, List.set_cons_zero, List.set_cons_succ]
 refine AnyE.one (i := 6) rfl (by kernel_rfl) (by kernel_rfl) (fun KK hK => ?_)
 go_simp
 go_at_call 20
 refine (num4_any _ _).mono ?_
 rintro e10 Z1b ⟨he10, hz1b⟩
 subst he10
 rw [hz1b]
 clear hz1b
 go_wp2_with fail
 refine hK.out _ _ ⟨fun _ => hHeld, ?_⟩
 clear hK
 try simp only [Act.put, List.setIfInBounds_toArray, List.set_cons_zero, List.set_cons_succ]
 refine AnyE.one (i := 12) rfl (by kernel_rfl) (by kernel_rfl) (fun KK hK => ?_)
 go_simp
 go_at_call 26
 have R1 := (T5.stepD T2.out.1 D1.out.1 D1.out.2).1.rd
 have HC := rRename_any (s := o.nm) (t := o.nt) R1
 rw [← HQ.out.2] at HC
 refine HC.mono ?_
 rintro e11 Z3 ⟨he11, B1, k2, g2⟩
 subst he11
 have hHeld1 := hHeld
 have hHeld : OBox Z3 bo o := hHeld1.kept (g2.block _ hHeld1.lt (fun q => NB.out (T2.out.2 bo (.inr q))))
 have hst := W2.out.act2 HI.out D1.out.1 D1.out.2 k2 g2
 have ST := Lib.hid hst
 clear k2 g2 HC hHeld1 R1 hst
 go_wp2_with fail
 refine hK.out _ _ ⟨fun _ => hHeld, ?_⟩
 clear hK
 try simp only [Act.put, List.setIfInBounds_toArray, List.set_cons_zero, List.set_cons_succ]
 refine AnyE.one (i := 13) rfl (by kernel_rfl) (by kernel_rfl) (fun KK hK => ?_)
 go_simp
 refine hK.out _ _ ⟨fun _ => hHeld, ?_⟩
 clear hK
 try simp only [Act.put, List.setIfInBounds_toArray, List.set_cons_zero, List.set_cons_succ]
 refine AnyE.one (i := 14) rfl (by kernel_rfl) (by kernel_rfl) (fun KK hK => ?_)
 go_simp
 refine hK.out _ _ ⟨fun _ => hHeld, ?_⟩
 clear hK
 try simp only [Act.put, List.setIfInBounds_toArray, List.set_cons_zero, List.set_cons_succ]
 refine AnyE.done (by kernel_rfl) (NoPanic.normal ?_) _
 clear hHeld
 go_simp
 go_step
 go_wp2
 go_ret
 have hst := ST.out
 obtain ⟨U2, s1, s2⟩ := hst
 exact ⟨rfl, U2, z, _, s1, LK.out, G2.out.trans s2, by omega, CM.out⟩
set_option maxRecDepth 100000 in
set_option maxHeartbeats 4000000 in
theorem acts_delete (hk : o.kind = 5) (h : Ws w wB U z qs) (hi : qs[i]? = some p) (hl : Lk p.d p.r) (ho : RdOp w U o) : Calls Try.prog 37 #[.pointer (some ⟨wB, 0, none⟩), o.val, .pointer (some ⟨p.dB, 0, none⟩), .pointer (some ⟨p.rB, 0, none⟩)] w (ActsP w wB U z qs i o.kind p.d) := by
 obtain ⟨A0, B0, dB, rB, d, r⟩ := p
 have CM0 : Calm o.kind d (deleteD d o.nm).2 := delete_calm d o.nm
 have LK0 := delete_lk hl o.nm
 have hq : ∃ q, q = deleteD d o.nm := ⟨_, rfl⟩
 obtain ⟨q, hq⟩ := hq
 have hqr : ∃ q, q = deleteD r o.nm := ⟨_, rfl⟩
 obtain ⟨qr, hqr⟩ := hqr
 rw [← hq, ← hqr] at LK0
 rw [← hq] at CM0
 have HQ := Lib.hid (And.intro hq hqr)
 clear hq hqr
 obtain ⟨ee, d1⟩ := q
 obtain ⟨ee2, r1⟩ := qr
 obtain ⟨hee, lk1⟩ := LK0
 simp only at hee lk1 CM0
 have CM := Lib.hid CM0
 clear CM0
 subst hee
 have LK := Lib.hid lk1
 clear lk1
 clear hl
 have nb : ¬ U w.heap.size := fun q => Nat.lt_irrefl _ (h.lt _ q)
 have NB := Lib.hid nb
 clear nb
 have HK := Lib.hid hk
 clear hk
 have HW := Lib.hid h
 have HI := Lib.hid hi
 have HO := Lib.hid ho
 clear h hi ho
 unfold OpD.val
 simp only
 go_enter Try.func37, Try.ntmps37
 go_upto_region 1 with fail
 have hX : ∃ X, X = w.alloc (.cells #[.int .i64 o.kind, .int .i64 o.obj, .string o.nm, .string o.nt, .slice o.aB o.nB o.kB, .int .i64 o.pos, .int .i64 o.num, .slice o.aC o.nC o.kC, .slice o.aF o.nF o.kF] 30) := ⟨_, rfl⟩
 obtain ⟨X, hX⟩ := hX
 have bx : OBox X w.heap.size o := by rw [hX]; exact heap_new _ _
 have bA : Below w.heap.size w X := by rw [hX]; exact (Below.refl _ _).alloc (Nat.le_refl _) _
 rw [← hX]
 clear hX
 have hbo : ∃ bo, bo = w.heap.size := ⟨_, rfl⟩
 obtain ⟨bo, hbo⟩ := hbo
 rw [← hbo] at bx ⊢
 rw [← hbo] at NB
 have HX := Lib.hid (And.intro bx bA)
 have W1 := Lib.hid (HW.out.later bA)
 have c0 := bx.cells.1
 rw [HK.out] at c0
 clear bx bA hbo
 go_upto_region 15 with fail
 clear c0
 have BD : Below X.heap.size X X.drew := (Below.refl _ _).drew
 refine wp_region_noPanic ?_
 refine wp_region_anyE (S := fun wx => OBox wx bo o) (E := fun j => true) (by kernel_rfl) ?_
 have hHeld : OBox X.drew bo o := HX.out.1.later BD
 have W2 := Lib.hid (W1.out.later BD)
 have G2 := Lib.hid (Go4.of_below (O := U) (HX.out.2.trans (BD.mono HX.out.2.size)))
 have hZ0 : ∃ z, z = X.drew := ⟨_, rfl⟩
 obtain ⟨Z0, hZ0⟩ := hZ0
 rw [← hZ0] at W2 G2 hHeld ⊢
 clear hZ0 BD
 refine AnyE.take (i := 0) (.pointer (some ⟨dB, 0, none⟩)) rfl (by kernel_rfl) (by kernel_rfl) (by kernel_rfl) (by kernel_rfl) (fun _ _ _ h => h) (.inl ⟨by kernel_rfl, fun wy hy => by (go_simp; done)⟩) hHeld ?_
 try simp only [Act.put, List.setIfInBounds_toArray, List.set_cons_zero, List.set_cons_succ]
 refine AnyE.take (i := 1) (.pointer (some ⟨bo, 2, none⟩)) rfl (by kernel_rfl) (by kernel_rfl) (by kernel_rfl) (by kernel_rfl) (fun _ _ _ h => h) (.inl ⟨by kernel_rfl, fun wy hy => by (go_simp; done)⟩) hHeld ?_
 try simp only [Act.put, List.setIfInBounds_toArray, List.set_cons_zero, List.set_cons_succ]
 refine AnyE.take (i := 2) (.string o.nm) rfl (by kernel_rfl) (by kernel_rfl) (by kernel_rfl) (by kernel_rfl) (fun _ _ _ h => h) (.inl ⟨by kernel_rfl, fun wy hy => by (have q0 := hy.cells.2.2.1; go_simp; done)⟩) hHeld ?_
 try simp only [Act.put, List.setIfInBounds_toArray, List.set_cons_zero, List.set_cons_succ]
 refine AnyE.take (i := 5) (.pointer (some ⟨rB, 0, none⟩)) rfl (by kernel_rfl) (by kernel_rfl) (by kernel_rfl) (by kernel_rfl) (fun _ _ _ h => h) (.inl ⟨by kernel_rfl, fun wy hy => by (go_simp; done)⟩) hHeld ?_
 try simp only [Act.put, List.setIfInBounds_toArray, List.set_cons_zero, List.set_cons_succ]
 refine AnyE.take (i := 6) (.pointer (some ⟨bo, 2, none⟩)) rfl (by kernel_rfl) (by kernel_rfl) (by kernel_rfl) (by kernel_rfl) (fun _ _ _ h => h) (.inl ⟨by kernel_rfl, fun wy hy => by (go_simp; done)⟩) hHeld ?_
 try simp only [Act.put, List.setIfInBounds_toArray, List.set_cons_zero, List.set_cons_succ]
 refine AnyE.take (i := 7) (.string o.nm) rfl (by kernel_rfl) (by kernel_rfl) (by kernel_rfl) (by kernel_rfl) (fun _ _ _ h => h) (.inl ⟨by kernel_rfl, fun wy hy => by (have q0 := hy.cells.2.2.1; go_simp; done)⟩) hHeld ?_
 try simp only [Act.put, List.setIfInBounds_toArray, List.set_cons_zero, List.set_cons_succ]
 refine AnyE.one (i := 3) rfl (by kernel_rfl) (by kernel_rfl) (fun KK hK => ?_)
 go_simp
 go_at_call 59
 have T2 := Lib.hid (W2.out.pr HI.out)
 have HC := delete_any (s := o.nm) T2.out.1.dsk
 rw [← HQ.out.1] at HC
 refine HC.mono ?_
 rintro e9 Z1 ⟨he9, A1, k1, g1⟩
 subst he9
 have hHeld1 := hHeld
 have hHeld : OBox Z1 bo o := hHeld1.kept (g1.block _ hHeld1.lt (fun q => NB.out (T2.out.2 bo (.inl q))))
 have D1 := Lib.hid (And.intro k1 g1)
 clear k1 g1 HC hHeld1
 go_wp2_with fail
 refine hK.out _ _ ⟨fun _ => hHeld, ?_⟩
 clear hK
 try simp only [Act.put, List.setIfInBounds_toArray, List.set_cons_zero, List.set_cons_succ]
 refine AnyE.one (i := 4) rfl (by kernel_rfl) (by kernel_rfl) (fun KK hK => ?_)
 go_simp
 go_at_call 20
 refine (num4_any _ _).mono ?_
 rintro e10 Z1b ⟨he10, hz1b⟩
 subst he10
 rw [hz1b]
 clear hz1b
 go_wp2_with fail
 refine hK.out _ _ ⟨fun _ => hHeld, ?_⟩
 clear hK
 try simp only [Act.put, List.setIfInBounds_toArray, List.set_cons_zero, List.set_cons_succ]
 refine AnyE.one (i := 8) rfl (by kernel_rfl) (by kernel_rfl) (fun KK hK => ?_)
 go_simp
 go_at_call 60
 have R1 := (T5.stepD T2.out.1 D1.out.1 D1.out.2).1.rd
 have HC := rDelete_any (s := o.nm) R1
 rw [← HQ.out.2] at HC
 refine HC.mono ?_
 rintro e11 Z3 ⟨he11, B1, k2, g2⟩
 subst he11
 have hHeld1 := hHeld
 have hHeld : OBox Z3 bo o := hHeld1.kept (g2.block _ hHeld1.lt (fun q => NB.out (T2.out.2 bo (.inr q))))
 have hst := W2.out.act2 HI.out D1.out.1 D1.out.2 k2 g2
 have ST := Lib.hid hst
 clear k2 g2 HC hHeld1 R1 hst
 go_wp2_with fail
 refine hK.out _ _ ⟨fun _ => hHeld, ?_⟩
 clear hK
 try simp only [Act.put, List.setIfInBounds_toArray, List.set_cons_zero, List.set_cons_succ]
 refine AnyE.one (i := 9) rfl (by kernel_rfl) (by kernel_rfl) (fun KK hK => ?_)
 go_simp
 refine hK.out _ _ ⟨fun _ => hHeld, ?_⟩
 clear hK
 try simp only [Act.put, List.setIfInBounds_toArray, List.set_cons_zero, List.set_cons_succ]
 refine AnyE.one (i := 10) rfl (by kernel_rfl) (by kernel_rfl) (fun KK hK => ?_)
 go_simp
 refine hK.out _ _ ⟨fun _ => hHeld, ?_⟩
 clear hK
 try simp only [Act.put, List.setIfInBounds_toArray, List.set_cons_zero, List.set_cons_succ]
 refine AnyE.done (by kernel_rfl) (NoPanic.normal ?_) _
 clear hHeld
 go_simp
 go_step
 go_wp2
 go_ret
 have hst := ST.out
 obtain ⟨U2, s1, s2⟩ := hst
 exact ⟨rfl, U2, z, _, s1, LK.out, G2.out.trans s2, by omega, CM.out⟩
set_option maxRecDepth 100000 in
set_option maxHeartbeats 4000000 in
theorem acts_flip (hk : o.kind = 14) (h : Ws w wB U z qs) (hi : qs[i]? = some p) (hl : Lk p.d p.r) (ho : RdOp w U o) : Calls Try.prog 37 #[.pointer (some ⟨wB, 0, none⟩), o.val, .pointer (some ⟨p.dB, 0, none⟩), .pointer (some ⟨p.rB, 0, none⟩)] w (ActsP w wB U z qs i o.kind p.d) := by
 obtain ⟨A0, B0, dB, rB, d, r⟩ := p
 have CM0 : Calm o.kind d (flipD d o.nm o.pos).2 := flip_calm d o.nm o.pos
 have LK0 := flip_lk hl o.nm o.pos
 have hq : ∃ q, q = flipD d o.nm o.pos := ⟨_, rfl⟩
 obtain ⟨q, hq⟩ := hq
 have hqr : ∃ q, q = flipD r o.nm o.pos := ⟨_, rfl⟩
 obtain ⟨qr, hqr⟩ := hqr
 rw [← hq, ← hqr] at LK0
 rw [← hq] at CM0
 have HQ := Lib.hid (And.intro hq hqr)
 clear hq hqr
 obtain ⟨ee, d1⟩ := q
 obtain ⟨ee2, r1⟩ := qr
 obtain ⟨hee, lk1⟩ := LK0
 simp only at hee lk1 CM0
 have CM := Lib.hid CM0
 clear CM0
 subst hee
 have LK := Lib.hid lk1
 clear lk1
 clear hl
 have nb : ¬ U w.heap.size := fun q => Nat.lt_irrefl _ (h.lt _ q)
 have NB := Lib.hid nb
 clear nb
 have HK := Lib.hid hk
 clear hk
 have HW := Lib.hid h
 have HI := Lib.hid hi
 have HO := Lib.hid ho
 clear h hi ho
 unfold OpD.val
 simp only
 go_enter Try.func37, Try.ntmps37
 go_upto_region 1 with fail
 have hX : ∃ X, X = w.alloc (.cells #[.int .i64 o.kind, .int .i64 o.obj, .string o.nm, .string o.nt, .slice o.aB o.nB o.kB, .int .i64 o.pos, .int .i64 o.num, .slice o.aC o.nC o.kC, .slice o.aF o.nF o.kF] 30) := ⟨_, rfl⟩
 obtain ⟨X, hX⟩ := hX
 have bx : OBox X w.heap.size o := by rw [hX]; exact heap_new _ _
 have bA : Below w.heap.size w X := by rw [hX]; exact (Below.refl _ _).alloc (Nat.le_refl _) _
 rw [← hX]
 clear hX
 have hbo : ∃ bo, bo = w.heap.size := ⟨_, rfl⟩
 obtain ⟨bo, hbo⟩ := hbo
 rw [← hbo] at bx ⊢
 rw [← hbo] at NB
 have HX := Lib.hid (And.intro bx bA)
 have W1 := Lib.hid (HW.out.later bA)
 have c0 := bx.cells.1
 rw [HK.out] at c0
 clear bx bA hbo
 go_upto_region 30 with fail
 clear c0
 have BD : Below X.heap.size X X.drew := (Below.refl _ _).drew
 refine wp_region_noPanic ?_
 refine wp_region_anyE (S := fun wx => OBox wx bo o) (E := fun j => true) (by kernel_rfl) ?_
 have hHeld : OBox X.drew bo o := HX.out.1.later BD
 have W2 := Lib.hid (W1.out.later BD)
 have G2 := Lib.hid (Go4.of_below (O := U) (HX.out.2.trans (BD.mono HX.out.2.size)))
 have hZ0 : ∃ z, z = X.drew := ⟨_, rfl⟩
 obtain ⟨Z0, hZ0⟩ := hZ0
 rw [← hZ0] at W2 G2 hHeld ⊢
 clear hZ0 BD
 refine AnyE.take (i := 0) (.pointer (some ⟨dB, 0, none⟩)) rfl (by kernel_rfl) (by kernel_rfl) (by kernel_rfl) (by kernel_rfl) (fun _ _ _ h => h) (.inl ⟨by kernel_rfl, fun wy hy => by (go_simp; done)⟩) hHeld ?_
 try simp only [Act.put, List.setIfInBounds_toArray, List.set_cons_zero, List.set_cons_succ]
 refine AnyE.take (i := 1) (.pointer (some ⟨bo, 2, none⟩)) rfl (by kernel_rfl) (by kernel_rfl) (by kernel_rfl) (by kernel_rfl) (fun _ _ _ h => h) (.inl ⟨by kernel_rfl, fun wy hy => by (go_simp; done)⟩) hHeld ?_
 try simp only [Act.put, List.setIfInBounds_toArray, List.set_cons_zero, List.set_cons_succ]
 refine AnyE.take (i := 2) (.string o.nm) rfl (by kernel_rfl) (by kernel_rfl) (by kernel_rfl) (by kernel_rfl) (fun _ _ _ h => h) (.inl ⟨by kernel_rfl, fun wy hy => by (have q0 := hy.cells.2.2.1; go_simp; done)⟩) hHeld ?_
 try simp only [Act.put, List.setIfInBounds_toArray, List.set_cons_zero, List.set_cons_succ]
 refine AnyE.take (i := 3) (.pointer (some ⟨bo, 5, none⟩)) rfl (by kernel_rfl) (by kernel_rfl) (by kernel_rfl) (by kernel_rfl) (fun _ _ _ h => h) (.inl ⟨by kernel_rfl, fun wy hy => by (go_simp; done)⟩) hHeld ?_
 try simp only [Act.put, List.setIfInBounds_toArray, List.set_cons_zero, List.set_cons_succ]
 refine AnyE.take (i := 4) (.int .i64 o.pos) rfl (by kernel_rfl) (by kernel_rfl) (by kernel_rfl) (by kernel_rfl) (fun _ _ _ h => h) (.inl ⟨by kernel_rfl, fun wy hy => by (have q0 := hy.cells.2.2.2.2.2.1; go_simp; done)⟩) hHeld ?_
 try simp only [Act.put, List.setIfInBounds_toArray, List.set_cons_zero, List.set_cons_succ]
 refine AnyE.take (i := 7) (.pointer (some ⟨rB, 0, none⟩)) rfl (by kernel_rfl) (by kernel_rfl) (by kernel_rfl) (by kernel_rfl) (fun _ _ _ h => h) (.inl ⟨by kernel_rfl, fun wy hy => by (go_simp; done)⟩) hHeld ?_
 try simp only [Act.put, List.setIfInBounds_toArray, List.set_cons_zero, List.set_cons_succ]
 refine AnyE.take (i := 8) (.pointer (some ⟨bo, 2, none⟩)) rfl (by kernel_rfl) (by kernel_rfl) (by kernel_rfl) (by kernel_rfl) (fun _ _ _ h => h) (.inl ⟨by kernel_rfl, fun wy hy => by (go_simp; done)⟩) hHeld ?_
 try simp only [Act.put, List.setIfInBounds_toArray, List.set_cons_zero, List.set_cons_succ]
 refine AnyE.take (i := 9) (.string o.nm) rfl (by kernel_rfl) (by kernel_rfl) (by kernel_rfl) (by kernel_rfl) (fun _ _ _ h => h) (.inl ⟨by kernel_rfl, fun wy hy => by (have q0 := hy.cells.2.2.1; go_simp; done)⟩) hHeld ?_
 try simp only [Act.put, List.setIfInBounds_toArray, List.set_cons_zero, List.set_cons_succ]
 refine AnyE.take (i := 10) (.pointer (some ⟨bo, 5, none⟩)) rfl (by kernel_rfl) (by kernel_rfl) (by kernel_rfl) (by kernel_rfl) (fun _ _ _ h => h) (.inl ⟨by kernel_rfl, fun wy hy => by (go_simp; done)⟩) hHeld ?_
 try simp only [Act.put, List.setIfInBounds_toArray, List.set_cons_zero, List.set_cons_succ]
 refine AnyE.take (i := 11) (.int .i64 o.pos) rfl (by kernel_rfl) (by kernel_rfl) (by kernel_rfl) (by kernel_rfl) (fun _ _ _ h => h) (.inl ⟨by kernel_rfl, fun wy hy => by (have q0 := hy.cells.2.2.2.2.2.1; go_simp; done)⟩) hHeld ?_
 try simp only [Act.put, List.setIfInBounds_toArray, List.set_cons_zero, List.set_cons_succ]
 refine AnyE.one (i := 5) rfl (by kernel_rfl) (by kernel_rfl) (fun KK hK => ?_)
 go_simp
 go_at_call 65
 have T2 := Lib.hid (W2.out.pr HI.out)
 have HC := (flip4_any (s := o.nm) (x := o.pos) T2.out.1.dsk HO.out.po.2)
 rw [← HQ.out.1] at HC
 refine HC.mono ?_
 rintro e9 Z1 ⟨he9, k1, g1⟩
 subst he9
 have hHeld1 := hHeld
 have hHeld : OBox Z1 bo o := hHeld1.kept (g1.block _ hHeld1.lt (fun q => NB.out (T2.out.2 bo (.inl q))))
 have D1 := Lib.hid (And.intro k1 g1)
 clear k1 g1 HC hHeld1
 go_wp2_with fail
 refine hK.out _ _ ⟨fun _ => hHeld, ?_⟩
 clear hK
 try simp only [Act.put, List.setIfInBounds_toArray, List.set_cons_zero, List.set_cons_succ]
 refine AnyE.one (i := 6) rfl (by kernel_rfl) (by kernel_rfl) (fun KK hK => ?_)
 go_simp
 go_at_call 20
 refine (num4_any _ _).mono ?_
 rintro e10 Z1b ⟨he10, hz1b⟩
 subst he10
 rw [hz1b]
 clear hz1b
 go_wp2_with fail
 refine hK.out _ _ ⟨fun _ => hHeld, ?_⟩
 clear hK
 try simp only [Act.put, List.setIfInBounds_toArray, List.set_cons_zero, List.set_cons_succ]
 refine AnyE.one (i := 12) rfl (by kernel_rfl) (by kernel_rfl) (fun KK hK => ?_)
 go_simp
 go_at_call 66
 have R1 := (T5.stepD T2.out.1 D1.out.1 D1.out.2).1.rd
 have HC := rFlip_any (s := o.nm) (X := o.pos) R1 HO.out.po.2
 rw [← HQ.out.2] at HC
 refine HC.mono ?_
 rintro e11 Z3 ⟨he11, B1, k2, g2⟩
 subst he11
 have hHeld1 := hHeld
 have hHeld : OBox Z3 bo o := hHeld1.kept (g2.block _ hHeld1.lt (fun q => NB.out (T2.out.2 bo (.inr q))))
 have hst := W2.out.act2 HI.out D1.out.1 D1.out.2 k2 g2
 have ST := Lib.hid hst
 clear k2 g2 HC hHeld1 R1 hst
 go_wp2_with fail
 refine hK.out _ _ ⟨fun _ => hHeld, ?_⟩
 clear hK
 try simp only [Act.put, List.setIfInBounds_toArray, List.set_cons_zero, List.set_cons_succ]
 refine AnyE.one (i := 13) rfl (by kernel_rfl) (by kernel_rfl) (fun KK hK => ?_)
 go_simp
 refine hK.out _ _ ⟨fun _ => hHeld, ?_⟩
 clear hK
 try simp only [Act.put, List.setIfInBounds_toArray, List.set_cons_zero, List.set_cons_succ]
 refine AnyE.one (i := 14) rfl (by kernel_rfl) (by kernel_rfl) (fun KK hK => ?_)
 go_simp
 refine hK.out _ _ ⟨fun _ => hHeld, ?_⟩
 clear hK
 try simp only [Act.put, List.setIfInBounds_toArray, List.set_cons_zero, List.set_cons_succ]
 refine AnyE.done (by kernel_rfl) (NoPanic.normal ?_) _
 clear hHeld
 go_simp
 go_step
 go_wp2
 go_ret
 have hst := ST.out
 obtain ⟨U2, s1, s2⟩ := hst
 exact ⟨rfl, U2, z, _, s1, LK.out, G2.out.trans s2, by omega, CM.out⟩
end Go.Proofs.Ytlkhphhmhffdjaa
