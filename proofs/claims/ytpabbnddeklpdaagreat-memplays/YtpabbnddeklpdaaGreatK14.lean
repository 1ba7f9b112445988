import Derived.Test.YtpabbnddeklpdaaGreatK13
namespace Go.Proofs.YtpabbnddeklpdaaGreat
open Go.RowKit Go.Shelf
set_option linter.unusedVariables false
attribute [local go_sem] Oper.semAt_some

theorem EOk.turn {G : Nat → Prop} {B : Nat} {w w' : World} {e : EntD} (h : EOk G w e) (t : Turn B w w') : EOk G w' e := h.keptC t.toC

set_option maxRecDepth 100000 in
theorem ofrom_any (w : World) (p : Option Addr) (x : EntD) : Calls Tryz.prog 27 #[ordV p, .agg x.cells] w fun e w' => e = .returned (.func (.func 44) #[] #[.pointer (some ⟨w.heap.size, 0, none⟩), .pointer (some ⟨w.heap.size + 1, 0, none⟩)]) ∧ w' = (w.alloc (.cells #[.pointer p, .func (.func 22) #[] #[]] 61)).alloc (.cells x.cells 38) := by
 unfold ordV EntD.cells
 go_enter Tryz.func27, Tryz.ntmps27
 go_wp2
 go_ret
 exact ⟨rfl, rfl⟩

set_option maxRecDepth 100000 in
set_option maxHeartbeats 4000000 in
theorem ofrom1_in {l Bo Bf n B : Nat} {G : Nat → Prop} {p : Option Addr} {T : BT} {x : EntD} {J Jx : List EntD → World → Prop} (hAb : AbT B J)
  (hY : ∀ m pre y W, J pre W → Nx G (fromS x T) pre y W → YieldAt Fence.wide m Tryz.prog l #[.agg y.cells] W fun e W' => (e = .returned (.bool true) ∧ J (pre ++ [y]) W' ∧ KpC G W W') ∨ (e = .returned (.bool false) ∧ Jx (pre ++ [y]) W'))
  (W : World) (hBs : B ≤ W.heap.size) (hB : OBox W Bo p) (hF : EBox W Bf x) (hx : EntD.Ok W x) (hT : IsT G W p T) (h0 : J [] W) :
  CallsIn Fence.wide n Tryz.prog 44 #[.func (.yield l) #[] #[], .pointer (some ⟨Bo, 0, none⟩), .pointer (some ⟨Bf, 0, none⟩)] W fun e W' => (∃ v, e = .returned v) ∧ ((∃ xs, xs = fromS x T ∧ J xs W') ∨ (∃ pre, pre <+: fromS x T ∧ Jx pre W')) := by
 have D0 : Below W.heap.size W W.drew := (Below.refl _ _).drew
 have HG : Hid (∀ wx, Below W.heap.size W wx → Calls Tryz.prog 45 #[.agg #[.pointer p, .func (.func 22) #[] #[]], .pointer p, .agg #[x.vr, .int .i64 x.fam, x.vq, .int .i64 x.ts, .int .i64 x.seq, .int .i64 x.kind, x.vv], .func (.yield l) #[] #[]] wx fun z W1 => ∃ t : Bool, z = .returned (.bool t) ∧ Hid (((∃ xs, xs = fromS x T ∧ J xs W1) ∨ (∃ pre, pre <+: fromS x T ∧ Jx pre W1)))) := fun wx bb => by
  refine (callsIn_wide (n := 3)).1 ((giveFrom_in hAb hY T 3 p [] wx (by simp) (hT.kept (KpG.of bb)) (hx.later bb) (Nat.le_trans hBs bb.size) (hAb _ _ _ hBs h0 (Turn.of bb hBs))).mono ?_)
  rintro z W1 (⟨rfl, hj, k1⟩ | ⟨rfl, q, hq, h⟩)
  ·exact ⟨true, rfl, .inl ⟨_, rfl, hj⟩⟩
  ·exact ⟨false, rfl, .inr ⟨q, hq, h⟩⟩
 have c0 := hB.c0
 have c1 := hB.c1
 obtain ⟨d0, d1, d2, d3, d4, d5, d6⟩ := (⟨hF.vr, hF.fam, hF.vq, hF.ts, hF.seq, hF.kind, hF.vv⟩ : _ ∧ _ ∧ _ ∧ _ ∧ _ ∧ _ ∧ _)
 clear hY hAb hT hx h0 hF hB hBs
 have hmx : Tryz.prog.follows .mixedOrders = true := by kernel_rfl
 refine callsIn_of_wp Tryz.func44 rfl trivial ?_ rfl
 simp only [Tryz.ntmps44, List.size_toArray, List.length_cons, List.length_nil, Nat.reduceAdd, Nat.reduceSub, Array.replicate_succ, Array.replicate_zero, List.push_toArray, List.append_toArray, List.nil_append, List.cons_append]
 refine wpIn_wide.2 ?_
 go_wp2_with (go_at_call 45; refine Calls.mono (HG.out _ (by first | exact D0 | exact Below.refl _ _)) ?_; rintro z W1 ⟨t, rfl, hh⟩)
 all_goals
  go_end0
  exact ⟨⟨_, rfl⟩, hh.out⟩

set_option maxRecDepth 100000 in
set_option maxHeartbeats 4000000 in
theorem giveCopiesF_in {l n : Nat} {G : Nat → Prop} {p : Option Addr} {T : BT} {J Jx : List EntD → World → Prop} {W0 : Nat} {x0 : EntD} (W : World) (hW0 : W0 + 2 = W.heap.size) (hB : OBox W W0 p) (hF : EBox W (W0 + 1) x0) (hx0 : EOk (fun _ => True) W x0) (hT : IsT G W p T) (hlen : ∀ x ∈ (fromS x0 T), x.row.length ≤ 140737488355328 ∧ x.qual.length ≤ 140737488355328 ∧ x.val.length ≤ 140737488355328)
  (hJs : ∀ s X, J s X → W0 ≤ X.heap.size) (hJ : AbT W0 J) (hJx : AbT W0 Jx)
  (hY : ∀ m pre x W1, J pre W1 → NxC (fromS x0 T) W0 pre x W1 → YieldAt Fence.wide m Tryz.prog l #[.agg x.cells] W1 fun e W' => (e = .returned (.bool true) ∧ J (pre ++ [x]) W' ∧ KpO G W0 W1 W') ∨ (e = .returned (.bool false) ∧ Jx (pre ++ [x]) W' ∧ Oth W0 W1 W'))
  (h0 : J [] W) :
  CallsIn Fence.wide n Tryz.prog 26 #[.func (.func 44) #[] #[.pointer (some ⟨W0, 0, none⟩), .pointer (some ⟨W0 + 1, 0, none⟩)], .func (.yield l) #[] #[]] W fun e W' => (∃ v, e = .returned v) ∧ ((∃ xs, Sm xs (fromS x0 T) ∧ J xs W') ∨ (∃ pre, (∃ q, q <+: (fromS x0 T) ∧ Sm pre q) ∧ Jx pre W')) := by
 refine callsIn_of_wp_marks Tryz.func26 rfl trivial ?_ rfl
 simp only [Tryz.ntmps26, List.size_toArray, List.length_cons, List.length_nil, Nat.reduceAdd, Nat.reduceSub, Array.replicate_succ, Array.replicate_zero, List.push_toArray, List.append_toArray, List.nil_append, List.cons_append]
 gi_wp2
 have eY : (W.alloc (.cells #[.func (.yield l) #[] #[]] 65)).heap[W.heap.size]? = some (.cells #[.func (.yield l) #[] #[]] 65 (0, 0)) := World.alloc_heap_new W _
 have T1 : Turn W0 W (W.alloc (.cells #[.func (.yield l) #[] #[]] 65)) := Turn.of ((Below.refl _ W).alloc (Nat.le_refl _) _) (by omega)
 have hB1 := T1.obox hB
 have hF1 : EBox _ (W0 + 1) x0 := T1.cells _ _ hF rfl
 have hx1 := hx0.turn T1
 have hT1 := hT.keptC T1.toC
 have h01 := hJ [] _ _ (by omega) h0 T1
 have hs1 : (W.alloc (.cells #[.func (.yield l) #[] #[]] 65)).heap.size = W0 + 3 := by simp; omega
 generalize W.alloc (.cells #[.func (.yield l) #[] #[]] 65) = V at *
 obtain ⟨Y, hYe⟩ : ∃ Y, Y = W.heap.size := ⟨_, rfl⟩
 rw [← hYe] at eY hW0 ⊢
 clear hYe
 refine range_wide (w := V) rfl (enters_of Tryz.func44 (by kernel_rfl) rfl) (encs := fun x : EntD => #[.agg x.cells]) (Gd := fun _ => Nx G (fromS x0 T)) (Kp := fun _ => KpC G) (S := fun xs => xs = (fromS x0 T)) (Sp := fun pre => pre <+: (fromS x0 T))
  (fun l' n' J' Jx' X hX hJs' hJ' _ hY' h0' => ofrom1_in hJ' (fun m pre x W1 a b => (hY' m pre x W1 a b).mono (fun e w' h => h.imp id (fun k => ⟨k.1, k.2.1⟩))) X (Nat.le_refl _) (hX.obox hB1) (hX.cells _ _ hF1 rfl) (hx1.turn hX).ok (hT1.keptC hX.toC) h0') (fun h k => h.trans k) (fun X o o' ho hc => KpC.put o' ho hc) (fun _ => rfl)
  (fun pre X => ∃ qs, Sm qs pre ∧ J qs X ∧ IsT G X p T ∧ X.heap[Y]? = some (.cells #[.func (.yield l) #[] #[]] 65 (0, 0)) ∧ W0 + 3 ≤ X.heap.size)
  (fun c pre X => c = .ret ∧ ∃ qs, Sm qs pre ∧ Jx qs X ∧ W0 + 3 ≤ X.heap.size)
  (fun s X h => by rw [hs1]; exact h.choose_spec.2.2.2.2)
  (fun s X Z hX ⟨qs, k1, k2, k3, k4, k5⟩ t => ⟨qs, k1, hJ _ _ _ (by omega) k2 (t.mono (by omega)), k3.keptC t.toC, t.cells _ _ k4 rfl, Nat.le_trans k5 t.below.size⟩)
  (fun c s X Z hX ⟨k0, qs, k1, k2, k5⟩ t => ⟨k0, qs, k1, hJx _ _ _ (by omega) k2 (t.mono (by omega)), Nat.le_trans k5 t.below.size⟩)
  ⟨[], trivial, h01, hT1, eY, by omega⟩
  (fun pre x a' X => ∃ Bx, W0 + 4 ≤ Bx ∧ EBox X Bx x ∧ Nx G (fromS x0 T) pre x X ∧ a' = { tmps := #[.func (.func 44) #[] #[.pointer (some ⟨W0, 0, none⟩), .pointer (some ⟨W0 + 1, 0, none⟩)], .func (.yield l) #[] #[], undef, .pointer (some ⟨Y, 0, none⟩), .pointer (some ⟨Bx, 0, none⟩), .func (.func 44) #[] #[.pointer (some ⟨W0, 0, none⟩), .pointer (some ⟨W0 + 1, 0, none⟩)], .agg x.cells, undef, undef, undef, undef, undef], defers := [] })
  (fun pre x a' _ X Z hX ⟨Bx, k0, k1, k2, k3⟩ t => ⟨Bx, k0, t.cells _ _ k1 rfl, ⟨k2.1, k2.2.keptC t.toC⟩, k3⟩)
  ?assign ?body ?done ?stop (fun c s X h => by rw [hs1]; exact h.2.choose_spec.2.2)
 case assign =>
  intro l' pre x X K hi hsX hgd hK
  have hsX' : W0 + 4 ≤ X.heap.size := by omega
  obtain ⟨vr, fam, vq, ts, seq, kind, vv, row, qual, val⟩ := x
  have r1 : Rd X vr row := hgd.2.1.1
  have r2 : Rd X vq qual := hgd.2.2.1.1
  have r3 : Rd X vv val := hgd.2.2.2.1
  obtain ⟨ar, nr, cr, rfl⟩ := rd_slice r1
  obtain ⟨aq, nq, cq, rfl⟩ := rd_slice r2
  obtain ⟨av, nv, cv, rfl⟩ := rd_slice r3
  have hb := (Below.refl X.heap.size X).alloc (Nat.le_refl _) (.cells (EntD.mk (.slice ar nr cr) fam (.slice aq nq cq) ts seq kind (.slice av nv cv) row qual val).cells 38)
  have t := Turn.of (B := V.heap.size) hb (by omega)
  have HI : Hid (∃ qs, Sm qs pre ∧ J qs _ ∧ IsT G _ p T ∧ _ ∧ W0 + 3 ≤ _) := (fun ⟨qs, k1, k2, k3, k4, k5⟩ => ⟨qs, k1, hJ _ _ _ (by omega) k2 (t.mono (by omega)), k3.keptC t.toC, t.cells _ _ k4 rfl, Nat.le_trans k5 t.below.size⟩) hi
  have HN : Hid (Nx G (fromS x0 T) pre _ _) := ⟨hgd.1, hgd.2.keptC t.toC⟩
  have HT : Hid (Turn V.heap.size X _) := t
  have HX : Hid (EBox (X.alloc (.cells (EntD.mk (.slice ar nr cr) fam (.slice aq nq cq) ts seq kind (.slice av nv cv) row qual val).cells 38)) X.heap.size _) := EBox.new X _
  clear hb t hi hgd r1 r2 r3
  simp only [EntD.cells] at *
  gi_wp2
  exact hK _ _ ((KeepsOthers.alloc _ _).from _) HT.out.toC HI.out ⟨X.heap.size, hsX', HX.out, HN.out, rfl⟩
 case body =>
  rintro l' pre x a' X ⟨qs, k1, k2, k3, k4, k5⟩ ⟨Bx, hBx, bx, hnx, rfl⟩
  have hmx : Tryz.prog.follows .mixedOrders = true := by kernel_rfl
  have hdd : ∀ k : Nat, ((Fence.wide.inRound l').depth.isSome = true → 1 ≤ k) := fun k h => by cases h
  have hdd2 : ∀ k : Nat, (Fence.wide.depth.isSome = true → 1 ≤ k) := fun k h => by cases h
  have hXb : Bx < X.heap.size := (Array.getElem?_eq_some_iff.1 bx).1
  have yc : X.cell? ⟨Y, 0, none⟩ = some (.func (.yield l) #[] #[]) := by simp [World.cell?, k4]
  have HYc : Hid (∀ Z, Below X.heap.size X Z → Z.cell? ⟨Y, 0, none⟩ = some (.func (.yield l) #[] #[])) := fun Z b => (b.cell (p := ⟨Y, 0, none⟩) (World.block_lt_of_cell? _ _ yc)).trans yc
  have hmem : x ∈ (fromS x0 T) := by
   obtain ⟨r, hr⟩ := hnx.1
   rw [← hr]; simp
  have HC : Hid (∀ Z, Below X.heap.size X Z → Calls Tryz.prog 24 #[.agg x.cells] Z fun z w' => ∃ e : EntD, z = .returned (.agg e.cells) ∧ EntD.Same e x ∧ EOk (fun i => Z.heap.size ≤ i) w' e ∧ Below Z.heap.size Z w') := fun Z b => copyOf_any (hnx.2.ok.later b) (hlen x hmem)
  have HYY : Hid (∀ Z e, Below X.heap.size X Z → EntD.Same e x → EOk (fun i => X.heap.size ≤ i) Z e → YieldAt Fence.wide n Tryz.prog l #[.agg e.cells] Z fun z W' => ∃ t : Bool, z = .returned (.bool t) ∧ Hid ((t = true → KeepsFrom V.heap.size X W' ∧ KpC G X W' ∧ ∃ qs, Sm qs (pre ++ [x]) ∧ J qs W' ∧ IsT G W' p T ∧ W'.heap[Y]? = some (.cells #[.func (.yield l) #[] #[]] 65 (0, 0)) ∧ W0 + 3 ≤ W'.heap.size) ∧ (t = false → KeepsFrom V.heap.size X W' ∧ ∃ qs, Sm qs (pre ++ [x]) ∧ Jx qs W' ∧ W0 + 3 ≤ W'.heap.size))) := fun Z e b hse hek => by
   have tZ : Turn W0 X Z := Turn.of b (by omega)
   refine (hY n qs e Z (hJ _ _ _ (by omega) k2 tZ) ⟨by have := b.size; omega, ⟨pre ++ [x], hnx.1, k1.snoc hse⟩, hek.mono (fun i hi => by omega)⟩).mono ?_
   rintro z W' (⟨hz, j1, kp⟩ | ⟨hz, j1, kp⟩)
   ·refine ⟨true, hz, fun _ => ⟨((Oth.of b).trans kp.others).keeps.mono' (by omega), (KpC.trans (tZ.toC) (kp.keeps.mono (fun i hi => .inl hi))), qs ++ [e], k1.snoc hse, j1, (k3.keptC tZ.toC).keptC (kp.keeps.mono (fun i hi => .inl hi)), kp.keeps.cells _ _ (tZ.cells _ _ k4 rfl) rfl (.inr ⟨by omega, by omega⟩), ?_⟩, fun h => (by cases h)⟩
    have := b.size; have := kp.others.size; omega
   ·refine ⟨false, hz, fun h => (by cases h), fun _ => ⟨((Oth.of b).trans kp).keeps.mono' (by omega), qs ++ [e], k1.snoc hse, j1, ?_⟩⟩
    have := b.size; have := kp.size; omega
  obtain ⟨c0, c1, c2, c3, c4, c5, c6⟩ := (⟨bx.vr, bx.fam, bx.vq, bx.ts, bx.seq, bx.kind, bx.vv⟩ : _ ∧ _ ∧ _ ∧ _ ∧ _ ∧ _ ∧ _)
  have D0 : Below X.heap.size X X.drew := (Below.refl _ _).drew
  unfold EntD.cells at HC HYY
  unfold EntD.cells
  clear k1 k2 k3 hnx hmem bx hY hlen hJ hJx hT1 hT hB hB1 hF hF1 hx0 hx1
  gi_wp2
  gi_region_with_o (first | (refine ⟨trivial, hdd _, ?_⟩; gi_at_call 24; refine (CallsIn.inRound l' (callsIn_wide.2 (HC.out _ D0))).mono ?_; rintro z w1 ⟨e, rfl, hse, hek, hb1⟩; have yc1 := HYc.out _ (D0.trans (hb1.mono D0.size)); obtain ⟨fn, tmps, assign, body, hy, hR⟩ := HYY.out _ e (D0.trans (hb1.mono D0.size)) hse hek) | (refine ⟨hdd2 _, ?_⟩; refine (roundIn_inRound l' (roundIn_anyDepth hR)).mono ?_; rintro z W3 ⟨tt, rfl, hr⟩))
  all_goals
   cases tt
   ·gi_wp2
    have h2 := hr.out.2 (by first | rfl | trivial)
    exact ⟨by rw [← hs1]; exact h2.1, rfl, h2.2⟩
   ·gi_wp2
    have h2 := hr.out.1 (by first | rfl | trivial)
    exact ⟨by rw [← hs1]; exact h2.1, h2.2.1, h2.2.2⟩
 case done =>
  rintro D xs X hD rfl ⟨qs, k1, k2, k3, k4, k5⟩ hdf
  gi_wp2
  refine ⟨by simp, .inl ⟨_, _, rfl, run_takeDeferred hdf, ?_⟩⟩
  exact ⟨_, results_none rfl _ _ _, ⟨_, rfl⟩, .inl ⟨qs, k1, hJ _ _ _ (by omega) k2 (Turn.put _ (by omega) (by omega) hdf rfl)⟩⟩
 case stop =>
  rintro D c pre X hD hsp ⟨rfl, qs, k1, k2, k5⟩ hdf
  gi_wp2
  refine ⟨by simp, .inl ⟨_, _, rfl, run_takeDeferred hdf, ?_⟩⟩
  exact ⟨_, results_none rfl _ _ _, ⟨_, rfl⟩, .inr ⟨qs, ⟨pre, hsp, k1⟩, hJx _ _ _ (by omega) k2 (Turn.put _ (by omega) (by omega) hdf rfl)⟩⟩

set_option maxRecDepth 100000 in
set_option maxHeartbeats 4000000 in
theorem from_seq {G : Nat → Prop} {w : World} {Bt t : Nat} {p : Option Addr} {T : BT} {x0 : EntD} {Bf : Nat} {n k : Int} {f : Bool} (hBf : EBox w Bf x0) (hx0 : EOk (fun _ => True) w x0) (hBt : w.heap[Bt]? = some (.cells #[.pointer (some ⟨t, 0, none⟩)] 25 (0, 0))) (hb : TBox w t p n k f) (hT : IsT G w p T) (hlen : ∀ x ∈ (fromS x0 T), x.row.length ≤ 140737488355328 ∧ x.qual.length ≤ 140737488355328 ∧ x.val.length ≤ 140737488355328) :
  SeqW Tryz.prog 25 #[.pointer (some ⟨Bt, 0, none⟩), .pointer (some ⟨Bf, 0, none⟩)] (fun x : EntD => #[.agg x.cells]) (NxC (fromS x0 T)) (KpO G) (fun xs => Sm xs (fromS x0 T)) (fun pre => ∃ q, q <+: (fromS x0 T) ∧ Sm pre q) w := by
 intro l n' J Jx W hW hJs hJ hJx hY h0
 have hdd : ∀ k : Nat, (Fence.wide.depth.isSome = true → 1 ≤ k) := fun k h => by cases h
 have e1 := hW.cells _ _ hBt rfl
 have e2 : TBox W t p n k f := hW.cells _ _ hb rfl
 have e3 := hT.keptC hW.toC
 have c1 : W.cell? ⟨Bt, 0, none⟩ = some (.pointer (some ⟨t, 0, none⟩)) := by simp [World.cell?, e1]
 have c2 := e2.cells.1
 have c3 := e2.cells.2.1
 have f0 : EBox W Bf x0 := hW.cells _ _ hBf rfl
 have f1 := hx0.turn hW
 obtain ⟨d0, d1, d2, d3, d4, d5, d6⟩ := (⟨f0.vr, f0.fam, f0.vq, f0.ts, f0.seq, f0.kind, f0.vv⟩ : _ ∧ _ ∧ _ ∧ _ ∧ _ ∧ _ ∧ _)
 have D0 : Below W.heap.size W W.drew := (Below.refl _ _).drew
 have HC : Hid (∀ Z, Below W.heap.size W Z → Z.heap.size = W.heap.size + 2 → OBox Z W.heap.size p → EBox Z (W.heap.size + 1) x0 → Calls Tryz.prog 26 #[.func (.func 44) #[] #[.pointer (some ⟨W.heap.size, 0, none⟩), .pointer (some ⟨W.heap.size + 1, 0, none⟩)], .func (.yield l) #[] #[]] Z fun e W' => (∃ v, e = .returned v) ∧ ((∃ xs, Sm xs (fromS x0 T) ∧ J xs W') ∨ (∃ pre, (∃ q, q <+: fromS x0 T ∧ Sm pre q) ∧ Jx pre W'))) := fun Z bb hs bo bx => by
  have tW : Turn W.heap.size W Z := Turn.of bb (Nat.le_refl _)
  exact (callsIn_wide (n := 3)).1 (giveCopiesF_in (l := l) (n := 3) (J := J) (Jx := Jx) (W0 := W.heap.size) Z hs.symm bo bx (f1.turn tW) (e3.keptC tW.toC) hlen hJs hJ hJx hY (hJ _ _ _ (Nat.le_refl _) h0 tW))
 have HO : Hid (∀ wx, wx.heap.size = W.heap.size → Below W.heap.size W wx → Calls Tryz.prog 27 #[.agg #[.pointer p, .func (.func 22) #[] #[]], .agg x0.cells] wx fun e w' => e = .returned (.func (.func 44) #[] #[.pointer (some ⟨W.heap.size, 0, none⟩), .pointer (some ⟨W.heap.size + 1, 0, none⟩)]) ∧ Below W.heap.size W w' ∧ w'.heap.size = W.heap.size + 2 ∧ OBox w' W.heap.size p ∧ EBox w' (W.heap.size + 1) x0) := fun wx hs bb => by
  refine (ofrom_any wx p x0).mono ?_
  rintro z w' ⟨rfl, rfl⟩
  have A1 := (Below.refl wx.heap.size wx).alloc (Nat.le_refl _) (.cells #[.pointer p, .func (.func 22) #[] #[]] 61)
  have A2 := A1.alloc A1.size (.cells x0.cells 38)
  have bo := (OBox.new wx p).later ((Below.refl (wx.alloc (.cells #[.pointer p, .func (.func 22) #[] #[]] 61)).heap.size _).alloc (Nat.le_refl _) (.cells x0.cells 38))
  have bx := EBox.new (wx.alloc (.cells #[.pointer p, .func (.func 22) #[] #[]] 61)) x0
  rw [World.size_alloc] at bx
  rw [hs] at bo bx ⊢
  exact ⟨rfl, bb.trans (A2.mono bb.size), by simp [hs], bo, bx⟩
 refine callsIn_of_wp Tryz.func25 rfl trivial ?_ rfl
 simp only [Tryz.ntmps25, List.size_toArray, List.length_cons, List.length_nil, Nat.reduceAdd, Nat.reduceSub, Array.replicate_succ, Array.replicate_zero, List.push_toArray, List.append_toArray, List.nil_append, List.cons_append]
 clear hY hJ hJx hJs h0 e1 e2 e3 f0 f1
 unfold EntD.cells at HO HC
 have hmx : Tryz.prog.follows .mixedOrders = true := by kernel_rfl
 refine wpIn_wide.2 ?_
 go_wp2_with fail
 go_region_with_o (first | (go_at_call 27; refine Calls.mono (HO.out _ rfl D0) ?_; rintro z wz ⟨rfl, bz, hz, oz, ez⟩) | (go_at_call 26; refine Calls.mono (HC.out _ bz hz oz ez) ?_; rintro z W1 ⟨⟨v, rfl⟩, hr⟩))
 all_goals
  go_end0
  exact ⟨⟨_, rfl⟩, hr⟩
end Go.Proofs.YtpabbnddeklpdaaGreat


namespace Go.Proofs.YtpabbnddeklpdaaGreat
open Go.RowKit Go.Shelf
set_option linter.unusedVariables false
attribute [local go_sem] Oper.semAt_some

theorem dropWhile_all {α : Type} {p : α → Bool} : ∀ {l : List α}, (∀ y ∈ l, p y = true) → l.dropWhile p = []
 | [], _ => rfl
 | y :: l, h => by rw [List.dropWhile_cons, if_pos (h y (by simp))]; exact dropWhile_all (fun z hz => h z (by simp [hz]))
theorem fromS_drop (x : EntD) : ∀ T : BT, Srt T.ord → fromS x T = T.ord.dropWhile (fun y => decide (compareS y x < 0))
 | .leaf, _ => rfl
 | .node l e r, h => by
  simp only [BT.ord] at h ⊢
  have h1 : Srt l.ord := (List.pairwise_append.1 h).1
  have h2 := (List.pairwise_append.1 h).2.1
  have h3 : Srt r.ord := (List.pairwise_cons.1 h2).2
  rw [List.dropWhile_append, fromS]
  split
  ·rename_i hc
   have e1 : l.ord.dropWhile (fun y => decide (compareS y x < 0)) = [] := by
    refine dropWhile_all fun y hy => ?_
    have := (List.pairwise_append.1 h).2.2 y hy e (by simp)
    simpa using cmp_lt_trans this hc
   rw [e1, fromS_drop x r h3]
   simp [hc]
  ·rename_i hc
   rw [fromS_drop x l h1]
   split
   ·rename_i hn
    have : l.ord.dropWhile (fun y => decide (compareS y x < 0)) = [] := by simpa using hn
    rw [this]
    simp [hc]
   ·rfl
theorem fromS_same {x y : EntD} (h : ∀ z, compareS z x = compareS z y) : ∀ T : BT, fromS x T = fromS y T
 | .leaf => rfl
 | .node l e r => by rw [fromS, fromS, h e, fromS_same h l, fromS_same h r]
theorem compareS_noval (z e : EntD) (v : Value) (l : List Nat) : compareS z { e with vv := v, val := l } = compareS z e := rfl

set_option maxRecDepth 100000 in
set_option maxHeartbeats 4000000 in
theorem from_ans {w : World} {e : EntD} {v : Option Addr} (he : EntD.Ok w e) (hl : e.row.length ≤ 140737488355328 ∧ e.qual.length ≤ 140737488355328) :
  Calls Tryz.prog 7 #[.pointer v, .agg e.cells] w fun z w' => ∃ Bf x, z = .returned (.func (.func 25) #[] #[.pointer (some ⟨w.heap.size, 0, none⟩), .pointer (some ⟨Bf, 0, none⟩)]) ∧ Bxd w' w.heap.size 25 (.pointer v) ∧ EBox w' Bf x ∧ EntD.Same x { e with vv := .slice none 0 0, val := [] } ∧ EOk (fun i => w.heap.size ≤ i) w' x ∧ Below w.heap.size w w' ∧ w.heap.size + 2 ≤ w'.heap.size := by
 have A1 := (Below.refl w.heap.size w).alloc (Nat.le_refl _) (.cells #[.pointer v] 25)
 obtain ⟨d, hd⟩ : ∃ d : EntD, d = { e with vv := .slice none 0 0, val := [] } := ⟨_, rfl⟩
 have A2 := A1.alloc A1.size (.cells d.cells 38)
 have hed : EntD.Ok ((w.alloc (.cells #[.pointer v] 25)).alloc (.cells d.cells 38)) d := by
  rw [hd]
  rw [hd] at A2
  exact ⟨he.1.later A2, he.2.1.later A2, Rd.nil _⟩
 have HC : Hid (Calls Tryz.prog 24 _ _ _) := copyOf_any hed (by rw [hd]; exact ⟨hl.1, hl.2, by simp⟩)
 have HZ : Hid (Bxd ((w.alloc (.cells #[.pointer v] 25)).alloc (.cells d.cells 38)) w.heap.size 25 (.pointer v) ∧ ((w.alloc (.cells #[.pointer v] 25)).alloc (.cells d.cells 38)).heap.size = w.heap.size + 2) := ⟨(Bxd.new w _ _).keep (Below.heap_alloc _ _ _ (by simp)), by simp⟩
 have HA : Hid (Below w.heap.size w ((w.alloc (.cells #[.pointer v] 25)).alloc (.cells d.cells 38))) := A2
 obtain ⟨ar, nr, cr, e1⟩ := rd_slice he.1
 obtain ⟨aq, nq, cq, e2⟩ := rd_slice he.2.1
 obtain ⟨av, nv, cv, e3⟩ := rd_slice he.2.2
 have ed : d.cells = #[e.vr, .int .i64 e.fam, e.vq, .int .i64 e.ts, .int .i64 e.seq, .int .i64 e.kind, .slice none 0 0] := by rw [hd]; rfl
 have HD : Hid (∀ x, EntD.Same x d → EntD.Same x { e with vv := .slice none 0 0, val := [] }) := fun x h => by rw [← hd]; exact h
 rw [ed] at HC HA HZ
 unfold EntD.cells
 rw [e1, e2] at HC HA HZ
 rw [e1, e2, e3]
 clear A1 A2 he hl hed ed hd e1 e2 e3
 go_enter Tryz.func7, Tryz.ntmps7
 go_wp2_with fail
 refine Calls.mono HC.out ?_
 rintro z w1 ⟨x, rfl, hsm, hx, hb⟩
 have hsx := Lib.hid (HD.out _ hsm)
 have B1 := HA.out.trans (hb.mono HA.out.size)
 have z1 := Lib.hid (HZ.out.1.keep (hb.block _ HZ.out.1.lt))
 have z2 := Lib.hid (Nat.le_trans (Nat.le_of_eq HZ.out.2.symm) hb.size)
 have HX : Hid (EOk (fun i => w.heap.size ≤ i) (w1.alloc (.cells x.cells 38)) x) := (hx.mono (fun i hi => Nat.le_trans HA.out.size hi)).kept (KpG.of ((Below.refl w1.heap.size w1).alloc (Nat.le_refl _) _))
 have HE : Hid (EBox (w1.alloc (.cells x.cells 38)) w1.heap.size x) := EBox.new w1 x
 obtain ⟨br, mr, dr, e1⟩ := rd_slice hx.ok.1
 obtain ⟨bq, mq, dq, e2⟩ := rd_slice hx.ok.2.1
 obtain ⟨bv, mv, dv, e3⟩ := rd_slice hx.ok.2.2
 have ex : x.cells = #[.slice br mr dr, .int .i64 x.fam, .slice bq mq dq, .int .i64 x.ts, .int .i64 x.seq, .int .i64 x.kind, .slice bv mv dv] := by unfold EntD.cells; rw [e1, e2, e3]
 rw [ex] at HX HE ⊢
 clear hx hb HC HA HD HZ hsm e1 e2 e3 ex
 go_wp2
 go_ret
 refine ⟨_, x, rfl, z1.out.keep (Below.heap_alloc _ _ _ z1.out.lt), HE.out, hsx.out, HX.out, B1.alloc B1.size _, ?_⟩
 rw [World.size_alloc]
 have := z2.out
 omega
end Go.Proofs.YtpabbnddeklpdaaGreat


namespace Go.Proofs.YtpabbnddeklpdaaGreat
open Go.RowKit Go.Shelf
set_option linter.unusedVariables false

theorem add_tc {G : Nat → Prop} {w : World} {t : Nat} {L : List EntD} {k : Int} {e : EntD} (hb : Tb G w t L k false) (he : EntD.Ok w e) (hG : ∀ i, w.heap.size ≤ i → G i) (hsz : L.length < 1000000000) :
  Calls Tryz.prog 19 #[.pointer (some ⟨t, 0, none⟩), .agg e.cells] w fun z w' => ∃ c : Nat, z = .returned (.int .i64 (c : Int)) ∧ Apart t w w' ∧
   ((checkS e ≠ 0 ∧ c = checkS e ∧ Tb G w' t L k false) ∨ (checkS e = 0 ∧ (∃ y ∈ L, compareS e y = 0) ∧ c = 80 ∧ Tb G w' t L k false) ∨ (c = 0 ∧ checkS e = 0 ∧ (¬ ∃ y ∈ L, compareS e y = 0) ∧ ∃ A B x, L = A ++ B ∧ EntD.Same x e ∧ Tb G w' t (A ++ x :: B) (k + ((packL e).length : Nat)) false)) := by
 by_cases hc : checkS e = 0
 ·refine (add_tb hb he hG hsz).mono ?_
  rintro z w' ⟨c, hz, hap, ⟨h0, h1, h2⟩ | ⟨h0, h1, h2, h3, h4⟩⟩
  ·obtain ⟨k1, k2⟩ := h2 hc rfl
   exact ⟨c, hz, hap, .inr (.inl ⟨hc, k1, k2, h1⟩)⟩
  ·exact ⟨c, hz, hap, .inr (.inr ⟨h0, h1, h3, h4⟩)⟩
 ·refine (add_bad he hc).mono ?_
  rintro z w' ⟨rfl, hw⟩
  exact ⟨checkS e, rfl, Apart.of hw, .inl ⟨hc, rfl, hb.later hw⟩⟩

def RdL (w : World) (v : Value) (xs : List EntD) : Prop := ∃ a cap, v = .slice a xs.length cap ∧ xs.length ≤ cap ∧ cap ≤ maxLen ∧ xs.length ≤ 1000000 ∧ ((a = none ∧ cap = 0) ∨ ∃ b off, a = some ⟨b, off, none⟩) ∧ ∀ i x, xs[i]? = some x → EntD.Ok w x ∧ ∃ b off, a = some ⟨b, off, none⟩ ∧ Cs w b (off + i * 7) x
theorem RdL.later {w w' : World} {v : Value} {xs : List EntD} (h : RdL w v xs) (hb : Below w.heap.size w w') : RdL w' v xs := by
 obtain ⟨a, cap, h1, h2, h3, h4, h0, h5⟩ := h
 refine ⟨a, cap, h1, h2, h3, h4, h0, fun i x hx => ?_⟩
 obtain ⟨k1, b, off, k2, k3⟩ := h5 i x hx
 exact ⟨k1.later hb, b, off, k2, k3.later hb⟩
theorem RdL.nil (w : World) : RdL w (.slice none 0 0) [] := ⟨none, 0, rfl, Nat.le_refl _, Nat.zero_le _, Nat.zero_le _, .inl ⟨rfl, rfl⟩, fun i x h => by simp at h⟩
theorem RdL.slice {w : World} {v : Value} {xs : List EntD} (h : RdL w v xs) : ∃ a cap, v = .slice a xs.length cap := by
 obtain ⟨a, cap, h1, _⟩ := h
 exact ⟨a, cap, h1⟩
theorem RdL.of {w : World} {B : Nat} {v : Value} {xs : List EntD} (h : w.ownsRow B 38 7 v xs.length (evals xs)) (ho : ∀ x ∈ xs, EntD.Ok w x) (hl : xs.length ≤ 1000000) : RdL w v xs := by
 rcases h.2 with ⟨rfl, hn⟩ | ⟨g, cap, cur, rfl, h4, h5, h6, h7, h8⟩
 ·obtain rfl : xs = [] := List.length_eq_zero_iff.1 hn
  exact RdL.nil w
 ·refine ⟨_, cap, rfl, h6, h7, hl, .inr ⟨_, _, rfl⟩, fun i x hx => ⟨ho x (List.mem_of_getElem? hx), ?_⟩⟩
  obtain ⟨g', cap', e1, _, e3⟩ := row_cells h hx
  cases e1
  exact ⟨g, 0, rfl, by simpa using e3⟩
theorem Sm.at {xs ys : List EntD} (h : Sm xs ys) {i : Nat} (hi : i < xs.length) : ∃ x y, xs[i]? = some x ∧ ys[i]? = some y ∧ EntD.Same x y := by
 have hj : i < ys.length := by rw [← h.len]; exact hi
 exact ⟨xs[i], ys[i], by simp [hi], by simp [hj], h.get i _ _ (by simp [hi]) (by simp [hj])⟩

end Go.Proofs.YtpabbnddeklpdaaGreat

namespace Go.Proofs.YtpabbnddeklpdaaGreat
open Go.RowKit Go.Shelf
set_option linter.unusedVariables false

set_option maxRecDepth 100000 in
set_option maxHeartbeats 1000000 in
theorem copied8_any {v : Value} {bs : List Nat} {w : World} (hr : Rd w v bs) (hl : bs.length ≤ 140737488355328) :
  Calls Tryz.prog 71 #[v] w fun e w' => ∃ a m c, e = .returned (.slice a m c) ∧ Own w' w.heap.size (.slice a m c) m bs ∧ Below w.heap.size w w' := by
 obtain ⟨a, n, cap, rfl⟩ := rd_slice hr
 obtain ⟨hn, hle, hm, hl48⟩ := rd_lens hr
 rw [← hn] at hl
 clear hn
 go_enter Tryz.func71, Tryz.ntmps71
 go_wp2_with (at_builtin; refine wpList_append_at rfl _ _ rfl w.heap.size none 0 0 [] rfl ⟨rfl, World.ownsRow_nil _ _ _ _⟩ a n cap bs rfl hr (by omega) (Nat.le_refl _) ?_; intro a5 m5 c5 w5 own5 hb5)
 go_ret
 exact ⟨a5, m5, c5, rfl, by simpa using own5, hb5⟩

theorem RdL.drop {w : World} {b off n cap : Nat} {xs : List EntD} (h : RdL w (.slice (some ⟨b, off, none⟩) n cap) xs) {t : Nat} (ht : t ≤ n) : RdL w (.slice (some ⟨b, off + t * 7, none⟩) (n - t) (cap - t)) (xs.drop t) := by
 obtain ⟨a, c, h1, h2, h3, h4, h0, h5⟩ := h
 cases h1
 refine ⟨_, _, by rw [List.length_drop], by rw [List.length_drop]; omega, by omega, by rw [List.length_drop]; omega, .inr ⟨_, _, rfl⟩, fun i x hx => ?_⟩
 rw [List.getElem?_drop] at hx
 obtain ⟨k1, b', off', k2, k3⟩ := h5 _ _ hx
 cases k2
 exact ⟨k1, b, _, rfl, by rw [show off + t * 7 + i * 7 = off + (t + i) * 7 from by omega]; exact k3⟩
theorem drop_while {α : Type} {p : α → Bool} : ∀ {l : List α} {t : Nat} {x : α}, (∀ y ∈ l.take t, p y = true) → l[t]? = some x → p x = false → l.dropWhile p = l.drop t
 | [], t, x, _, h, _ => by simp at h
 | y :: l, 0, x, _, h, hx => by simp at h; subst h; rw [List.dropWhile_cons, if_neg (by simp [hx])]; rfl
 | y :: l, t + 1, x, h1, h, hx => by
  rw [List.dropWhile_cons, if_pos (h1 y (by simp))]
  exact drop_while (fun z hz => h1 z (by simp [hz])) (by simpa using h) hx
theorem mem_take_succ {α : Type} {l : List α} {t : Nat} {x y : α} (hx : l[t]? = some x) (h : y ∈ l.take (t + 1)) : y ∈ l.take t ∨ y = x := by
 rw [List.take_add_one, hx] at h
 simpa using h

def RBx (w : World) (b : Nat) (v : Value) (f : Bool) : Prop := w.heap[b]? = some (.cells #[v, .bool f] 29 (0, 0))
theorem RBx.later {w w' : World} {b : Nat} {v : Value} {f : Bool} (h : RBx w b v f) (hb : Below w.heap.size w w') : RBx w' b v f := (hb.block b (Array.getElem?_eq_some_iff.1 h).1).trans h
theorem RBx.c0 {w : World} {b : Nat} {v : Value} {f : Bool} (h : RBx w b v f) : w.cell? ⟨b, 0, none⟩ = some v := by unfold RBx at h; simp [World.cell?, h]
theorem RBx.c1 {w : World} {b : Nat} {v : Value} {f : Bool} (h : RBx w b v f) : w.cell? ⟨b, 1, none⟩ = some (.bool f) := by unfold RBx at h; simp [World.cell?, h]
theorem RBx.new (w : World) (v : Value) (f : Bool) : RBx (w.alloc (.cells #[v, .bool f] 29)) w.heap.size v f := World.alloc_heap_new w _

set_option maxRecDepth 100000 in
set_option maxHeartbeats 4000000 in
theorem refFrom_any {w : World} {lv : Value} {L : List EntD} {f : Bool} {e : EntD} (hl : RdL w lv L) (he : EntD.Ok w e) :
  Calls Tryz.prog 10 #[.agg #[lv, .bool f], .agg e.cells] w fun z w' => ∃ v, z = .returned v ∧ RdL w' v (L.dropWhile (fun y => decide (compareS y e < 0))) ∧ Below w.heap.size w w' := by
 have HL := Lib.hid hl
 have A1 := (Below.refl w.heap.size w).alloc (Nat.le_refl _) (.cells #[lv, .bool f] 29)
 have A2 := A1.alloc A1.size (.cells e.cells 38)
 have bt := (RBx.new w lv f).later ((Below.refl _ (w.alloc (.cells #[lv, .bool f] 29))).alloc (Nat.le_refl _) (.cells e.cells 38))
 have be := EBox.new (w.alloc (.cells #[lv, .bool f] 29)) e
 rw [World.size_alloc] at be
 obtain ⟨a, ca, rfl, a1, a2, a3, -, a4⟩ := hl
 obtain ⟨n, hn⟩ : ∃ n, n = L.length := ⟨_, rfl⟩
 rw [← hn] at a1 a3 HL A1 A2 bt be ⊢
 have HN : Hid (L.length = n) := hn.symm
 have HA4 := Lib.hid a4
 have HE := Lib.hid he
 obtain ⟨V, hV⟩ : ∃ V, V = (w.alloc (.cells #[.slice a n ca, .bool f] 29)).alloc (.cells e.cells 38) := ⟨_, rfl⟩
 rw [← hV] at A2 bt be
 have HV : Hid (V = _) := hV
 unfold EntD.cells at HV
 have HA2 := Lib.hid A2
 have c0 := bt.c0
 have KB : Hid (∀ wx, Below V.heap.size V wx → wx.cell? ⟨w.heap.size, 0, none⟩ = some (.slice a n ca) ∧ wx.cell? ⟨w.heap.size + 1, 0, none⟩ = some e.vr ∧ wx.cell? ⟨w.heap.size + 1, 1, none⟩ = some (.int .i64 e.fam) ∧ wx.cell? ⟨w.heap.size + 1, 2, none⟩ = some e.vq ∧ wx.cell? ⟨w.heap.size + 1, 3, none⟩ = some (.int .i64 e.ts) ∧ wx.cell? ⟨w.heap.size + 1, 4, none⟩ = some (.int .i64 e.seq) ∧ wx.cell? ⟨w.heap.size + 1, 5, none⟩ = some (.int .i64 e.kind) ∧ wx.cell? ⟨w.heap.size + 1, 6, none⟩ = some e.vv) := fun wx b => by
  have k1 := bt.later b
  have k2 := be.later b
  exact ⟨k1.c0, k2.vr, k2.fam, k2.vq, k2.ts, k2.seq, k2.kind, k2.vv⟩
 clear hn a4 he hV A1 A2 bt be c0
 unfold EntD.cells
 go_enter Tryz.func10, Tryz.ntmps10
 go_wp2
 rw [← HV.out]
 go_loopw [5] (fun i wr => ∃ t : Nat, t ≤ n ∧ i = .int .i64 (t : Int) ∧ Hid (∀ y ∈ L.take t, compareS y e < 0) ∧ Below V.heap.size V wr) (fun i _ => n - (intOf i).toNat)
 case atStart => exact ⟨0, by omega, rfl, (fun y hy => by simp at hy), Below.refl _ _⟩
 case round =>
  obtain ⟨t, htn, rfl, HT, hbk⟩ := hrel
  have HBK := Lib.hid hbk
  obtain ⟨c0, d0, d1, d2, d3, d4, d5, d6⟩ := KB.out _ hbk
  by_cases h1 : t < n
  ·have h1' : (t : Int) < (n : Int) := by omega
   have ht0 : (0 : Int) ≤ (t : Int) := by omega
   obtain ⟨x, hx⟩ : ∃ x, L[t]? = some x := ⟨L[t]'(by rw [HN.out]; exact h1), by simp⟩
   obtain ⟨ox, ba, oa, rfl, cx⟩ := HA4.out t x hx
   have KS : Hid (∀ wx, Below wr.heap.size wr wx → (wx.cell? ⟨w.heap.size, 0, none⟩ = some (.slice (some ⟨ba, oa, none⟩) n ca) ∧ wx.cell? ⟨w.heap.size + 1, 0, none⟩ = some e.vr ∧ wx.cell? ⟨w.heap.size + 1, 1, none⟩ = some (.int .i64 e.fam) ∧ wx.cell? ⟨w.heap.size + 1, 2, none⟩ = some e.vq ∧ wx.cell? ⟨w.heap.size + 1, 3, none⟩ = some (.int .i64 e.ts) ∧ wx.cell? ⟨w.heap.size + 1, 4, none⟩ = some (.int .i64 e.seq) ∧ wx.cell? ⟨w.heap.size + 1, 5, none⟩ = some (.int .i64 e.kind) ∧ wx.cell? ⟨w.heap.size + 1, 6, none⟩ = some e.vv) ∧ (wx.cell? ⟨ba, oa + t * 7, none⟩ = some x.vr ∧ wx.cell? ⟨ba, oa + t * 7 + 1, none⟩ = some (.int .i64 x.fam) ∧ wx.cell? ⟨ba, oa + t * 7 + 2, none⟩ = some x.vq ∧ wx.cell? ⟨ba, oa + t * 7 + 3, none⟩ = some (.int .i64 x.ts) ∧ wx.cell? ⟨ba, oa + t * 7 + 4, none⟩ = some (.int .i64 x.seq) ∧ wx.cell? ⟨ba, oa + t * 7 + 5, none⟩ = some (.int .i64 x.kind) ∧ wx.cell? ⟨ba, oa + t * 7 + 6, none⟩ = some x.vv)) := fun wx b => by
    have k := (HBK.out.trans (b.mono HBK.out.size))
    exact ⟨KB.out _ k, cx.later (HA2.out.trans (k.mono HA2.out.size))⟩
   have HC : Hid (∀ Z, Below wr.heap.size wr Z → Calls Tryz.prog 34 #[.agg #[x.vr, .int .i64 x.fam, x.vq, .int .i64 x.ts, .int .i64 x.seq, .int .i64 x.kind, x.vv], .agg #[e.vr, .int .i64 e.fam, e.vq, .int .i64 e.ts, .int .i64 e.seq, .int .i64 e.kind, e.vv]] Z fun r w' => r = .returned (.int .i64 (compareS x e)) ∧ Below Z.heap.size Z w') := fun Z hZ => by
    have k := (HBK.out.trans (hZ.mono HBK.out.size))
    have k2 := HA2.out.trans (k.mono HA2.out.size)
    exact refCompare_any (ox.later k2) (HE.out.later k2)
   have HX : Hid (compareS x e < 0 → ∀ y ∈ L.take (t + 1), compareS y e < 0) := fun hc y hy => by
    rcases mem_take_succ hx hy with h | rfl
    ·exact HT.out y h
    ·exact hc
   have HD : Hid (¬ compareS x e < 0 → L.dropWhile (fun y => decide (compareS y e < 0)) = L.drop t) := fun hc => drop_while (fun y hy => by simpa using HT.out y hy) hx (by simpa using hc)
   obtain ⟨cc, hcc⟩ : ∃ cc, cc = compareS x e := ⟨_, rfl⟩
   rw [← hcc] at HC HX HD
   have D0 : Below wr.heap.size wr wr.drew := (Below.refl _ _).drew
   clear hx ox cx hbk hcc HT
   by_cases hcz : cc < 0
   ·have hd : ¬ (0 : Int) ≤ cc := by omega
    go_wp2_with fail
    go_region_held3 (fun wx => (wx.cell? ⟨w.heap.size, 0, none⟩ = some (.slice (some ⟨ba, oa, none⟩) n ca) ∧ wx.cell? ⟨w.heap.size + 1, 0, none⟩ = some e.vr ∧ wx.cell? ⟨w.heap.size + 1, 1, none⟩ = some (.int .i64 e.fam) ∧ wx.cell? ⟨w.heap.size + 1, 2, none⟩ = some e.vq ∧ wx.cell? ⟨w.heap.size + 1, 3, none⟩ = some (.int .i64 e.ts) ∧ wx.cell? ⟨w.heap.size + 1, 4, none⟩ = some (.int .i64 e.seq) ∧ wx.cell? ⟨w.heap.size + 1, 5, none⟩ = some (.int .i64 e.kind) ∧ wx.cell? ⟨w.heap.size + 1, 6, none⟩ = some e.vv) ∧ (wx.cell? ⟨ba, oa + t * 7, none⟩ = some x.vr ∧ wx.cell? ⟨ba, oa + t * 7 + 1, none⟩ = some (.int .i64 x.fam) ∧ wx.cell? ⟨ba, oa + t * 7 + 2, none⟩ = some x.vq ∧ wx.cell? ⟨ba, oa + t * 7 + 3, none⟩ = some (.int .i64 x.ts) ∧ wx.cell? ⟨ba, oa + t * 7 + 4, none⟩ = some (.int .i64 x.seq) ∧ wx.cell? ⟨ba, oa + t * 7 + 5, none⟩ = some (.int .i64 x.kind) ∧ wx.cell? ⟨ba, oa + t * 7 + 6, none⟩ = some x.vv)) (first | exact KS.out _ D1 | exact KS.out _ D0) ((go_at_call 34; refine Calls.mono (HC.out _ D0) ?_; rintro e1 w1 ⟨rfl, hb1⟩; have D1 := D0.trans (hb1.mono D0.size)))
    go_wp2
    go_roundw
    case rel => exact ⟨t + 1, by omega, by go_num, HX.out hcz, HBK.out.trans (D1.mono HBK.out.size)⟩
    case measure => simp [intOf]; omega
   ·have hd : (0 : Int) ≤ cc := by omega
    have htn' : (t : Int) ≤ (n : Int) := by omega
    have htc' : (t : Int) ≤ (ca : Int) := by omega
    have hnc' : (n : Int) ≤ (ca : Int) := by omega
    go_wp2_with fail
    go_region_held3 (fun wx => (wx.cell? ⟨w.heap.size, 0, none⟩ = some (.slice (some ⟨ba, oa, none⟩) n ca) ∧ wx.cell? ⟨w.heap.size + 1, 0, none⟩ = some e.vr ∧ wx.cell? ⟨w.heap.size + 1, 1, none⟩ = some (.int .i64 e.fam) ∧ wx.cell? ⟨w.heap.size + 1, 2, none⟩ = some e.vq ∧ wx.cell? ⟨w.heap.size + 1, 3, none⟩ = some (.int .i64 e.ts) ∧ wx.cell? ⟨w.heap.size + 1, 4, none⟩ = some (.int .i64 e.seq) ∧ wx.cell? ⟨w.heap.size + 1, 5, none⟩ = some (.int .i64 e.kind) ∧ wx.cell? ⟨w.heap.size + 1, 6, none⟩ = some e.vv) ∧ (wx.cell? ⟨ba, oa + t * 7, none⟩ = some x.vr ∧ wx.cell? ⟨ba, oa + t * 7 + 1, none⟩ = some (.int .i64 x.fam) ∧ wx.cell? ⟨ba, oa + t * 7 + 2, none⟩ = some x.vq ∧ wx.cell? ⟨ba, oa + t * 7 + 3, none⟩ = some (.int .i64 x.ts) ∧ wx.cell? ⟨ba, oa + t * 7 + 4, none⟩ = some (.int .i64 x.seq) ∧ wx.cell? ⟨ba, oa + t * 7 + 5, none⟩ = some (.int .i64 x.kind) ∧ wx.cell? ⟨ba, oa + t * 7 + 6, none⟩ = some x.vv)) (first | exact KS.out _ D1 | exact KS.out _ D0) ((go_at_call 34; refine Calls.mono (HC.out _ D0) ?_; rintro e1 w1 ⟨rfl, hb1⟩; have D1 := D0.trans (hb1.mono D0.size); have c1 := (KB.out _ (HBK.out.trans (D1.mono HBK.out.size))).1))
    go_wp2
    go_ret
    have k := HBK.out.trans (D1.mono HBK.out.size)
    have k2 := HA2.out.trans (k.mono HA2.out.size)
    refine ⟨_, rfl, ?_, k2⟩
    rw [HD.out (by first | exact hcz | exact Int.not_lt.1 hcz)]
    have := (HL.out.later k2).drop (t := t) htn
    first | exact this | go_num
  ·have h1' : (n : Int) ≤ (t : Int) := by omega
   have HZ : Hid (L.dropWhile (fun y => decide (compareS y e < 0)) = []) := dropWhile_all (fun y hy => by
    have := HT.out y (by rw [List.take_of_length_le (by rw [HN.out]; omega)]; exact hy)
    simpa using this)
   clear HT
   go_wp2
   go_ret
   exact ⟨_, rfl, by rw [HZ.out]; exact RdL.nil _, HA2.out.trans (HBK.out.mono HA2.out.size)⟩
end Go.Proofs.YtpabbnddeklpdaaGreat


namespace Go.Proofs.YtpabbnddeklpdaaGreat
open Go.RowKit Go.Shelf
set_option linter.unusedVariables false

set_option maxRecDepth 100000 in
set_option maxHeartbeats 4000000 in
theorem refBytes8_any {w : World} {lv : Value} {L : List EntD} {f : Bool} (hl : RdL w lv L) (hg : ∀ x ∈ L, checkS x = 0) :
  Calls Tryz.prog 14 #[.agg #[lv, .bool f]] w fun z w' => z = .returned (.int .i64 ((pk L : Nat) : Int)) ∧ Below w.heap.size w w' := by
 have A1 := (Below.refl w.heap.size w).alloc (Nat.le_refl _) (.cells #[lv, .bool f] 29)
 have bt := RBx.new w lv f
 have HP : Hid (∀ t x, L[t]? = some x → pk (L.take (t + 1)) = pk (L.take t) + (packL x).length ∧ (packL x).length ≤ 20000 ∧ checkS x = 0) := fun t x hx => by
  have hc := hg x (List.mem_of_getElem? hx)
  obtain ⟨_, _, _, _, _, _, _, a4⟩ := hl
  exact ⟨pk_take hx, packL_len (a4 t x hx).1 hc, hc⟩
 obtain ⟨a, ca, rfl, a1, a2, a3, -, a4⟩ := hl
 obtain ⟨n, hn⟩ : ∃ n, n = L.length := ⟨_, rfl⟩
 rw [← hn] at a1 a3 A1 bt ⊢
 have HN : Hid (L.length = n) := hn.symm
 have HA4 := Lib.hid a4
 obtain ⟨V, hV⟩ : ∃ V, V = (w.alloc (.cells #[.slice a n ca, .bool f] 29)) := ⟨_, rfl⟩
 rw [← hV] at A1 bt
 have HV : Hid (V = _) := hV
 have HA2 := Lib.hid A1
 have KB : Hid (∀ wx, Below V.heap.size V wx → wx.cell? ⟨w.heap.size, 0, none⟩ = some (.slice a n ca)) := fun wx b => (bt.later b).c0
 clear hn a4 hV A1 bt hg
 go_enter Tryz.func14, Tryz.ntmps14
 go_wp2
 rw [← HV.out]
 go_loopw [3, 4] (fun s i wr => ∃ t k : Nat, t ≤ n ∧ i = .int .i64 (t : Int) ∧ s = .int .i64 (k : Int) ∧ k ≤ 20000 * t ∧ Hid (k = pk (L.take t)) ∧ Below V.heap.size V wr) (fun s i _ => n - (intOf i).toNat)
 case atStart => exact ⟨0, 0, by omega, rfl, rfl, by omega, rfl, Below.refl _ _⟩
 case round =>
  obtain ⟨t, k, htn, rfl, rfl, hk, HK, hbk⟩ := hrel
  have HBK := Lib.hid hbk
  have c0 := KB.out _ hbk
  by_cases h1 : t < n
  ·have h1' : (t : Int) < (n : Int) := by omega
   have ht0 : (0 : Int) ≤ (t : Int) := by omega
   obtain ⟨x, hx⟩ : ∃ x, L[t]? = some x := ⟨L[t]'(by rw [HN.out]; exact h1), by simp⟩
   obtain ⟨ox, ba, oa, rfl, cx⟩ := HA4.out t x hx
   obtain ⟨p1, p2, p3⟩ := HP.out t x hx
   have HC : Hid (∀ Z, Below wr.heap.size wr Z → Calls Tryz.prog 36 #[.agg #[x.vr, .int .i64 x.fam, x.vq, .int .i64 x.ts, .int .i64 x.seq, .int .i64 x.kind, x.vv]] Z fun r w' => ∃ a m c, r = .returned (.tuple #[.slice a m c, .int .i64 0]) ∧ Own w' Z.heap.size (.slice a m c) m (packL x) ∧ Below Z.heap.size Z w') := fun Z hZ => by
    have k := (HBK.out.trans (hZ.mono HBK.out.size))
    have k2 := HA2.out.trans (k.mono HA2.out.size)
    exact refPack_ok (ox.later k2) p3
   have HPk : Hid (pk (L.take (t + 1)) = pk (L.take t) + (packL x).length) := p1
   have HPl : Hid ((packL x).length ≤ 20000) := p2
   have cxl := cx.later (HA2.out.trans (HBK.out.mono HA2.out.size))
   obtain ⟨d0, d1, d2, d3, d4, d5, d6⟩ := cxl
   clear hx ox cx hbk p1 p2 p3
   go_wp2_with (go_at_call 36; refine Calls.mono (HC.out _ (by first | exact Below.refl _ _ | exact (Below.refl _ _).drew)) ?_; rintro z w1 ⟨ap, mp, cp, rfl, ownp, hb1⟩; have hmp := HPl.out; have hme : mp = (packL x).length := ownp.1; rw [← hme] at hmp; have HME := Lib.hid hme; clear hme ownp)
   go_roundw
   case rel => exact ⟨t + 1, k + mp, by omega, by go_num, by go_num, by omega, by unfold Hid; rw [HPk.out, ← HK.out, HME.out], HBK.out.trans (hb1.mono HBK.out.size)⟩
   case measure => simp [intOf]; omega
  ·have h1' : (n : Int) ≤ (t : Int) := by omega
   have HZ : Hid (k = pk L) := by
    have := HK.out
    rwa [List.take_of_length_le (by rw [HN.out]; omega)] at this
   clear HK
   go_wp2
   go_ret
   exact ⟨by rw [HZ.out]; rfl, HA2.out.trans (HBK.out.mono HA2.out.size)⟩

theorem RdL.take {w : World} {a : Option Addr} {n cap : Nat} {xs : List EntD} (h : RdL w (.slice a n cap) xs) {t : Nat} (ht : t ≤ n) : RdL w (.slice a t cap) (xs.take t) := by
 obtain ⟨a', c, h1, h2, h3, h4, h0, h5⟩ := h
 cases h1
 refine ⟨_, _, by rw [List.length_take, Nat.min_eq_left ht], by rw [List.length_take]; omega, h3, by rw [List.length_take]; omega, h0, fun i x hx => ?_⟩
 rw [List.getElem?_take] at hx
 split at hx
 ·exact h5 i x hx
 ·cases hx
theorem evals_app (a b : List EntD) : evals (a ++ b) = evals a ++ evals b := by simp [evals]
theorem evals_len : ∀ (xs : List EntD), (evals xs).length = xs.length * 7
 | [] => rfl
 | x :: xs => by
  have h := evals_len xs
  have e : evals (x :: xs) = x.cells.toList ++ evals xs := by simp [evals]
  have e2 : x.cells.toList.length = 7 := rfl
  rw [e, List.length_append, h, e2, List.length_cons]
  omega
theorem evals_get7 : ∀ {xs : List EntD} {j : Nat} {u : Value}, (evals xs)[j]? = some u → ∃ x, xs[j / 7]? = some x ∧ x.cells.toList[j % 7]? = some u
 | [], j, u, h => by simp [evals] at h
 | x :: xs, j, u, h => by
  have e : evals (x :: xs) = x.cells.toList ++ evals xs := by simp [evals]
  rw [e] at h
  by_cases hj : j < 7
  ·rw [List.getElem?_append_left (show j < x.cells.toList.length from hj)] at h
   rw [Nat.div_eq_of_lt hj, Nat.mod_eq_of_lt hj]
   exact ⟨x, by simp, h⟩
  ·rw [List.getElem?_append_right (show x.cells.toList.length ≤ j from by show 7 ≤ j; omega)] at h
   have h' : (evals xs)[j - 7]? = some u := h
   obtain ⟨y, h1, h2⟩ := evals_get7 h'
   have e1 : j / 7 = (j - 7) / 7 + 1 := by omega
   have e2 : j % 7 = (j - 7) % 7 := by omega
   rw [e1, e2]
   exact ⟨y, by simpa using h1, h2⟩
theorem Cs.get {w : World} {b o : Nat} {x : EntD} (h : Cs w b o x) {j : Nat} {u : Value} (hu : x.cells.toList[j]? = some u) : w.cell? ⟨b, o + j, none⟩ = some u := by
 obtain ⟨h0, h1, h2, h3, h4, h5, h6⟩ := h
 have hj : j < 7 := by
  have := (List.getElem?_eq_some_iff.1 hu).1
  simpa [EntD.cells] using this
 obtain rfl | rfl | rfl | rfl | rfl | rfl | rfl : j = 0 ∨ j = 1 ∨ j = 2 ∨ j = 3 ∨ j = 4 ∨ j = 5 ∨ j = 6 := by omega
 all_goals
  simp [EntD.cells] at hu
  subst hu
  assumption
theorem cells_one {w : World} {x : EntD} (h : EntD.Ok w x) : ∀ u ∈ x.cells.toList, u.oneCell' = true := by
 obtain ⟨ar, nr, cr, e1⟩ := rd_slice h.1
 obtain ⟨aq, nq, cq, e2⟩ := rd_slice h.2.1
 obtain ⟨av, nv, cv, e3⟩ := rd_slice h.2.2
 unfold EntD.cells
 rw [e1, e2, e3]
 simp [Value.oneCell']

set_option maxRecDepth 100000 in
theorem wpList_append_ents {w : World} {ops : Array Oper} {rest : List Oper} {o : Oper} {a : Act} {Q : Exit → Act → World → Prop} (hgd : o.guard = none) (s x : Operand)
  (ho : o.op = .call { callee := .builtin .append, args := #[s, x], argTypes := #[27, 27] })
  (B : Nat) (v : Value) (xs : List EntD) (hs : a.eval s = v) (hown : w.ownsRow B 38 7 v xs.length (evals xs))
  (u : Value) (ys : List EntD) (hx : a.eval x = u) (hu : RdL w u ys) (hn : xs.length + ys.length ≤ 1000000) (hB : B ≤ w.heap.size)
  (h : ∀ a' n' c' w', n' = (xs ++ ys).length → w'.ownsRow B 38 7 (.slice a' n' c') (xs ++ ys).length (evals (xs ++ ys)) → Below B w w' → KU w w' → wpList Tryz.prog ops Q rest (a.put o.dst (.slice a' n' c')) w') : wpList Tryz.prog ops Q (o :: rest) a w := by
 obtain ⟨i0, hi, hz0, hz1, hz2⟩ := info_parts info_ent
 obtain ⟨ad, cap, rfl, h1, h2, h3, h0, h5⟩ := hu
 cases ad with
 | none =>
  obtain rfl : ys = [] := by
   cases ys with
   | nil => rfl
   | cons y ys => obtain ⟨_, b, off, k, _⟩ := h5 0 y (by simp); cases k
  obtain rfl : cap = 0 := by
   rcases h0 with h | ⟨_, _, h⟩
   ·exact h.2
   ·cases h
  obtain ⟨a', c', rfl⟩ := row_slice (by decide) hown
  refine wpList_append_own_none hgd s x 27 ho B 38 i0 7 und_ents hi _ _ _ hs hown (by simpa using hx) ?_
  exact h _ _ _ _ (by simp) (by simpa using hown) (Below.refl _ _) (fun _ _ _ h => h)
 | some ad =>
  refine wpList_append_own _ hgd s x 27 ho B 38 i0 _ 7 104 und_ents hi hz0 hz1 hz2 rfl (by decide) _ _ _ hs hown ad ys.length cap (evals ys) hx (evals_len ys) (fun j u hj => ?_) (fun u hu => ?_) (by unfold maxLen; omega) (by omega) hB ?_
  ·obtain ⟨y, e1, e2⟩ := evals_get7 hj
   obtain ⟨_, b, off, k, cs⟩ := h5 _ _ e1
   cases k
   have e : (⟨b, off, none⟩ : Addr).add j = ⟨b, off + j, none⟩ := by unfold Addr.add; split <;> simp_all
   rw [e]
   have := cs.get e2
   rwa [show off + j / 7 * 7 + j % 7 = off + j from by omega] at this
  ·obtain ⟨j, hj⟩ := List.getElem?_of_mem hu
   obtain ⟨y, e1, e2⟩ := evals_get7 hj
   exact cells_one (h5 _ _ e1).1 u (List.mem_of_getElem? e2)
  ·intro v' w' k1 k2 k3
   rw [← evals_app, ← List.length_append] at k1
   obtain ⟨a', c', rfl⟩ := row_slice (by decide) k1
   refine h _ _ _ _ rfl k1 ((Below.refl B w).grown k2 hB (fun k hk => (own_at hown hk).1)) (KU.grown k2 (fun r hr => ?_))
   obtain ⟨_, cur, hc⟩ := own_at hown hr
   exact ⟨cur, _, _, hc, by decide⟩
end Go.Proofs.YtpabbnddeklpdaaGreat

