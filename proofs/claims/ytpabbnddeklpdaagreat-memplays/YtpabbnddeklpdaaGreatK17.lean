import Derived.Test.YtpabbnddeklpdaaGreatK16
namespace Go.Proofs.YtpabbnddeklpdaaGreat
open Go.RowKit Go.Shelf
set_option linter.unusedVariables false
attribute [local go_sem] Oper.semAt_some

def NxO (L : List EntD) (B : Nat) (pre : List EntD) (x : EntD) (Wp W : World) : Prop := NxC L B pre x W ∧ O3 W Wp.heap.size x ∧ Below Wp.heap.size Wp W ∧ B + 4 ≤ Wp.heap.size

set_option maxRecDepth 100000 in
set_option maxHeartbeats 4000000 in
theorem giveCopiesO_in {l n : Nat} {G : Nat → Prop} {p : Option Addr} {T : BT} {J Jx : List EntD → World → Prop} {W0 : Nat} (W : World) (hW0 : W0 + 1 = W.heap.size) (hB : OBox W W0 p) (hT : IsT G W p T) (hlen : ∀ x ∈ T.ord, x.row.length ≤ 140737488355328 ∧ x.qual.length ≤ 140737488355328 ∧ x.val.length ≤ 140737488355328)
  (hJs : ∀ s X, J s X → W0 ≤ X.heap.size) (hJ : AbT W0 J) (hJx : AbT W0 Jx)
  (hY : ∀ m pre x Wp W1, J pre Wp → J pre W1 → NxO T.ord W0 pre x Wp W1 → YieldAt Fence.wide m Tryz.prog l #[.agg x.cells] W1 fun e W' => (e = .returned (.bool true) ∧ J (pre ++ [x]) W' ∧ KpO G W0 W1 W') ∨ (e = .returned (.bool false) ∧ Jx (pre ++ [x]) W' ∧ Oth W0 W1 W'))
  (h0 : J [] W) :
  CallsIn Fence.wide n Tryz.prog 26 #[.func (.func 57) #[] #[.pointer (some ⟨W0, 0, none⟩)], .func (.yield l) #[] #[]] W fun e W' => (∃ v, e = .returned v) ∧ ((∃ xs, Sm xs T.ord ∧ J xs W') ∨ (∃ pre, (∃ q, q <+: T.ord ∧ Sm pre q) ∧ Jx pre W')) := by
 refine callsIn_of_wp_marks Tryz.func26 rfl trivial ?_ rfl
 simp only [Tryz.ntmps26, List.size_toArray, List.length_cons, List.length_nil, Nat.reduceAdd, Nat.reduceSub, Array.replicate_succ, Array.replicate_zero, List.push_toArray, List.append_toArray, List.nil_append, List.cons_append]
 gi_wp2
 have eY : (W.alloc (.cells #[.func (.yield l) #[] #[]] 65)).heap[W.heap.size]? = some (.cells #[.func (.yield l) #[] #[]] 65 (0, 0)) := World.alloc_heap_new W _
 have T1 : Turn W0 W (W.alloc (.cells #[.func (.yield l) #[] #[]] 65)) := Turn.of ((Below.refl _ W).alloc (Nat.le_refl _) _) (by omega)
 have hB1 := T1.obox hB
 have hT1 := hT.keptC T1.toC
 have h01 := hJ [] _ _ (by omega) h0 T1
 have hs1 : (W.alloc (.cells #[.func (.yield l) #[] #[]] 65)).heap.size = W0 + 2 := by simp; omega
 generalize W.alloc (.cells #[.func (.yield l) #[] #[]] 65) = V at *
 obtain ⟨Y, hYe⟩ : ∃ Y, Y = W.heap.size := ⟨_, rfl⟩
 rw [← hYe] at eY hW0 ⊢
 clear hYe
 refine range_wide (w := V) rfl (enters_of Tryz.func57 (by kernel_rfl) rfl) (encs := fun x : EntD => #[.agg x.cells]) (Gd := fun _ => Nx G T.ord) (Kp := fun _ => KpC G) (S := fun xs => xs = T.ord) (Sp := fun pre => pre <+: T.ord)
  (fun l' n' J' Jx' X hX _ _ _ hY' h0' => oall1_in (fun m pre x W1 a b => (hY' m pre x W1 a b).mono (fun e w' h => h.imp id (fun k => ⟨k.1, k.2.1⟩))) X (hX.obox hB1) (hT1.keptC hX.toC) h0') (fun h k => h.trans k) (fun X o o' ho hc => KpC.put o' ho hc) (fun _ => rfl)
  (fun pre X => ∃ qs, Sm qs pre ∧ J qs X ∧ IsT G X p T ∧ X.heap[Y]? = some (.cells #[.func (.yield l) #[] #[]] 65 (0, 0)) ∧ W0 + 2 ≤ X.heap.size)
  (fun c pre X => c = .ret ∧ ∃ qs, Sm qs pre ∧ Jx qs X ∧ W0 + 2 ≤ X.heap.size)
  (fun s X h => by rw [hs1]; exact h.choose_spec.2.2.2.2)
  (fun s X Z hX ⟨qs, k1, k2, k3, k4, k5⟩ t => ⟨qs, k1, hJ _ _ _ (by omega) k2 (t.mono (by omega)), k3.keptC t.toC, t.cells _ _ k4 rfl, Nat.le_trans k5 t.below.size⟩)
  (fun c s X Z hX ⟨k0, qs, k1, k2, k5⟩ t => ⟨k0, qs, k1, hJx _ _ _ (by omega) k2 (t.mono (by omega)), Nat.le_trans k5 t.below.size⟩)
  ⟨[], trivial, h01, hT1, eY, by omega⟩
  (fun pre x a' X => ∃ Bx, W0 + 4 ≤ Bx ∧ EBox X Bx x ∧ Nx G T.ord pre x X ∧ a' = { tmps := #[.func (.func 57) #[] #[.pointer (some ⟨W0, 0, none⟩)], .func (.yield l) #[] #[], undef, .pointer (some ⟨Y, 0, none⟩), .pointer (some ⟨Bx, 0, none⟩), .func (.func 57) #[] #[.pointer (some ⟨W0, 0, none⟩)], .agg x.cells, undef, undef, undef, undef, undef], defers := [] })
  (fun pre x a' _ X Z hX ⟨Bx, k0, k1, k2, k3⟩ t => ⟨Bx, k0, t.cells _ _ k1 rfl, ⟨k2.1, k2.2.keptC t.toC⟩, k3⟩)
  ?assign ?body ?done ?stop (fun c s X h => by rw [hs1]; exact h.2.choose_spec.2.2)
 case assign =>
  intro l' pre x X K hi hsX hgd hK
  have hsX' : W0 + 4 ≤ X.heap.size := by omega
  obtain ⟨vr, fam, vq, ts, seq, kind, vv, row, qual, val⟩ := x
  have r1 : Rd X vr row := hgd.2.1.1
  have r2 : Rd X vq qual := hgd.2.2.1.1
  have r3 : Rd X vv val := hgd.2.2.2.1
  obtain ⟨ar, nr, cr, rfl⟩ := rd_slice r1
  obtain ⟨aq, nq, cq, rfl⟩ := rd_slice r2
  obtain ⟨av, nv, cv, rfl⟩ := rd_slice r3
  have hb := (Below.refl X.heap.size X).alloc (Nat.le_refl _) (.cells (EntD.mk (.slice ar nr cr) fam (.slice aq nq cq) ts seq kind (.slice av nv cv) row qual val).cells 38)
  have t := Turn.of (B := V.heap.size) hb (by omega)
  have HI : Hid (∃ qs, Sm qs pre ∧ J qs _ ∧ IsT G _ p T ∧ _ ∧ W0 + 2 ≤ _) := (fun ⟨qs, k1, k2, k3, k4, k5⟩ => ⟨qs, k1, hJ _ _ _ (by omega) k2 (t.mono (by omega)), k3.keptC t.toC, t.cells _ _ k4 rfl, Nat.le_trans k5 t.below.size⟩) hi
  have HN : Hid (Nx G T.ord pre _ _) := ⟨hgd.1, hgd.2.keptC t.toC⟩
  have HT : Hid (Turn V.heap.size X _) := t
  have HX : Hid (EBox (X.alloc (.cells (EntD.mk (.slice ar nr cr) fam (.slice aq nq cq) ts seq kind (.slice av nv cv) row qual val).cells 38)) X.heap.size _) := EBox.new X _
  clear hb t hi hgd r1 r2 r3
  simp only [EntD.cells] at *
  gi_wp2
  exact hK _ _ ((KeepsOthers.alloc _ _).from _) HT.out.toC HI.out ⟨X.heap.size, hsX', HX.out, HN.out, rfl⟩
 case body =>
  rintro l' pre x a' X ⟨qs, k1, k2, k3, k4, k5⟩ ⟨Bx, hBx, bx, hnx, rfl⟩
  have hmx : Tryz.prog.follows .mixedOrders = true := by kernel_rfl
  have hdd : ∀ k : Nat, ((Fence.wide.inRound l').depth.isSome = true → 1 ≤ k) := fun k h => by cases h
  have hdd2 : ∀ k : Nat, (Fence.wide.depth.isSome = true → 1 ≤ k) := fun k h => by cases h
  have hXb : Bx < X.heap.size := (Array.getElem?_eq_some_iff.1 bx).1
  have yc : X.cell? ⟨Y, 0, none⟩ = some (.func (.yield l) #[] #[]) := by simp [World.cell?, k4]
  have HYc : Hid (∀ Z, Below X.heap.size X Z → Z.cell? ⟨Y, 0, none⟩ = some (.func (.yield l) #[] #[])) := fun Z b => (b.cell (p := ⟨Y, 0, none⟩) (World.block_lt_of_cell? _ _ yc)).trans yc
  have hmem : x ∈ T.ord := by
   obtain ⟨r, hr⟩ := hnx.1
   rw [← hr]; simp
  have HC : Hid (∀ Z, Below X.heap.size X Z → Calls Tryz.prog 24 #[.agg x.cells] Z fun z w' => ∃ e : EntD, z = .returned (.agg e.cells) ∧ EntD.Same e x ∧ EOk (fun i => Z.heap.size ≤ i) w' e ∧ O3 w' Z.heap.size e ∧ Below Z.heap.size Z w') := fun Z b => copyOf_own (hnx.2.ok.later b) (hlen x hmem)
  have HYY : Hid (∀ Z e, Below X.heap.size X Z → EntD.Same e x → EOk (fun i => X.heap.size ≤ i) Z e → O3 Z X.heap.size e → YieldAt Fence.wide n Tryz.prog l #[.agg e.cells] Z fun z W' => ∃ t : Bool, z = .returned (.bool t) ∧ Hid ((t = true → KeepsFrom V.heap.size X W' ∧ KpC G X W' ∧ ∃ qs, Sm qs (pre ++ [x]) ∧ J qs W' ∧ IsT G W' p T ∧ W'.heap[Y]? = some (.cells #[.func (.yield l) #[] #[]] 65 (0, 0)) ∧ W0 + 2 ≤ W'.heap.size) ∧ (t = false → KeepsFrom V.heap.size X W' ∧ ∃ qs, Sm qs (pre ++ [x]) ∧ Jx qs W' ∧ W0 + 2 ≤ W'.heap.size))) := fun Z e b hse hek ho3 => by
   have tZ : Turn W0 X Z := Turn.of b (by omega)
   refine (hY n qs e X Z k2 (hJ _ _ _ (by omega) k2 tZ) ⟨⟨by have := b.size; omega, ⟨pre ++ [x], hnx.1, k1.snoc hse⟩, hek.mono (fun i hi => by omega)⟩, ho3, b, by omega⟩).mono ?_
   rintro z W' (⟨hz, j1, kp⟩ | ⟨hz, j1, kp⟩)
   ·refine ⟨true, hz, fun _ => ⟨((Oth.of b).trans kp.others).keeps.mono' (by omega), (KpC.trans (tZ.toC) (kp.keeps.mono (fun i hi => .inl hi))), qs ++ [e], k1.snoc hse, j1, (k3.keptC tZ.toC).keptC (kp.keeps.mono (fun i hi => .inl hi)), kp.keeps.cells _ _ (tZ.cells _ _ k4 rfl) rfl (.inr ⟨by omega, by omega⟩), ?_⟩, fun h => (by cases h)⟩
    have := b.size; have := kp.others.size; omega
   ·refine ⟨false, hz, fun h => (by cases h), fun _ => ⟨((Oth.of b).trans kp).keeps.mono' (by omega), qs ++ [e], k1.snoc hse, j1, ?_⟩⟩
    have := b.size; have := kp.size; omega
  obtain ⟨c0, c1, c2, c3, c4, c5, c6⟩ := (⟨bx.vr, bx.fam, bx.vq, bx.ts, bx.seq, bx.kind, bx.vv⟩ : _ ∧ _ ∧ _ ∧ _ ∧ _ ∧ _ ∧ _)
  have D0 : Below X.heap.size X X.drew := (Below.refl _ _).drew
  unfold EntD.cells at HC HYY
  unfold EntD.cells
  clear k1 k2 k3 hnx hmem bx hY hlen hJ hJx hT1 hT hB hB1
  gi_wp2
  gi_region_with_o (first | (refine ⟨trivial, hdd _, ?_⟩; gi_at_call 24; refine (CallsIn.inRound l' (callsIn_wide.2 (HC.out _ D0))).mono ?_; rintro z w1 ⟨e, rfl, hse, hek, ho3, hb1⟩; have yc1 := HYc.out _ (D0.trans (hb1.mono D0.size)); obtain ⟨fn, tmps, assign, body, hy, hR⟩ := HYY.out _ e (D0.trans (hb1.mono D0.size)) hse hek ho3) | (refine ⟨hdd2 _, ?_⟩; refine (roundIn_inRound l' (roundIn_anyDepth hR)).mono ?_; rintro z W3 ⟨tt, rfl, hr⟩))
  all_goals
   cases tt
   ·gi_wp2
    have h2 := hr.out.2 (by first | rfl | trivial)
    exact ⟨by rw [← hs1]; exact h2.1, rfl, h2.2⟩
   ·gi_wp2
    have h2 := hr.out.1 (by first | rfl | trivial)
    exact ⟨by rw [← hs1]; exact h2.1, h2.2.1, h2.2.2⟩
 case done =>
  rintro D xs X hD rfl ⟨qs, k1, k2, k3, k4, k5⟩ hdf
  gi_wp2
  refine ⟨by simp, .inl ⟨_, _, rfl, run_takeDeferred hdf, ?_⟩⟩
  exact ⟨_, results_none rfl _ _ _, ⟨_, rfl⟩, .inl ⟨qs, k1, hJ _ _ _ (by omega) k2 (Turn.put _ (by omega) (by omega) hdf rfl)⟩⟩
 case stop =>
  rintro D c pre X hD hsp ⟨rfl, qs, k1, k2, k5⟩ hdf
  gi_wp2
  refine ⟨by simp, .inl ⟨_, _, rfl, run_takeDeferred hdf, ?_⟩⟩
  exact ⟨_, results_none rfl _ _ _, ⟨_, rfl⟩, .inr ⟨qs, ⟨pre, hsp, k1⟩, hJx _ _ _ (by omega) k2 (Turn.put _ (by omega) (by omega) hdf rfl)⟩⟩

set_option maxRecDepth 100000 in
set_option maxHeartbeats 4000000 in
theorem all_seqO {G : Nat → Prop} {w : World} {Bt t : Nat} {p : Option Addr} {T : BT} {n k : Int} {f : Bool} (hBt : w.heap[Bt]? = some (.cells #[.pointer (some ⟨t, 0, none⟩)] 25 (0, 0))) (hb : TBox w t p n k f) (hT : IsT G w p T) (hlen : ∀ x ∈ T.ord, x.row.length ≤ 140737488355328 ∧ x.qual.length ≤ 140737488355328 ∧ x.val.length ≤ 140737488355328) :
  SeqO Tryz.prog 40 #[.pointer (some ⟨Bt, 0, none⟩)] (fun x : EntD => #[.agg x.cells]) (NxO T.ord) (KpO G) (fun xs => Sm xs T.ord) (fun pre => ∃ q, q <+: T.ord ∧ Sm pre q) w := by
 intro l n' J Jx W hW hJs hJ hJx hY h0
 have hdd : ∀ k : Nat, (Fence.wide.depth.isSome = true → 1 ≤ k) := fun k h => by cases h
 have e1 := hW.cells _ _ hBt rfl
 have e2 : TBox W t p n k f := hW.cells _ _ hb rfl
 have e3 := hT.keptC hW.toC
 have c1 : W.cell? ⟨Bt, 0, none⟩ = some (.pointer (some ⟨t, 0, none⟩)) := by simp [World.cell?, e1]
 have c2 := e2.cells.1
 have c3 := e2.cells.2.1
 have hA : Below W.heap.size W (W.alloc (.cells #[.pointer p, .func (.func 22) #[] #[]] 61)) := (Below.refl _ W).alloc (Nat.le_refl _) _
 have tA := Turn.of hA (Nat.le_refl _)
 have hC := giveCopiesO_in (l := l) (n := n' - 1) (J := J) (Jx := Jx) (W0 := W.heap.size) _ (World.size_alloc W (.cells #[.pointer p, .func (.func 22) #[] #[]] 61)).symm (OBox.new W p) (e3.keptC tA.toC) hlen hJs hJ hJx hY (hJ _ _ _ (Nat.le_refl _) h0 tA)
 refine callsIn_of_wp Tryz.func40 rfl trivial ?_ rfl
 simp only [Tryz.ntmps40, List.size_toArray, List.length_cons, List.length_nil, Nat.reduceAdd, Nat.reduceSub, Array.replicate_succ, Array.replicate_zero, List.push_toArray, List.append_toArray, List.nil_append, List.cons_append]
 have HO : Hid (Calls Tryz.prog 41 #[.agg #[.pointer p, .func (.func 22) #[] #[]]] W _) := oall_any W p
 clear hY hJ hJx hJs h0 e1 e2 e3
 gi_wp2_with (first | (refine ⟨trivial, hdd _, ?_⟩; gi_at_call 41; refine (callsIn_wide.2 HO.out).mono ?_; rintro z w' ⟨rfl, rfl⟩) | (refine ⟨trivial, hdd _, ?_⟩; gi_at_call 26; refine hC.mono ?_; clear hC; rintro z W1 ⟨⟨v, rfl⟩, hr⟩))
 go_end0
 exact ⟨⟨_, rfl⟩, hr⟩
set_option maxRecDepth 100000 in
set_option maxHeartbeats 4000000 in
theorem giveCopiesFO_in {l n : Nat} {G : Nat → Prop} {p : Option Addr} {T : BT} {J Jx : List EntD → World → Prop} {W0 : Nat} {x0 : EntD} (W : World) (hW0 : W0 + 2 = W.heap.size) (hB : OBox W W0 p) (hF : EBox W (W0 + 1) x0) (hx0 : EOk (fun _ => True) W x0) (hT : IsT G W p T) (hlen : ∀ x ∈ (fromS x0 T), x.row.length ≤ 140737488355328 ∧ x.qual.length ≤ 140737488355328 ∧ x.val.length ≤ 140737488355328)
  (hJs : ∀ s X, J s X → W0 ≤ X.heap.size) (hJ : AbT W0 J) (hJx : AbT W0 Jx)
  (hY : ∀ m pre x Wp W1, J pre Wp → J pre W1 → NxO (fromS x0 T) W0 pre x Wp W1 → YieldAt Fence.wide m Tryz.prog l #[.agg x.cells] W1 fun e W' => (e = .returned (.bool true) ∧ J (pre ++ [x]) W' ∧ KpO G W0 W1 W') ∨ (e = .returned (.bool false) ∧ Jx (pre ++ [x]) W' ∧ Oth W0 W1 W'))
  (h0 : J [] W) :
  CallsIn Fence.wide n Tryz.prog 26 #[.func (.func 44) #[] #[.pointer (some ⟨W0, 0, none⟩), .pointer (some ⟨W0 + 1, 0, none⟩)], .func (.yield l) #[] #[]] W fun e W' => (∃ v, e = .returned v) ∧ ((∃ xs, Sm xs (fromS x0 T) ∧ J xs W') ∨ (∃ pre, (∃ q, q <+: (fromS x0 T) ∧ Sm pre q) ∧ Jx pre W')) := by
 refine callsIn_of_wp_marks Tryz.func26 rfl trivial ?_ rfl
 simp only [Tryz.ntmps26, List.size_toArray, List.length_cons, List.length_nil, Nat.reduceAdd, Nat.reduceSub, Array.replicate_succ, Array.replicate_zero, List.push_toArray, List.append_toArray, List.nil_append, List.cons_append]
 gi_wp2
 have eY : (W.alloc (.cells #[.func (.yield l) #[] #[]] 65)).heap[W.heap.size]? = some (.cells #[.func (.yield l) #[] #[]] 65 (0, 0)) := World.alloc_heap_new W _
 have T1 : Turn W0 W (W.alloc (.cells #[.func (.yield l) #[] #[]] 65)) := Turn.of ((Below.refl _ W).alloc (Nat.le_refl _) _) (by omega)
 have hB1 := T1.obox hB
 have hF1 : EBox _ (W0 + 1) x0 := T1.cells _ _ hF rfl
 have hx1 := hx0.turn T1
 have hT1 := hT.keptC T1.toC
 have h01 := hJ [] _ _ (by omega) h0 T1
 have hs1 : (W.alloc (.cells #[.func (.yield l) #[] #[]] 65)).heap.size = W0 + 3 := by simp; omega
 generalize W.alloc (.cells #[.func (.yield l) #[] #[]] 65) = V at *
 obtain ⟨Y, hYe⟩ : ∃ Y, Y = W.heap.size := ⟨_, rfl⟩
 rw [← hYe] at eY hW0 ⊢
 clear hYe
 refine range_wide (w := V) rfl (enters_of Tryz.func44 (by kernel_rfl) rfl) (encs := fun x : EntD => #[.agg x.cells]) (Gd := fun _ => Nx G (fromS x0 T)) (Kp := fun _ => KpC G) (S := fun xs => xs = (fromS x0 T)) (Sp := fun pre => pre <+: (fromS x0 T))
  (fun l' n' J' Jx' X hX hJs' hJ' _ hY' h0' => ofrom1_in hJ' (fun m pre x W1 a b => (hY' m pre x W1 a b).mono (fun e w' h => h.imp id (fun k => ⟨k.1, k.2.1⟩))) X (Nat.le_refl _) (hX.obox hB1) (hX.cells _ _ hF1 rfl) (hx1.turn hX).ok (hT1.keptC hX.toC) h0') (fun h k => h.trans k) (fun X o o' ho hc => KpC.put o' ho hc) (fun _ => rfl)
  (fun pre X => ∃ qs, Sm qs pre ∧ J qs X ∧ IsT G X p T ∧ X.heap[Y]? = some (.cells #[.func (.yield l) #[] #[]] 65 (0, 0)) ∧ W0 + 3 ≤ X.heap.size)
  (fun c pre X => c = .ret ∧ ∃ qs, Sm qs pre ∧ Jx qs X ∧ W0 + 3 ≤ X.heap.size)
  (fun s X h => by rw [hs1]; exact h.choose_spec.2.2.2.2)
  (fun s X Z hX ⟨qs, k1, k2, k3, k4, k5⟩ t => ⟨qs, k1, hJ _ _ _ (by omega) k2 (t.mono (by omega)), k3.keptC t.toC, t.cells _ _ k4 rfl, Nat.le_trans k5 t.below.size⟩)
  (fun c s X Z hX ⟨k0, qs, k1, k2, k5⟩ t => ⟨k0, qs, k1, hJx _ _ _ (by omega) k2 (t.mono (by omega)), Nat.le_trans k5 t.below.size⟩)
  ⟨[], trivial, h01, hT1, eY, by omega⟩
  (fun pre x a' X => ∃ Bx, W0 + 4 ≤ Bx ∧ EBox X Bx x ∧ Nx G (fromS x0 T) pre x X ∧ a' = { tmps := #[.func (.func 44) #[] #[.pointer (some ⟨W0, 0, none⟩), .pointer (some ⟨W0 + 1, 0, none⟩)], .func (.yield l) #[] #[], undef, .pointer (some ⟨Y, 0, none⟩), .pointer (some ⟨Bx, 0, none⟩), .func (.func 44) #[] #[.pointer (some ⟨W0, 0, none⟩), .pointer (some ⟨W0 + 1, 0, none⟩)], .agg x.cells, undef, undef, undef, undef, undef], defers := [] })
  (fun pre x a' _ X Z hX ⟨Bx, k0, k1, k2, k3⟩ t => ⟨Bx, k0, t.cells _ _ k1 rfl, ⟨k2.1, k2.2.keptC t.toC⟩, k3⟩)
  ?assign ?body ?done ?stop (fun c s X h => by rw [hs1]; exact h.2.choose_spec.2.2)
 case assign =>
  intro l' pre x X K hi hsX hgd hK
  have hsX' : W0 + 4 ≤ X.heap.size := by omega
  obtain ⟨vr, fam, vq, ts, seq, kind, vv, row, qual, val⟩ := x
  have r1 : Rd X vr row := hgd.2.1.1
  have r2 : Rd X vq qual := hgd.2.2.1.1
  have r3 : Rd X vv val := hgd.2.2.2.1
  obtain ⟨ar, nr, cr, rfl⟩ := rd_slice r1
  obtain ⟨aq, nq, cq, rfl⟩ := rd_slice r2
  obtain ⟨av, nv, cv, rfl⟩ := rd_slice r3
  have hb := (Below.refl X.heap.size X).alloc (Nat.le_refl _) (.cells (EntD.mk (.slice ar nr cr) fam (.slice aq nq cq) ts seq kind (.slice av nv cv) row qual val).cells 38)
  have t := Turn.of (B := V.heap.size) hb (by omega)
  have HI : Hid (∃ qs, Sm qs pre ∧ J qs _ ∧ IsT G _ p T ∧ _ ∧ W0 + 3 ≤ _) := (fun ⟨qs, k1, k2, k3, k4, k5⟩ => ⟨qs, k1, hJ _ _ _ (by omega) k2 (t.mono (by omega)), k3.keptC t.toC, t.cells _ _ k4 rfl, Nat.le_trans k5 t.below.size⟩) hi
  have HN : Hid (Nx G (fromS x0 T) pre _ _) := ⟨hgd.1, hgd.2.keptC t.toC⟩
  have HT : Hid (Turn V.heap.size X _) := t
  have HX : Hid (EBox (X.alloc (.cells (EntD.mk (.slice ar nr cr) fam (.slice aq nq cq) ts seq kind (.slice av nv cv) row qual val).cells 38)) X.heap.size _) := EBox.new X _
  clear hb t hi hgd r1 r2 r3
  simp only [EntD.cells] at *
  gi_wp2
  exact hK _ _ ((KeepsOthers.alloc _ _).from _) HT.out.toC HI.out ⟨X.heap.size, hsX', HX.out, HN.out, rfl⟩
 case body =>
  rintro l' pre x a' X ⟨qs, k1, k2, k3, k4, k5⟩ ⟨Bx, hBx, bx, hnx, rfl⟩
  have hmx : Tryz.prog.follows .mixedOrders = true := by kernel_rfl
  have hdd : ∀ k : Nat, ((Fence.wide.inRound l').depth.isSome = true → 1 ≤ k) := fun k h => by cases h
  have hdd2 : ∀ k : Nat, (Fence.wide.depth.isSome = true → 1 ≤ k) := fun k h => by cases h
  have hXb : Bx < X.heap.size := (Array.getElem?_eq_some_iff.1 bx).1
  have yc : X.cell? ⟨Y, 0, none⟩ = some (.func (.yield l) #[] #[]) := by simp [World.cell?, k4]
  have HYc : Hid (∀ Z, Below X.heap.size X Z → Z.cell? ⟨Y, 0, none⟩ = some (.func (.yield l) #[] #[])) := fun Z b => (b.cell (p := ⟨Y, 0, none⟩) (World.block_lt_of_cell? _ _ yc)).trans yc
  have hmem : x ∈ (fromS x0 T) := by
   obtain ⟨r, hr⟩ := hnx.1
   rw [← hr]; simp
  have HC : Hid (∀ Z, Below X.heap.size X Z → Calls Tryz.prog 24 #[.agg x.cells] Z fun z w' => ∃ e : EntD, z = .returned (.agg e.cells) ∧ EntD.Same e x ∧ EOk (fun i => Z.heap.size ≤ i) w' e ∧ O3 w' Z.heap.size e ∧ Below Z.heap.size Z w') := fun Z b => copyOf_own (hnx.2.ok.later b) (hlen x hmem)
  have HYY : Hid (∀ Z e, Below X.heap.size X Z → EntD.Same e x → EOk (fun i => X.heap.size ≤ i) Z e → O3 Z X.heap.size e → YieldAt Fence.wide n Tryz.prog l #[.agg e.cells] Z fun z W' => ∃ t : Bool, z = .returned (.bool t) ∧ Hid ((t = true → KeepsFrom V.heap.size X W' ∧ KpC G X W' ∧ ∃ qs, Sm qs (pre ++ [x]) ∧ J qs W' ∧ IsT G W' p T ∧ W'.heap[Y]? = some (.cells #[.func (.yield l) #[] #[]] 65 (0, 0)) ∧ W0 + 3 ≤ W'.heap.size) ∧ (t = false → KeepsFrom V.heap.size X W' ∧ ∃ qs, Sm qs (pre ++ [x]) ∧ Jx qs W' ∧ W0 + 3 ≤ W'.heap.size))) := fun Z e b hse hek ho3 => by
   have tZ : Turn W0 X Z := Turn.of b (by omega)
   refine (hY n qs e X Z k2 (hJ _ _ _ (by omega) k2 tZ) ⟨⟨by have := b.size; omega, ⟨pre ++ [x], hnx.1, k1.snoc hse⟩, hek.mono (fun i hi => by omega)⟩, ho3, b, by omega⟩).mono ?_
   rintro z W' (⟨hz, j1, kp⟩ | ⟨hz, j1, kp⟩)
   ·refine ⟨true, hz, fun _ => ⟨((Oth.of b).trans kp.others).keeps.mono' (by omega), (KpC.trans (tZ.toC) (kp.keeps.mono (fun i hi => .inl hi))), qs ++ [e], k1.snoc hse, j1, (k3.keptC tZ.toC).keptC (kp.keeps.mono (fun i hi => .inl hi)), kp.keeps.cells _ _ (tZ.cells _ _ k4 rfl) rfl (.inr ⟨by omega, by omega⟩), ?_⟩, fun h => (by cases h)⟩
    have := b.size; have := kp.others.size; omega
   ·refine ⟨false, hz, fun h => (by cases h), fun _ => ⟨((Oth.of b).trans kp).keeps.mono' (by omega), qs ++ [e], k1.snoc hse, j1, ?_⟩⟩
    have := b.size; have := kp.size; omega
  obtain ⟨c0, c1, c2, c3, c4, c5, c6⟩ := (⟨bx.vr, bx.fam, bx.vq, bx.ts, bx.seq, bx.kind, bx.vv⟩ : _ ∧ _ ∧ _ ∧ _ ∧ _ ∧ _ ∧ _)
  have D0 : Below X.heap.size X X.drew := (Below.refl _ _).drew
  unfold EntD.cells at HC HYY
  unfold EntD.cells
  clear k1 k2 k3 hnx hmem bx hY hlen hJ hJx hT1 hT hB hB1 hF hF1 hx0 hx1
  gi_wp2
  gi_region_with_o (first | (refine ⟨trivial, hdd _, ?_⟩; gi_at_call 24; refine (CallsIn.inRound l' (callsIn_wide.2 (HC.out _ D0))).mono ?_; rintro z w1 ⟨e, rfl, hse, hek, ho3, hb1⟩; have yc1 := HYc.out _ (D0.trans (hb1.mono D0.size)); obtain ⟨fn, tmps, assign, body, hy, hR⟩ := HYY.out _ e (D0.trans (hb1.mono D0.size)) hse hek ho3) | (refine ⟨hdd2 _, ?_⟩; refine (roundIn_inRound l' (roundIn_anyDepth hR)).mono ?_; rintro z W3 ⟨tt, rfl, hr⟩))
  all_goals
   cases tt
   ·gi_wp2
    have h2 := hr.out.2 (by first | rfl | trivial)
    exact ⟨by rw [← hs1]; exact h2.1, rfl, h2.2⟩
   ·gi_wp2
    have h2 := hr.out.1 (by first | rfl | trivial)
    exact ⟨by rw [← hs1]; exact h2.1, h2.2.1, h2.2.2⟩
 case done =>
  rintro D xs X hD rfl ⟨qs, k1, k2, k3, k4, k5⟩ hdf
  gi_wp2
  refine ⟨by simp, .inl ⟨_, _, rfl, run_takeDeferred hdf, ?_⟩⟩
  exact ⟨_, results_none rfl _ _ _, ⟨_, rfl⟩, .inl ⟨qs, k1, hJ _ _ _ (by omega) k2 (Turn.put _ (by omega) (by omega) hdf rfl)⟩⟩
 case stop =>
  rintro D c pre X hD hsp ⟨rfl, qs, k1, k2, k5⟩ hdf
  gi_wp2
  refine ⟨by simp, .inl ⟨_, _, rfl, run_takeDeferred hdf, ?_⟩⟩
  exact ⟨_, results_none rfl _ _ _, ⟨_, rfl⟩, .inr ⟨qs, ⟨pre, hsp, k1⟩, hJx _ _ _ (by omega) k2 (Turn.put _ (by omega) (by omega) hdf rfl)⟩⟩

set_option maxRecDepth 100000 in
set_option maxHeartbeats 4000000 in
theorem from_seqO {G : Nat → Prop} {w : World} {Bt t : Nat} {p : Option Addr} {T : BT} {x0 : EntD} {Bf : Nat} {n k : Int} {f : Bool} (hBf : EBox w Bf x0) (hx0 : EOk (fun _ => True) w x0) (hBt : w.heap[Bt]? = some (.cells #[.pointer (some ⟨t, 0, none⟩)] 25 (0, 0))) (hb : TBox w t p n k f) (hT : IsT G w p T) (hlen : ∀ x ∈ (fromS x0 T), x.row.length ≤ 140737488355328 ∧ x.qual.length ≤ 140737488355328 ∧ x.val.length ≤ 140737488355328) :
  SeqO Tryz.prog 25 #[.pointer (some ⟨Bt, 0, none⟩), .pointer (some ⟨Bf, 0, none⟩)] (fun x : EntD => #[.agg x.cells]) (NxO (fromS x0 T)) (KpO G) (fun xs => Sm xs (fromS x0 T)) (fun pre => ∃ q, q <+: (fromS x0 T) ∧ Sm pre q) w := by
 intro l n' J Jx W hW hJs hJ hJx hY h0
 have hdd : ∀ k : Nat, (Fence.wide.depth.isSome = true → 1 ≤ k) := fun k h => by cases h
 have e1 := hW.cells _ _ hBt rfl
 have e2 : TBox W t p n k f := hW.cells _ _ hb rfl
 have e3 := hT.keptC hW.toC
 have c1 : W.cell? ⟨Bt, 0, none⟩ = some (.pointer (some ⟨t, 0, none⟩)) := by simp [World.cell?, e1]
 have c2 := e2.cells.1
 have c3 := e2.cells.2.1
 have f0 : EBox W Bf x0 := hW.cells _ _ hBf rfl
 have f1 := hx0.turn hW
 obtain ⟨d0, d1, d2, d3, d4, d5, d6⟩ := (⟨f0.vr, f0.fam, f0.vq, f0.ts, f0.seq, f0.kind, f0.vv⟩ : _ ∧ _ ∧ _ ∧ _ ∧ _ ∧ _ ∧ _)
 have D0 : Below W.heap.size W W.drew := (Below.refl _ _).drew
 have HC : Hid (∀ Z, Below W.heap.size W Z → Z.heap.size = W.heap.size + 2 → OBox Z W.heap.size p → EBox Z (W.heap.size + 1) x0 → Calls Tryz.prog 26 #[.func (.func 44) #[] #[.pointer (some ⟨W.heap.size, 0, none⟩), .pointer (some ⟨W.heap.size + 1, 0, none⟩)], .func (.yield l) #[] #[]] Z fun e W' => (∃ v, e = .returned v) ∧ ((∃ xs, Sm xs (fromS x0 T) ∧ J xs W') ∨ (∃ pre, (∃ q, q <+: fromS x0 T ∧ Sm pre q) ∧ Jx pre W'))) := fun Z bb hs bo bx => by
  have tW : Turn W.heap.size W Z := Turn.of bb (Nat.le_refl _)
  exact (callsIn_wide (n := 3)).1 (giveCopiesFO_in (l := l) (n := 3) (J := J) (Jx := Jx) (W0 := W.heap.size) Z hs.symm bo bx (f1.turn tW) (e3.keptC tW.toC) hlen hJs hJ hJx hY (hJ _ _ _ (Nat.le_refl _) h0 tW))
 have HO : Hid (∀ wx, wx.heap.size = W.heap.size → Below W.heap.size W wx → Calls Tryz.prog 27 #[.agg #[.pointer p, .func (.func 22) #[] #[]], .agg x0.cells] wx fun e w' => e = .returned (.func (.func 44) #[] #[.pointer (some ⟨W.heap.size, 0, none⟩), .pointer (some ⟨W.heap.size + 1, 0, none⟩)]) ∧ Below W.heap.size W w' ∧ w'.heap.size = W.heap.size + 2 ∧ OBox w' W.heap.size p ∧ EBox w' (W.heap.size + 1) x0) := fun wx hs bb => by
  refine (ofrom_any wx p x0).mono ?_
  rintro z w' ⟨rfl, rfl⟩
  have A1 := (Below.refl wx.heap.size wx).alloc (Nat.le_refl _) (.cells #[.pointer p, .func (.func 22) #[] #[]] 61)
  have A2 := A1.alloc A1.size (.cells x0.cells 38)
  have bo := (OBox.new wx p).later ((Below.refl (wx.alloc (.cells #[.pointer p, .func (.func 22) #[] #[]] 61)).heap.size _).alloc (Nat.le_refl _) (.cells x0.cells 38))
  have bx := EBox.new (wx.alloc (.cells #[.pointer p, .func (.func 22) #[] #[]] 61)) x0
  rw [World.size_alloc] at bx
  rw [hs] at bo bx ⊢
  exact ⟨rfl, bb.trans (A2.mono bb.size), by simp [hs], bo, bx⟩
 refine callsIn_of_wp Tryz.func25 rfl trivial ?_ rfl
 simp only [Tryz.ntmps25, List.size_toArray, List.length_cons, List.length_nil, Nat.reduceAdd, Nat.reduceSub, Array.replicate_succ, Array.replicate_zero, List.push_toArray, List.append_toArray, List.nil_append, List.cons_append]
 clear hY hJ hJx hJs h0 e1 e2 e3 f0 f1
 unfold EntD.cells at HO HC
 have hmx : Tryz.prog.follows .mixedOrders = true := by kernel_rfl
 refine wpIn_wide.2 ?_
 go_wp2_with fail
 go_region_with_o (first | (go_at_call 27; refine Calls.mono (HO.out _ rfl D0) ?_; rintro z wz ⟨rfl, bz, hz, oz, ez⟩) | (go_at_call 26; refine Calls.mono (HC.out _ bz hz oz ez) ?_; rintro z W1 ⟨⟨v, rfl⟩, hr⟩))
 all_goals
  go_end0
  exact ⟨⟨_, rfl⟩, hr⟩
end Go.Proofs.YtpabbnddeklpdaaGreat

namespace Go.Proofs.YtpabbnddeklpdaaGreat
open Go.RowKit
set_option linter.unusedVariables false

theorem below_drewF {B : Nat} {a w : World} (h : Below B a w) (n : Nat) : Below B a (w.drewN n) := ⟨h.os, h.tape, h.output, h.size, h.block⟩
set_option maxRecDepth 100000 in
set_option maxHeartbeats 4000000 in
theorem whole_any {w : World} {g : Nat} {FO : Nat → Prop} (hf : FuB w g FO) :
  Calls Tryz.prog 18 #[.pointer (some ⟨g, 0, none⟩)] w fun e w' => e = .returned (.bool true) ∧ Below w.heap.size w w' := by
 obtain ⟨O, aL, nL, cL, aM, cM, N, vs, ms, h, -, -, -, -, -⟩ := hf
 have HC : Hid (∀ wr, Below w.heap.size w wr → wr.cell? ⟨g, 0, none⟩ = some (.slice aL nL cL) ∧ wr.cell? ⟨g, 1, none⟩ = some (.slice aM nL cM)) := fun wr b => by
  have hg := (Array.getElem?_eq_some_iff.1 h.box).1
  exact ⟨(b.cell (p := ⟨g, 0, none⟩) hg).trans h.cells.1, (b.cell (p := ⟨g, 1, none⟩) hg).trans h.cells.2.1⟩
 have hnL : nL ≤ 400000 := by have := h.few; omega
 have HL : Hid (∀ t, t < nL → ∃ (gL gM : Nat) (an : Option Addr) (n c m : Nat), aL = some ⟨gL, 0, none⟩ ∧ aM = some ⟨gM, 0, none⟩ ∧ n ≤ 140737488355328 ∧ m < 256 ∧ (∀ wr, Below w.heap.size w wr → wr.cell? ⟨gL, t, none⟩ = some (.slice an n c) ∧ wr.cell? ⟨gM, t, none⟩ = some (.int .u8 (m : Int))) ∧ ∀ q, q < n → ∃ b, an = some ⟨b, 0, none⟩ ∧ ∀ wr, Below w.heap.size w wr → wr.cell? ⟨b, q, none⟩ = some (.int .u8 (m : Int))) := fun t ht => by
  have hml : ms.length = nL := h.own.1.symm
  obtain ⟨m, hm⟩ : ∃ m, ms[t]? = some m := ⟨_, List.getElem?_eq_getElem (by omega)⟩
  obtain ⟨v, hv⟩ : ∃ v, vs[t]? = some v := ⟨_, List.getElem?_eq_getElem (by have := h.len; omega)⟩
  obtain ⟨an, n, c, rfl, hn, hk⟩ := h.marks t v m hv hm
  have hgL : ∃ gL, aL = some ⟨gL, 0, none⟩ := by
   rcases h.row.2 with ⟨h1, h0⟩ | ⟨gL, cap, cur, h1, -⟩
   ·omega
   ·simp only [Value.slice.injEq] at h1; exact ⟨gL, h1.1⟩
  obtain ⟨gL, rfl⟩ := hgL
  have hgM : ∃ gM, aM = some ⟨gM, 0, none⟩ := by
   rcases h.own.2.2 with ⟨h1, h0⟩ | ⟨gM, cap, cur, h1, -⟩
   ·omega
   ·simp only [Value.slice.injEq] at h1; exact ⟨gM, h1.1⟩
  obtain ⟨gM, rfl⟩ := hgM
  have e1 : w.cell? ⟨gL, t, none⟩ = some (.slice an n c) := (h.row.cellAt t (by have := h.len; omega)).trans hv
  have e2 : w.cell? ⟨gM, t, none⟩ = some (.int .u8 (m : Int)) := by
   rw [h.own.2.cellAt t (by omega)]
   simp [bv, hm]
  refine ⟨gL, gM, an, n, c, m, rfl, rfl, hn, h.bys m (List.mem_of_getElem? hm), fun wr b => ⟨(b.cell (World.block_lt_of_cell? _ _ e1)).trans e1, (b.cell (World.block_lt_of_cell? _ _ e2)).trans e2⟩, fun q hq => ?_⟩
  rcases hk with hk | ⟨b, rfl, -, hc⟩
  ·omega
  ·exact ⟨b, rfl, fun wr bl => (bl.cell (World.block_lt_of_cell? _ _ (hc q hq))).trans (hc q hq)⟩
 clear h
 go_enter Tryz.func18, Tryz.ntmps18
 go_wp2
 go_loopw [3, 4] (fun i k wr => ∃ t : Nat, t ≤ nL ∧ i = .int .i64 (t : Int) ∧ Below w.heap.size w wr) (fun i _ _ => nL - (intOf i).toNat)
 case atStart => exact ⟨0, by omega, rfl, Below.refl _ _⟩
 case round =>
  obtain ⟨t, ht, rfl, hbk⟩ := hrel
  obtain ⟨k0, k1⟩ := HC.out wr hbk
  by_cases h1 : t < nL
  ·have h1' : (t : Int) < (nL : Int) := by omega
   have ht0 : (0 : Int) ≤ (t : Int) := by omega
   obtain ⟨gL, gM, an, n, c, m, rfl, rfl, hn, hm, hc, hq⟩ := HL.out t h1
   have HQ := Lib.hid hq
   have HCc := Lib.hid hc
   clear hq hc
   go_wp2
   go_loopw [4] (fun k wz => ∃ q : Nat, q ≤ n ∧ k = .int .i64 (q : Int) ∧ Below w.heap.size w wz) (fun k _ => n - (intOf k).toNat)
   case atStart => exact ⟨0, by omega, rfl, hbk⟩
   case round =>
    obtain ⟨q, hqn, rfl, hbz⟩ := hrel
    clear k0 k1
    obtain ⟨k0, k1⟩ := HC.out wr hbz
    obtain ⟨l0, l1⟩ := HCc.out wr hbz
    by_cases h2 : q < n
    ·have h2' : (q : Int) < (n : Int) := by omega
     have hq0 : (0 : Int) ≤ (q : Int) := by omega
     obtain ⟨b, rfl, hcb⟩ := HQ.out q h2
     have cb := hcb wr hbz
     clear hcb
     go_wp2
     go_quiet (fail)
     go_wp2
     go_roundw
     case rel => exact ⟨q + 1, by omega, by go_num, below_drewF hbz _⟩
     case measure => simp [intOf]; omega
    ·have h2' : ¬ (q : Int) < (n : Int) := by omega
     go_wp2
     go_roundw
     case rel => exact ⟨t + 1, by omega, by go_num, hbz⟩
     case measure => simp [intOf]; omega
  ·have h1' : ¬ (t : Int) < (nL : Int) := by omega
   go_wp2
   go_ret
   exact ⟨rfl, hbk⟩
end Go.Proofs.YtpabbnddeklpdaaGreat

namespace Go.Proofs.YtpabbnddeklpdaaGreat
open Go.RowKit Go.Shelf
set_option linter.unusedVariables false

def CellsAt (w : World) (k : Nat) : Prop := ∃ o : Obj, w.heap[k]? = some o ∧ o.isCells = true
theorem CellsAt.lt {w : World} {k : Nat} (h : CellsAt w k) : k < w.heap.size := by
 obtain ⟨o, h, -⟩ := h
 exact (Array.getElem?_eq_some_iff.1 h).1
theorem cellsAt_cell {w : World} {a : Addr} {v : Value} (h : w.cell? a = some v) : CellsAt w a.block := by
 obtain ⟨o, h1, h2⟩ := cells_of_cell h
 exact ⟨o, h1, h2⟩
theorem KpC.of_fb {G C : Nat → Prop} {w w' : World} (f : Fb w w' C) (h : ∀ k, G k → ¬ C k) : KpC G w w' := ⟨f.size, fun i o hi _ hg => (f.block i (Array.getElem?_eq_some_iff.1 hi).1 (h i hg)).trans hi⟩
theorem KpC.of_below {G : Nat → Prop} {w w' : World} (b : Below w.heap.size w w') : KpC G w w' := ⟨b.size, fun i o hi _ _ => (b.block i (Array.getElem?_eq_some_iff.1 hi).1).trans hi⟩
theorem CellsAt.kept {G : Nat → Prop} {w w' : World} {k : Nat} (h : CellsAt w k) (hk : KpC G w w') (hg : G k) : CellsAt w' k := by
 obtain ⟨o, h1, h2⟩ := h
 exact ⟨o, hk.cells k o h1 h2 hg, h2⟩
theorem KpC.same {G : Nat → Prop} {w w' : World} {k : Nat} (hk : KpC G w w') (h : CellsAt w k) (hg : G k) : w'.heap[k]? = w.heap[k]? := by
 obtain ⟨o, h1, h2⟩ := h
 rw [hk.cells k o h1 h2 hg, h1]
theorem FuB.cells {w : World} {g : Nat} {FO : Nat → Prop} (h : FuB w g FO) : FuB w g (fun k => FO k ∧ CellsAt w k) := by
 obtain ⟨O, aL, nL, cL, aM, cM, N, vs, ms, h, h1, h2, h3, h4, h5⟩ := h
 refine ⟨fun k => O k ∧ CellsAt w k, aL, nL, cL, aM, cM, N, vs, ms, ⟨h.box, h.row, h.own, h.len, h.bys, fun i v m hv hm => ?_, h.few, fun k hk => h.lo k hk.1, fun hk => h.ng hk.1, fun k hk => ⟨fun e => (h.nL_ k hk).1 e.1, (h.nL_ k hk).2⟩, fun k hk => ⟨fun e => (h.nM k hk).1 e.1, (h.nM k hk).2⟩⟩, fun k hk => h1 k hk.1, ⟨h2, _, h.box, rfl⟩, fun k hk => ⟨h3 k hk.1, hk.2⟩, fun k hk => ⟨h4 k hk, ?_⟩, fun k hk => ⟨h5 k hk, ?_⟩⟩
 ·obtain ⟨a, n, c, e, hn, k⟩ := h.marks i v m hv hm
  refine ⟨a, n, c, e, hn, ?_⟩
  rcases k with k | ⟨b, e1, hb, hc⟩
  ·exact .inl k
  ·rcases Nat.eq_zero_or_pos n with h0 | h0
   ·exact .inl h0
   ·exact .inr ⟨b, e1, ⟨hb, cellsAt_cell (hc 0 h0)⟩, hc⟩
 ·obtain ⟨_, cur, hg⟩ := own_at h.row hk
  exact ⟨_, hg, rfl⟩
 ·obtain ⟨_, cur, hg⟩ := own_at h.own.2 hk
  exact ⟨_, hg, rfl⟩
theorem FuB.keptC {w w' : World} {g : Nat} {FO G : Nat → Prop} (h : FuB w g FO) (hc : ∀ k, FO k → CellsAt w k) (hk : KpC G w w') (hG : ∀ k, FO k → G k) : FuB w' g FO := h.kept hk.size (fun k h => hk.same (hc k h) (hG k h))
structure RdX (X : Nat → Prop) (w : World) (v : Value) (xs : List EntD) : Prop where
 rd : RdL w v xs
 ents : ∀ x ∈ xs, EOk X w x
 row : ∀ k, v.ownBlock = some k → X k
theorem Cs.keptC {G : Nat → Prop} {w w' : World} {b o : Nat} {x : EntD} (h : Cs w b o x) (k : KpC G w w') (hg : G b) : Cs w' b o x :=
 ⟨k.cell hg h.1, k.cell hg h.2.1, k.cell hg h.2.2.1, k.cell hg h.2.2.2.1, k.cell hg h.2.2.2.2.1, k.cell hg h.2.2.2.2.2.1, k.cell hg h.2.2.2.2.2.2⟩
theorem RdX.keptC {X : Nat → Prop} {w w' : World} {v : Value} {xs : List EntD} (h : RdX X w v xs) (k : KpC X w w') : RdX X w' v xs := by
 refine ⟨?_, fun x hx => (h.ents x hx).keptC k, h.row⟩
 obtain ⟨a, cap, h1, h2, h3, h4, h0, h5⟩ := h.rd
 refine ⟨a, cap, h1, h2, h3, h4, h0, fun i x hx => ?_⟩
 obtain ⟨k1, b, off, k2, k3⟩ := h5 i x hx
 exact ⟨((h.ents x (List.mem_of_getElem? hx)).keptC k).ok, b, off, k2, k3.keptC k (h.row b (by rw [h1, k2]; rfl))⟩
theorem RdX.mono {X X' : Nat → Prop} {w : World} {v : Value} {xs : List EntD} (h : RdX X w v xs) (k : ∀ i, X i → X' i) : RdX X' w v xs := ⟨h.rd, fun x hx => (h.ents x hx).mono k, fun i hi => k i (h.row i hi)⟩
theorem RdX.drop {X : Nat → Prop} {w w' : World} {lv v : Value} {L : List EntD} {p : EntD → Bool} (h : RdX X w lv L) (b : Below w.heap.size w w') (hr : RdL w' v (L.dropWhile p)) (hv : ∀ k, v.ownBlock = some k → lv.ownBlock = some k) : RdX X w' v (L.dropWhile p) :=
 ⟨hr, fun x hx => (h.ents x ((List.dropWhile_suffix p).subset hx)).keptC (KpC.of_below b), fun k hk => h.row k (hv k hk)⟩
theorem RdX.nil (X : Nat → Prop) (w : World) : RdX X w (.slice none 0 0) [] := ⟨RdL.nil w, fun x hx => (by cases hx), fun k hk => (by cases hk)⟩

structure Pl (w : World) (pB tB : Nat) (X : Nat → Prop) (L R : List EntD) (lv : Value) (f : Bool) : Prop where
 box : w.heap[pB]? = some (.cells #[.pointer (some ⟨tB, 0, none⟩), lv, .bool f] 31 (0, 0))
 tab : Tb X w tB L ((pk L : Nat) : Int) f
 ref : RdX X w lv R
 sm : Sm R L
 lt : ∀ k, X k → k < w.heap.size
 np : ¬ X pB
 pt : pB ≠ tB
def PlB (pB tB : Nat) (X : Nat → Prop) (k : Nat) : Prop := k = pB ∨ k = tB ∨ X k
theorem Pl.tlt {w : World} {pB tB : Nat} {X : Nat → Prop} {L R : List EntD} {lv : Value} {f : Bool} (h : Pl w pB tB X L R lv f) : tB < w.heap.size := by
 obtain ⟨p, T, h1, _⟩ := h.tab.tree
 exact h1.lt
theorem Pl.plt {w : World} {pB tB : Nat} {X : Nat → Prop} {L R : List EntD} {lv : Value} {f : Bool} (h : Pl w pB tB X L R lv f) : pB < w.heap.size := (Array.getElem?_eq_some_iff.1 h.box).1
theorem Tb.keptC {G H : Nat → Prop} {w w' : World} {t : Nat} {L : List EntD} {k : Int} {f : Bool} (h : Tb G w t L k f) (hk : KpC H w w') (ht : H t) (hG : ∀ i, G i → H i) : Tb G w' t L k f := by
 obtain ⟨p, T, h1, h2, h3⟩ := h.tree
 exact ⟨h.not, h.srt, h.good, h.few, p, T, hk.cells t _ h1 rfl ht, h2.keptC (hk.mono hG), h3⟩
theorem Pl.keptC {H : Nat → Prop} {w w' : World} {pB tB : Nat} {X : Nat → Prop} {L R : List EntD} {lv : Value} {f : Bool} (h : Pl w pB tB X L R lv f) (hk : KpC H w w') (hH : ∀ k, PlB pB tB X k → H k) : Pl w' pB tB X L R lv f :=
 ⟨hk.cells pB _ h.box rfl (hH pB (.inl rfl)), h.tab.keptC hk (hH tB (.inr (.inl rfl))) (fun i hi => hH i (.inr (.inr hi))), h.ref.keptC (hk.mono (fun i hi => hH i (.inr (.inr hi)))), h.sm, fun k hx => Nat.lt_of_lt_of_le (h.lt k hx) hk.size, h.np, h.pt⟩
theorem Pl.cells {w : World} {pB tB : Nat} {X : Nat → Prop} {L R : List EntD} {lv : Value} {f : Bool} (h : Pl w pB tB X L R lv f) : w.cell? ⟨pB, 0, none⟩ = some (.pointer (some ⟨tB, 0, none⟩)) ∧ w.cell? ⟨pB, 1, none⟩ = some lv ∧ w.cell? ⟨pB, 2, none⟩ = some (.bool f) := by
 have hb := h.box
 simp [World.cell?, hb]
structure Gm (w : World) (pB tB g : Nat) (X FO : Nat → Prop) (L R : List EntD) (lv : Value) (f : Bool) : Prop where
 pl : Pl w pB tB X L R lv f
 fu : FuB w g FO
 fc : ∀ k, FO k → CellsAt w k
 ap : ∀ k, PlB pB tB X k → ¬ FO k
theorem Gm.keptC {H : Nat → Prop} {w w' : World} {pB tB g : Nat} {X FO : Nat → Prop} {L R : List EntD} {lv : Value} {f : Bool} (h : Gm w pB tB g X FO L R lv f) (hk : KpC H w w') (hH : ∀ k, PlB pB tB X k → H k) (hF : ∀ k, FO k → H k) : Gm w' pB tB g X FO L R lv f :=
 ⟨h.pl.keptC hk hH, h.fu.keptC h.fc hk hF, fun k hf => (h.fc k hf).kept hk (hF k hf), h.ap⟩
theorem Gm.later {w w' : World} {pB tB g : Nat} {X FO : Nat → Prop} {L R : List EntD} {lv : Value} {f : Bool} (h : Gm w pB tB g X FO L R lv f) (b : Below w.heap.size w w') : Gm w' pB tB g X FO L R lv f := h.keptC (H := fun _ => True) (KpC.of_below b) (fun _ _ => trivial) (fun _ _ => trivial)
theorem Gm.turn {B : Nat} {w w' : World} {pB tB g : Nat} {X FO : Nat → Prop} {L R : List EntD} {lv : Value} {f : Bool} (h : Gm w pB tB g X FO L R lv f) (b : Turn B w w') : Gm w' pB tB g X FO L R lv f := h.keptC (H := fun _ => True) b.toC (fun _ _ => trivial) (fun _ _ => trivial)
structure GoTo (w w' : World) (pB tB : Nat) (X FO X' FO' : Nat → Prop) : Prop where
 fb : Fb w w' (fun k => k = pB ∨ k = tB ∨ FO k)
 nx : ∀ k, X' k → X k ∨ w.heap.size ≤ k
 nf : ∀ k, FO' k → FO k ∨ w.heap.size ≤ k
theorem GoTo.trans {w w' w2 : World} {pB tB : Nat} {X FO X' FO' X2 FO2 : Nat → Prop} (h : GoTo w w' pB tB X FO X' FO') (k : GoTo w' w2 pB tB X' FO' X2 FO2) : GoTo w w2 pB tB X FO X2 FO2 := by
 refine ⟨h.fb.trans' k.fb h.fb.size (fun i hi hc => ?_), fun i hi => ?_, fun i hi => ?_⟩
 ·rcases hc with hc | hc | hc
  ·exact .inl hc
  ·exact .inr (.inl hc)
  ·rcases h.nf i hc with h1 | h1
   ·exact .inr (.inr h1)
   ·omega
 ·rcases k.nx i hi with h1 | h1
  ·exact h.nx i h1
  ·exact .inr (Nat.le_trans h.fb.size h1)
 ·rcases k.nf i hi with h1 | h1
  ·exact h.nf i h1
  ·exact .inr (Nat.le_trans h.fb.size h1)
theorem GoTo.below {w w' : World} {pB tB : Nat} {X FO : Nat → Prop} (b : Below w.heap.size w w') : GoTo w w' pB tB X FO X FO := ⟨Fb.of_below b, fun _ h => .inl h, fun _ h => .inl h⟩
end Go.Proofs.YtpabbnddeklpdaaGreat

namespace Go.Proofs.YtpabbnddeklpdaaGreat
open Go.RowKit Go.Shelf
set_option linter.unusedVariables false

set_option maxRecDepth 100000 in
set_option maxHeartbeats 4000000 in
theorem from_ans2 {w : World} {e : EntD} {v : Option Addr} (he : EntD.Ok w e) (hl : e.row.length ≤ 140737488355328 ∧ e.qual.length ≤ 140737488355328) :
  Calls Tryz.prog 7 #[.pointer v, .agg e.cells] w fun z w' => ∃ Bf x, z = .returned (.func (.func 25) #[] #[.pointer (some ⟨w.heap.size, 0, none⟩), .pointer (some ⟨Bf, 0, none⟩)]) ∧ Bxd w' w.heap.size 25 (.pointer v) ∧ EBox w' Bf x ∧ EntD.Same x { e with vv := .slice none 0 0, val := [] } ∧ EOk (fun i => w.heap.size ≤ i) w' x ∧ Below w.heap.size w w' ∧ w.heap.size + 2 ≤ w'.heap.size ∧ w.heap.size + 2 ≤ Bf ∧ Bf < w'.heap.size := by
 have A1 := (Below.refl w.heap.size w).alloc (Nat.le_refl _) (.cells #[.pointer v] 25)
 obtain ⟨d, hd⟩ : ∃ d : EntD, d = { e with vv := .slice none 0 0, val := [] } := ⟨_, rfl⟩
 have A2 := A1.alloc A1.size (.cells d.cells 38)
 have hed : EntD.Ok ((w.alloc (.cells #[.pointer v] 25)).alloc (.cells d.cells 38)) d := by
  rw [hd]
  rw [hd] at A2
  exact ⟨he.1.later A2, he.2.1.later A2, Rd.nil _⟩
 have HC : Hid (Calls Tryz.prog 24 _ _ _) := copyOf_any hed (by rw [hd]; exact ⟨hl.1, hl.2, by simp⟩)
 have HZ : Hid (Bxd ((w.alloc (.cells #[.pointer v] 25)).alloc (.cells d.cells 38)) w.heap.size 25 (.pointer v) ∧ ((w.alloc (.cells #[.pointer v] 25)).alloc (.cells d.cells 38)).heap.size = w.heap.size + 2) := ⟨(Bxd.new w _ _).keep (Below.heap_alloc _ _ _ (by simp)), by simp⟩
 have HA : Hid (Below w.heap.size w ((w.alloc (.cells #[.pointer v] 25)).alloc (.cells d.cells 38))) := A2
 obtain ⟨ar, nr, cr, e1⟩ := rd_slice he.1
 obtain ⟨aq, nq, cq, e2⟩ := rd_slice he.2.1
 obtain ⟨av, nv, cv, e3⟩ := rd_slice he.2.2
 have ed : d.cells = #[e.vr, .int .i64 e.fam, e.vq, .int .i64 e.ts, .int .i64 e.seq, .int .i64 e.kind, .slice none 0 0] := by rw [hd]; rfl
 have HD : Hid (∀ x, EntD.Same x d → EntD.Same x { e with vv := .slice none 0 0, val := [] }) := fun x h => by rw [← hd]; exact h
 rw [ed] at HC HA HZ
 unfold EntD.cells
 rw [e1, e2] at HC HA HZ
 rw [e1, e2, e3]
 clear A1 A2 he hl hed ed hd e1 e2 e3
 go_enter Tryz.func7, Tryz.ntmps7
 go_wp2_with fail
 refine Calls.mono HC.out ?_
 rintro z w1 ⟨x, rfl, hsm, hx, hb⟩
 have hsx := Lib.hid (HD.out _ hsm)
 have B1 := HA.out.trans (hb.mono HA.out.size)
 have z1 := Lib.hid (HZ.out.1.keep (hb.block _ HZ.out.1.lt))
 have z2 := Lib.hid (Nat.le_trans (Nat.le_of_eq HZ.out.2.symm) hb.size)
 have HX : Hid (EOk (fun i => w.heap.size ≤ i) (w1.alloc (.cells x.cells 38)) x) := (hx.mono (fun i hi => Nat.le_trans HA.out.size hi)).kept (KpG.of ((Below.refl w1.heap.size w1).alloc (Nat.le_refl _) _))
 have HE : Hid (EBox (w1.alloc (.cells x.cells 38)) w1.heap.size x) := EBox.new w1 x
 obtain ⟨br, mr, dr, e1⟩ := rd_slice hx.ok.1
 obtain ⟨bq, mq, dq, e2⟩ := rd_slice hx.ok.2.1
 obtain ⟨bv, mv, dv, e3⟩ := rd_slice hx.ok.2.2
 have ex : x.cells = #[.slice br mr dr, .int .i64 x.fam, .slice bq mq dq, .int .i64 x.ts, .int .i64 x.seq, .int .i64 x.kind, .slice bv mv dv] := by unfold EntD.cells; rw [e1, e2, e3]
 rw [ex] at HX HE ⊢
 clear hx hb HC HA HD HZ hsm e1 e2 e3 ex
 go_wp2
 go_ret
 refine ⟨_, x, rfl, z1.out.keep (Below.heap_alloc _ _ _ z1.out.lt), HE.out, hsx.out, HX.out, B1.alloc B1.size _, ?_, z2.out, ?_⟩
 ·rw [World.size_alloc]
  have := z2.out
  omega
 ·rw [World.size_alloc]
  omega

structure Nm (tB rB gr gq gv iB fB qB xB B : Nat) : Prop where
 r : tB < rB
 g1 : rB < gr ∧ rB < gq ∧ rB < gv
 g2 : gr < iB ∧ gq < iB ∧ gv < iB
 ap : gr ≠ gq ∧ gr ≠ gv ∧ gq ≠ gv
 f : iB < fB
 q : fB < qB
 x : qB < xB
 B : xB < B
structure Am (w : World) (tB rB gr nr cr gq nq cq gv nv cv iB fB qB xB B : Nat) (F x0 : EntD) (X : World) (L R : List EntD) (rv : Value) (D : EntD) : Prop where
 tab : Tb (fun i => B ≤ i) X tB L ((pk L : Nat) : Int) false
 ref : LB X B rv R
 rb : RBx X rB rv false
 ib : EBox X iB D
 lD : LaidE X (rB + 1) D
 fD : EntD.Fine D
 vr : D.vr = .slice (some ⟨gr, 0, none⟩) nr cr
 vq : D.vq = .slice (some ⟨gq, 0, none⟩) nq cq
 vv : D.vv = .slice (some ⟨gv, 0, none⟩) nv cv
 fb : EBox X fB F
 oF : EOk (fun i => iB < i) X F
 qb : Bxd X qB 25 (.pointer (some ⟨tB, 0, none⟩))
 xb : EBox X xB x0
 ox : EOk (fun i => iB < i) X x0
 below : Below w.heap.size w X
 size : B ≤ X.heap.size
 tw : w.heap.size < tB
variable {w X Y : World} {tB rB gr nr cr gq nq cq gv nv cv iB fB qB xB B : Nat} {F x0 D : EntD} {L R : List EntD} {rv : Value}
end Go.Proofs.YtpabbnddeklpdaaGreat


namespace Go.Proofs.YtpabbnddeklpdaaGreat
open Go.RowKit Go.Shelf
set_option linter.unusedVariables false

theorem Tb.monoX {G G' : Nat → Prop} {w : World} {t : Nat} {L : List EntD} {k : Int} {f : Bool} (h : Tb G w t L k f) (hg : ∀ i, G i → G' i) (ht : ¬ G' t) : Tb G' w t L k f := by
 obtain ⟨p, T, h1, h2, h3⟩ := h.tree
 exact ⟨ht, h.srt, h.good, h.few, p, T, h1, h2.mono hg, h3⟩
theorem Tb.capX {G : Nat → Prop} {X : World} {t : Nat} {L : List EntD} {k : Int} {f : Bool} (h : Tb G X t L k f) : Tb (fun i => G i ∧ i < X.heap.size) X t L k f := by
 obtain ⟨p, T, h1, h2, h3⟩ := h.tree
 exact ⟨fun hh => h.not hh.1, h.srt, h.good, h.few, p, T, h1, h2.lt, h3⟩
theorem RdX.lt {X : Nat → Prop} {w : World} {v : Value} {xs : List EntD} (h : RdX X w v xs) (hv : ∀ k, v.ownBlock = some k → k < w.heap.size) : RdX (fun i => X i ∧ i < w.heap.size) w v xs :=
 ⟨h.rd, fun x hx => (h.ents x hx).lt, fun k hk => ⟨h.row k hk, hv k hk⟩⟩
def AddF (w : World) (X : Nat → Prop) (R : List EntD) (f : Bool) (e : EntD) (z : Ending) (w' : World) : Prop :=
 ∃ (c : Nat) (lv : Value) (R' : List EntD), z = .returned (.tuple #[.agg #[lv, .bool f], .int .i64 (c : Int)]) ∧ RdX (fun k => X k ∨ w.heap.size ≤ k) w' lv R' ∧ (∀ k, lv.ownBlock = some k → X k ∨ (w.heap.size ≤ k ∧ k < w'.heap.size)) ∧ Below w.heap.size w w' ∧
  ((checkS e ≠ 0 ∧ c = checkS e ∧ R' = R) ∨ (checkS e = 0 ∧ f = true ∧ c = 81 ∧ R' = R) ∨ (f = false ∧ checkS e = 0 ∧ ∃ t, Spot R e t ∧ ((c = 80 ∧ R' = R ∧ ∃ x, R[t]? = some x ∧ compareS x e = 0) ∨ (c = 0 ∧ (∀ x, R[t]? = some x → compareS x e ≠ 0) ∧ ∃ x, EntD.Same x e ∧ R' = R.take t ++ x :: R.drop t))))
theorem RdL.blt {w : World} {v : Value} {xs : List EntD} (h : RdL w v xs) (hn : xs ≠ []) : ∀ k, v.ownBlock = some k → k < w.heap.size := by
 obtain ⟨a, cap, rfl, h2, h3, h4, h0, h5⟩ := h
 intro k hk
 cases xs with
 | nil => exact (hn rfl).elim
 | cons x xs =>
  obtain ⟨-, b, off, rfl, hc⟩ := h5 0 x rfl
  simp only [Value.ownBlock, Option.some.injEq] at hk
  subst hk
  exact World.block_lt_of_cell? _ _ hc.1
theorem refAdd_f {w : World} {X : Nat → Prop} {lv : Value} {R : List EntD} {f : Bool} {e : EntD} (hl : RdX X w lv R) (he : EntD.Ok w e) (hsz : R.length < 1000000) :
  Calls Tryz.prog 47 #[.agg #[lv, .bool f], .agg e.cells] w (AddF w X R f e) := by
 cases f with
 | true =>
  refine (refAdd_c hl.rd he).mono ?_
  rintro z w' ⟨rfl, b⟩
  refine ⟨_, lv, R, rfl, (hl.keptC (KpC.of_below b)).mono (fun i hi => .inl hi), fun k hk => .inl (hl.row k hk), b, ?_⟩
  by_cases hc : checkS e = 0
  ·exact .inr (.inl ⟨hc, rfl, by rw [if_pos hc], rfl⟩)
  ·exact .inl ⟨hc, by rw [if_neg hc], rfl⟩
 | false =>
  refine (refAdd_any hl.rd he hsz).mono ?_
  rintro z w' ⟨c, lv', R', rfl, rd, b, ⟨h1, h2, rfl, rfl⟩ | ⟨h1, t, sp, ⟨h2, ⟨rfl, rfl⟩, h4⟩ | ⟨h2, h3, x, h4, h5, h6, h7⟩⟩⟩
  ·exact ⟨c, _, _, rfl, (hl.keptC (KpC.of_below b)).mono (fun i hi => .inl hi), fun k hk => .inl (hl.row k hk), b, .inl ⟨h1, h2, rfl⟩⟩
  ·exact ⟨c, _, _, rfl, (hl.keptC (KpC.of_below b)).mono (fun i hi => .inl hi), fun k hk => .inl (hl.row k hk), b, .inr (.inr ⟨rfl, h1, t, sp, .inl ⟨h2, rfl, h4⟩⟩)⟩
  ·refine ⟨c, lv', R', rfl, ⟨rd, fun y hy => ?_, fun k hk => .inr (h7 k hk)⟩, fun k hk => .inr ⟨h7 k hk, rd.blt (by rw [h5]; simp) k hk⟩, b, .inr (.inr ⟨rfl, h1, t, sp, .inr ⟨h2, h3, x, h4, h5⟩⟩)⟩
   have hk := (hl.keptC (KpC.of_below b)).mono (X' := fun k => X k ∨ w.heap.size ≤ k) (fun i hi => .inl hi)
   rw [h5] at hy
   rcases List.mem_append.1 hy with hy | hy
   ·exact hk.ents y (List.mem_of_mem_take hy)
   ·rcases List.mem_cons.1 hy with rfl | hy
    ·exact h6.mono (fun i hi => .inr hi)
    ·exact hk.ents y (List.mem_of_mem_drop hy)
theorem both_f {R L R' L' : List EntD} {D e : EntD} {c c' : Nat} {f : Bool} (hs : Sm R L) (hl : Srt L) (hde : EntD.Same D e)
  (ht : (checkS D ≠ 0 ∧ c = checkS D ∧ L' = L) ∨ (checkS D = 0 ∧ f = true ∧ c = 81 ∧ L' = L) ∨ (checkS D = 0 ∧ f = false ∧ (∃ y ∈ L, compareS D y = 0) ∧ c = 80 ∧ L' = L) ∨ (c = 0 ∧ f = false ∧ checkS D = 0 ∧ (¬ ∃ y ∈ L, compareS D y = 0) ∧ ∃ A B x, L = A ++ B ∧ EntD.Same x D ∧ L' = A ++ x :: B ∧ Srt (A ++ x :: B)))
  (hr : (checkS e ≠ 0 ∧ c' = checkS e ∧ R' = R) ∨ (checkS e = 0 ∧ f = true ∧ c' = 81 ∧ R' = R) ∨ (f = false ∧ checkS e = 0 ∧ ∃ t, Spot R e t ∧ ((c' = 80 ∧ R' = R ∧ ∃ x, R[t]? = some x ∧ compareS x e = 0) ∨ (c' = 0 ∧ (∀ x, R[t]? = some x → compareS x e ≠ 0) ∧ ∃ x, EntD.Same x e ∧ R' = R.take t ++ x :: R.drop t)))) : c = c' ∧ Sm R' L' := by
 have hc : checkS D = checkS e := checkS_same hde
 cases f with
 | true =>
  rcases ht with ⟨h1, h2, rfl⟩ | ⟨h1, -, h2, rfl⟩ | ⟨-, h, -⟩ | ⟨-, h, -⟩
  ·rcases hr with ⟨k1, k2, rfl⟩ | ⟨k1, -, k2, rfl⟩ | ⟨h, -⟩
   ·exact ⟨by omega, hs⟩
   ·omega
   ·cases h
  ·rcases hr with ⟨k1, k2, rfl⟩ | ⟨k1, -, k2, rfl⟩ | ⟨h, -⟩
   ·omega
   ·exact ⟨by omega, hs⟩
   ·cases h
  ·cases h
  ·cases h
 | false =>
  refine both_add hs hl hde ?_ ?_
  ·rcases ht with h | ⟨-, h, -⟩ | ⟨h1, -, h2⟩ | ⟨h1, -, h2⟩
   ·exact .inl h
   ·cases h
   ·exact .inr (.inl ⟨h1, h2⟩)
   ·exact .inr (.inr ⟨h1, h2⟩)
  ·rcases hr with h | ⟨-, h, -⟩ | ⟨-, h1, h2⟩
   ·exact .inl h
   ·cases h
   ·exact .inr ⟨h1, h2⟩
def PlP (w : World) (pB tB g : Nat) (X FO : Nat → Prop) (n : Nat) (f : Bool) (z : Ending) (w' : World) : Prop :=
 z = .returned (.bool true) ∧ ∃ (X' FO' : Nat → Prop) (L' R' : List EntD) (lv' : Value), Gm w' pB tB g X' FO' L' R' lv' f ∧ GoTo w w' pB tB X FO X' FO' ∧ L'.length ≤ n
end Go.Proofs.YtpabbnddeklpdaaGreat

namespace Go.Proofs.YtpabbnddeklpdaaGreat
open Go.RowKit Go.Shelf
set_option linter.unusedVariables false
set_option linter.unusedSimpArgs false

theorem Own.take8 {w : World} {B n c k : Nat} {a : Option Addr} {xs : List Nat} (h : Own w B (.slice a n c) n xs) (hk : k ≤ n) : Own w B (.slice a k c) k (xs.take k) := by
 have hl : (xs.take k).length = k := by rw [List.length_take, ← h.1]; omega
 refine ⟨hl.symm, by rw [bv_length, hl]; omega, ?_⟩
 rcases h.2.2 with ⟨h1, h2⟩ | ⟨g, cap, cur, h3, h4, h5, h6, h7, h8, h9⟩
 ·simp only [Value.slice.injEq] at h1
  obtain ⟨rfl, -, rfl⟩ := h1
  have : k = 0 := by omega
  subst this
  exact .inl ⟨rfl, rfl⟩
 ·simp only [Value.slice.injEq] at h3
  obtain ⟨rfl, -, rfl⟩ := h3
  refine .inr ⟨g, c, cur, rfl, h4, h5, by omega, h7, h8, ?_⟩
  have e : cur.toList.take (k * 1) = (cur.toList.take (n * 1)).take (k * 1) := by rw [List.take_take, Nat.min_eq_left (by omega)]
  rw [e, h9]
  unfold bv
  rw [← List.map_take, Nat.mul_one]
theorem LaidE.rng8 {w : World} {B k : Nat} {D : EntD} (h : LaidE w B D) (hk : D.blk k) : B ≤ k ∧ k < w.heap.size := by
 rcases hk with q | q | q
 ·exact h.1.own_lt k q
 ·exact h.2.1.own_lt k q
 ·exact h.2.2.own_lt k q
theorem Laid.own08 {w : World} {B : Nat} {u : Value} {bs : List Nat} (h : Laid w B u bs) (hl : bs.length ≤ 5000) : ∃ a n c xs, u = .slice a n c ∧ n ≤ 200000 ∧ Own w 0 (.slice a n c) n xs := by
 obtain ⟨g, c, rfl, h2, h3, o⟩ := h
 refine ⟨_, _, _, bs, rfl, by omega, ?_⟩
 have o1 := (o.mono (Nat.zero_le _)).take8 (show bs.length ≤ bs.length + 75 by omega)
 rw [List.append_assoc, List.take_left] at o1
 exact o1
theorem LaidE.e38 {w : World} {B : Nat} {D : EntD} (h : LaidE w B D) (f : EntD.Fine D) (a : ApE D) : E3 w D := ⟨h.1.own08 f.1.2, h.2.1.own08 f.2.1.2, h.2.2.own08 f.2.2.2, a.1, a.2.1, a.2.2⟩
theorem RBx.set1c {w : World} {b : Nat} {v : Value} {f : Bool} (h : RBx w b v f) (g : Bool) : RBx (w.setCell ⟨b, 1, none⟩ (.bool g)) b v g := by
 unfold RBx at *
 simp [World.setCell, Array.getElem?_modify, h]
theorem fine_same8 {a b : EntD} (s : EntD.Same a b) (h : EntD.Fine b) : EntD.Fine a := h.same s
theorem same_cross {a b c : EntD} (h : EntD.Same a c) (k : EntD.Same b c) : EntD.Same a b := by
 unfold EntD.Same at *
 obtain ⟨h1, h2, h3, h4, h5, h6, h7⟩ := h
 obtain ⟨k1, k2, k3, k4, k5, k6, k7⟩ := k
 exact ⟨h1.trans k1.symm, h2.trans k2.symm, h3.trans k3.symm, h4.trans k4.symm, h5.trans k5.symm, h6.trans k6.symm, h7.trans k7.symm⟩
theorem Gm.added {w Z Z2 Z3 Z4 : World} {pB tB g : Nat} {X FO : Nat → Prop} {L R L' R' : List EntD} {lv lv' : Value} {f : Bool} (h : Gm w pB tB g X FO L R lv f)
  (bZ : Below w.heap.size w Z) (b2 : Below Z.heap.size Z Z2) (a3 : Apart tB Z2 Z3) (tb : Tb (fun k => X k ∨ Z2.heap.size ≤ k) Z3 tB L' ((pk L' : Nat) : Int) f)
  (rd : RdX (fun k => X k ∨ Z.heap.size ≤ k) Z2 lv' R') (rl : ∀ k, lv'.ownBlock = some k → X k ∨ (Z.heap.size ≤ k ∧ k < Z2.heap.size)) (sm : Sm R' L')
  (b4 : Below Z3.heap.size Z3 Z4) :
  ∃ X', Gm ((Z4.setCell ⟨pB, 1, none⟩ lv').setCell ⟨pB, 2, none⟩ (.bool f)) pB tB g X' FO L' R' lv' f ∧ GoTo w ((Z4.setCell ⟨pB, 1, none⟩ lv').setCell ⟨pB, 2, none⟩ (.bool f)) pB tB X FO X' FO ∧ ∀ k, X' k → X k ∨ Z.heap.size ≤ k := by
 have hpl := h.pl.plt
 have htl := h.pl.tlt
 have hs1 := bZ.size
 have hs2 := b2.size
 have hs3 := a3.size
 have hs4 := b4.size
 have hw2 : Below w.heap.size w Z2 := bZ.trans (b2.mono bZ.size)
 have htn : ¬ (X tB ∨ Z2.heap.size ≤ tB) := fun e => by
  rcases e with e | e
  ·exact h.pl.tab.not e
  ·omega
 -- the frame from w to Z4
 have f24 : Fb Z2 Z4 (fun k => k = tB) := (Fb.of_apart (O := fun k => k = tB) a3 rfl).trans (Fb.of_below b4)
 have fw4 : Fb w Z4 (fun k => k = tB) := (Fb.of_below hw2).trans' f24 hw2.size (fun i _ e => e)
 have fs : Fb Z4 ((Z4.setCell ⟨pB, 1, none⟩ lv').setCell ⟨pB, 2, none⟩ (.bool f)) (fun k => k = pB) := (Fb.set1F (O := fun k => k = pB) (g := pB) rfl 1 lv').trans (Fb.set1F (O := fun k => k = pB) (g := pB) rfl 2 _)
 have fw5 : Fb w ((Z4.setCell ⟨pB, 1, none⟩ lv').setCell ⟨pB, 2, none⟩ (.bool f)) (fun k => k = pB ∨ k = tB ∨ FO k) := (fw4.mono (fun i _ e => .inr (.inl e))).trans (fs.mono (fun i _ e => .inl e))
 obtain ⟨Z5, hZ5⟩ : ∃ Z5, Z5 = (Z4.setCell ⟨pB, 1, none⟩ lv').setCell ⟨pB, 2, none⟩ (.bool f) := ⟨_, rfl⟩
 have hbx : Z4.heap[pB]? = some (.cells #[.pointer (some ⟨tB, 0, none⟩), lv, .bool f] 31 (0, 0)) := (fw4.block pB hpl h.pl.pt).trans h.pl.box
 have hbx5 : Z5.heap[pB]? = some (.cells #[.pointer (some ⟨tB, 0, none⟩), lv', .bool f] 31 (0, 0)) := by
  have h1 : (Z4.setCell ⟨pB, 1, none⟩ lv').heap[pB]? = some (.cells #[.pointer (some ⟨tB, 0, none⟩), lv', .bool f] 31 (0, 0)) := by
   simp [World.setCell, Array.getElem?_modify, hbx]
  rw [hZ5]
  simp [World.setCell, Array.getElem?_modify, hbx]
 rw [← hZ5] at fs fw5 ⊢
 have hs5 := fs.size
 -- the blocks
 refine ⟨fun k => (X k ∨ Z.heap.size ≤ k) ∧ k < Z3.heap.size, ⟨⟨hbx5, ?_, ?_, sm, fun k hk => by have := hk.2; omega, fun hh => ?_, h.pl.pt⟩, ?_, ?_, ?_⟩, ⟨fw5, fun k hk => ?_, fun k hk => .inl hk⟩, fun k hk => hk.1⟩
 ·-- the table
  have t1 := tb.capX.monoX (G' := fun k => (X k ∨ Z.heap.size ≤ k) ∧ k < Z3.heap.size) (fun i hi => ⟨hi.1.imp id (fun e => by omega), hi.2⟩) (fun e => by
   rcases e.1 with e | e
   ·exact h.pl.tab.not e
   ·omega)
  have t2 := t1.keptC (H := fun _ => True) (KpC.of_below b4) trivial (fun _ _ => trivial)
  exact t2.keptC (H := fun k => k ≠ pB) (KpC.of_fb fs (fun k hk e => hk e)) (fun e => h.pl.pt e.symm) (fun i hi e => by
   subst e
   rcases hi.1 with e | e
   ·exact h.pl.np e
   ·omega)
 ·-- the list
  have r1 := rd.lt (fun k hk => by
   rcases rl k hk with e | e
   ·have := h.pl.lt k e; omega
   ·exact e.2)
  have r2 := r1.keptC (w' := Z4) (KpC.of_fb f24 (fun k hk e => by
   subst e
   rcases hk.1 with e | e
   ·exact h.pl.tab.not e
   ·omega))
  have r3 := r2.keptC (w' := Z5) (KpC.of_fb fs (fun k hk e => by
   subst e
   rcases hk.1 with e | e
   ·exact h.pl.np e
   ·omega))
  exact r3.mono (fun i hi => ⟨hi.1, by have := hi.2; omega⟩)
 ·rcases hh.1 with e | e
  ·exact h.pl.np e
  ·omega
 ·exact h.fu.keptC h.fc (KpC.of_fb (G := FO) fw4 (fun k hk e => h.ap k (.inr (.inl e)) hk)) (fun _ h => h) |>.keptC (fun k hk => (h.fc k hk).kept (KpC.of_fb (G := FO) fw4 (fun k hk e => h.ap k (.inr (.inl e)) hk)) hk) (KpC.of_fb (G := FO) fs (fun k hk e => h.ap k (.inl e) hk)) (fun _ h => h)
 ·exact fun k hk => ((h.fc k hk).kept (KpC.of_fb (G := FO) fw4 (fun k hk e => h.ap k (.inr (.inl e)) hk)) hk).kept (KpC.of_fb (G := FO) fs (fun k hk e => h.ap k (.inl e) hk)) hk
 ·rintro k (e | e | e) hf
  ·exact h.ap k (.inl e) hf
  ·exact h.ap k (.inr (.inl e)) hf
  ·rcases e.1 with e | e
   ·exact h.ap k (.inr (.inr e)) hf
   ·have := (h.fc k hf).lt; omega
 ·rcases hk.1 with e | e
  ·exact .inl e
  ·exact .inr (by omega)
theorem Gm.full {w w' : World} {pB tB g : Nat} {X FO FO' Y : Nat → Prop} {L R : List EntD} {lv : Value} {f : Bool} (h : Gm w pB tB g X FO L R lv f)
  (hf : FuB w' g FO') (hb : Fb w w' (fun k => FO k ∨ Y k)) (hY : ∀ k, Y k → ¬ PlB pB tB X k) (hF : ∀ k, FO' k → FO k ∨ Y k ∨ w.heap.size ≤ k) :
  ∃ FO2, Gm w' pB tB g X FO2 L R lv f ∧ ∀ k, FO2 k → FO k ∨ Y k ∨ w.heap.size ≤ k := by
 have hlt : ∀ k, PlB pB tB X k → k < w.heap.size := by
  rintro k (e | e | e)
  ·have := h.pl.plt; omega
  ·have := h.pl.tlt; omega
  ·exact h.pl.lt k e
 refine ⟨_, ⟨h.pl.keptC (H := PlB pB tB X) (KpC.of_fb hb (fun k hk e => ?_)) (fun _ h => h), hf.cells, fun k hk => hk.2, fun k hk e => ?_⟩, fun k hk => hF k hk.1⟩
 ·rcases e with e | e
  ·exact h.ap k hk e
  ·exact hY k e hk
 ·rcases hF k e.1 with q | q | q
  ·exact h.ap k hk q
  ·exact hY k q hk
  ·have := hlt k hk; omega
end Go.Proofs.YtpabbnddeklpdaaGreat
