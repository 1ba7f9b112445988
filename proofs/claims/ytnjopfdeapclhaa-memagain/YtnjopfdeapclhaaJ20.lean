import Derived.Test.YtnjopfdeapclhaaM30
import Derived.Test.YtnjopfdeapclhaaJ14
namespace Go.Proofs.Ytnjopfdeapclhaa
open Go.RowKit Go.Shelf
set_option linter.unusedVariables false
attribute [local go_sem] Oper.semAt_some

theorem EOk.turn {G : Nat → Prop} {B : Nat} {w w' : World} {e : EntD} (h : EOk G w e) (t : Turn B w w') : EOk G w' e := h.keptC t.toC

set_option maxRecDepth 100000 in
theorem ofrom_any (w : World) (p : Option Addr) (x : EntD) : Calls Try.prog 51 #[ordV p, .agg x.cells] w fun e w' => e = .returned (.func (.func 77) #[] #[.pointer (some ⟨w.heap.size, 0, none⟩), .pointer (some ⟨w.heap.size + 1, 0, none⟩)]) ∧ w' = (w.alloc (.cells #[.pointer p, .func (.func 18) #[] #[]] 67)).alloc (.cells x.cells 30) := by
  unfold ordV EntD.cells
  go_enter Try.func51, Try.ntmps51
  go_wp2
  go_ret
  exact ⟨rfl, rfl⟩

set_option maxRecDepth 100000 in
set_option maxHeartbeats 4000000 in
theorem ofrom1_in {l Bo Bf n B : Nat} {G : Nat → Prop} {p : Option Addr} {T : BT} {x : EntD} {J Jx : List EntD → World → Prop} (hAb : AbT B J)
    (hY : ∀ m pre y W, J pre W → Nx G (fromS x T) pre y W → YieldAt Fence.wide m Try.prog l #[.agg y.cells] W fun e W' => (e = .returned (.bool true) ∧ J (pre ++ [y]) W' ∧ KpC G W W') ∨ (e = .returned (.bool false) ∧ Jx (pre ++ [y]) W'))
    (W : World) (hBs : B ≤ W.heap.size) (hB : OBox W Bo p) (hF : EBox W Bf x) (hx : EntD.Ok W x) (hT : IsT G W p T) (h0 : J [] W) :
    CallsIn Fence.wide n Try.prog 77 #[.func (.yield l) #[] #[], .pointer (some ⟨Bo, 0, none⟩), .pointer (some ⟨Bf, 0, none⟩)] W fun e W' => (∃ v, e = .returned v) ∧ ((∃ xs, xs = fromS x T ∧ J xs W') ∨ (∃ pre, pre <+: fromS x T ∧ Jx pre W')) := by
  have D0 : Below W.heap.size W W.drew := (Below.refl _ _).drew
  have HG : Hid (∀ wx, Below W.heap.size W wx → Calls Try.prog 78 #[.agg #[.pointer p, .func (.func 18) #[] #[]], .pointer p, .agg #[x.vr, .int .i64 x.fam, x.vq, .int .i64 x.ts, .int .i64 x.seq, .int .i64 x.kind, x.vv], .func (.yield l) #[] #[]] wx fun z W1 => ∃ t : Bool, z = .returned (.bool t) ∧ Hid (((∃ xs, xs = fromS x T ∧ J xs W1) ∨ (∃ pre, pre <+: fromS x T ∧ Jx pre W1)))) := fun wx bb => by
    refine (callsIn_wide (n := 3)).1 ((giveFrom_in hAb hY T 3 p [] wx (by simp) (hT.kept (KpG.of bb)) (hx.later bb) (Nat.le_trans hBs bb.size) (hAb _ _ _ hBs h0 (Turn.of bb hBs))).mono ?_)
    rintro z W1 (⟨rfl, hj, k1⟩ | ⟨rfl, q, hq, h⟩)
    · exact ⟨true, rfl, .inl ⟨_, rfl, hj⟩⟩
    · exact ⟨false, rfl, .inr ⟨q, hq, h⟩⟩
  have c0 := hB.c0
  have c1 := hB.c1
  obtain ⟨d0, d1, d2, d3, d4, d5, d6⟩ := (⟨hF.vr, hF.fam, hF.vq, hF.ts, hF.seq, hF.kind, hF.vv⟩ : _ ∧ _ ∧ _ ∧ _ ∧ _ ∧ _ ∧ _)
  clear hY hAb hT hx h0 hF hB hBs
  have hmx : Try.prog.follows .mixedOrders = true := by kernel_rfl
  refine callsIn_of_wp Try.func77 rfl trivial ?_ rfl
  simp only [Try.ntmps77, List.size_toArray, List.length_cons, List.length_nil, Nat.reduceAdd, Nat.reduceSub, Array.replicate_succ, Array.replicate_zero, List.push_toArray, List.append_toArray, List.nil_append, List.cons_append]
  refine wpIn_wide.2 ?_
  go_wp2_with (go_at_call 78; refine Calls.mono (HG.out _ (by first | exact D0 | exact Below.refl _ _)) ?_; rintro z W1 ⟨t, rfl, hh⟩)
  all_goals
    go_end0
    exact ⟨⟨_, rfl⟩, hh.out⟩

set_option maxRecDepth 100000 in
set_option maxHeartbeats 4000000 in
theorem giveCopiesF_in {l n : Nat} {G : Nat → Prop} {p : Option Addr} {T : BT} {J Jx : List EntD → World → Prop} {W0 : Nat} {x0 : EntD} (W : World) (hW0 : W0 + 2 = W.heap.size) (hB : OBox W W0 p) (hF : EBox W (W0 + 1) x0) (hx0 : EOk (fun _ => True) W x0) (hT : IsT G W p T) (hlen : ∀ x ∈ (fromS x0 T), x.row.length ≤ 140737488355328 ∧ x.qual.length ≤ 140737488355328 ∧ x.val.length ≤ 140737488355328)
    (hJs : ∀ s X, J s X → W0 ≤ X.heap.size) (hJ : AbT W0 J) (hJx : AbT W0 Jx)
    (hY : ∀ m pre x W1, J pre W1 → NxC (fromS x0 T) W0 pre x W1 → YieldAt Fence.wide m Try.prog l #[.agg x.cells] W1 fun e W' => (e = .returned (.bool true) ∧ J (pre ++ [x]) W' ∧ KpO G W0 W1 W') ∨ (e = .returned (.bool false) ∧ Jx (pre ++ [x]) W' ∧ Oth W0 W1 W'))
    (h0 : J [] W) :
    CallsIn Fence.wide n Try.prog 36 #[.func (.func 77) #[] #[.pointer (some ⟨W0, 0, none⟩), .pointer (some ⟨W0 + 1, 0, none⟩)], .func (.yield l) #[] #[]] W fun e W' => (∃ v, e = .returned v) ∧ ((∃ xs, Sm xs (fromS x0 T) ∧ J xs W') ∨ (∃ pre, (∃ q, q <+: (fromS x0 T) ∧ Sm pre q) ∧ Jx pre W')) := by
  refine callsIn_of_wp_marks Try.func36 rfl trivial ?_ rfl
  simp only [Try.ntmps36, List.size_toArray, List.length_cons, List.length_nil, Nat.reduceAdd, Nat.reduceSub, Array.replicate_succ, Array.replicate_zero, List.push_toArray, List.append_toArray, List.nil_append, List.cons_append]
  gi_wp2
  have eY : (W.alloc (.cells #[.func (.yield l) #[] #[]] 70)).heap[W.heap.size]? = some (.cells #[.func (.yield l) #[] #[]] 70 (0, 0)) := World.alloc_heap_new W _
  have T1 : Turn W0 W (W.alloc (.cells #[.func (.yield l) #[] #[]] 70)) := Turn.of ((Below.refl _ W).alloc (Nat.le_refl _) _) (by omega)
  have hB1 := T1.obox hB
  have hF1 : EBox _ (W0 + 1) x0 := T1.cells _ _ hF rfl
  have hx1 := hx0.turn T1
  have hT1 := hT.keptC T1.toC
  have h01 := hJ [] _ _ (by omega) h0 T1
  have hs1 : (W.alloc (.cells #[.func (.yield l) #[] #[]] 70)).heap.size = W0 + 3 := by simp; omega
  generalize W.alloc (.cells #[.func (.yield l) #[] #[]] 70) = V at *
  obtain ⟨Y, hYe⟩ : ∃ Y, Y = W.heap.size := ⟨_, rfl⟩
  rw [← hYe] at eY hW0 ⊢
  clear hYe
  refine range_wide (w := V) rfl (enters_of Try.func77 (by kernel_rfl) rfl) (encs := fun x : EntD => #[.agg x.cells]) (Gd := fun _ => Nx G (fromS x0 T)) (Kp := fun _ => KpC G) (S := fun xs => xs = (fromS x0 T)) (Sp := fun pre => pre <+: (fromS x0 T))
    (fun l' n' J' Jx' X hX hJs' hJ' _ hY' h0' => ofrom1_in hJ' (fun m pre x W1 a b => (hY' m pre x W1 a b).mono (fun e w' h => h.imp id (fun k => ⟨k.1, k.2.1⟩))) X (Nat.le_refl _) (hX.obox hB1) (hX.cells _ _ hF1 rfl) (hx1.turn hX).ok (hT1.keptC hX.toC) h0') (fun h k => h.trans k) (fun X o o' ho hc => KpC.put o' ho hc) (fun _ => rfl)
    (fun pre X => ∃ qs, Sm qs pre ∧ J qs X ∧ IsT G X p T ∧ X.heap[Y]? = some (.cells #[.func (.yield l) #[] #[]] 70 (0, 0)) ∧ W0 + 3 ≤ X.heap.size)
    (fun c pre X => c = .ret ∧ ∃ qs, Sm qs pre ∧ Jx qs X ∧ W0 + 3 ≤ X.heap.size)
    (fun s X h => by rw [hs1]; exact h.choose_spec.2.2.2.2)
    (fun s X Z hX ⟨qs, k1, k2, k3, k4, k5⟩ t => ⟨qs, k1, hJ _ _ _ (by omega) k2 (t.mono (by omega)), k3.keptC t.toC, t.cells _ _ k4 rfl, Nat.le_trans k5 t.below.size⟩)
    (fun c s X Z hX ⟨k0, qs, k1, k2, k5⟩ t => ⟨k0, qs, k1, hJx _ _ _ (by omega) k2 (t.mono (by omega)), Nat.le_trans k5 t.below.size⟩)
    ⟨[], trivial, h01, hT1, eY, by omega⟩
    (fun pre x a' X => ∃ Bx, W0 + 4 ≤ Bx ∧ EBox X Bx x ∧ Nx G (fromS x0 T) pre x X ∧ a' = { tmps := #[.func (.func 77) #[] #[.pointer (some ⟨W0, 0, none⟩), .pointer (some ⟨W0 + 1, 0, none⟩)], .func (.yield l) #[] #[], undef, .pointer (some ⟨Y, 0, none⟩), .pointer (some ⟨Bx, 0, none⟩), .func (.func 77) #[] #[.pointer (some ⟨W0, 0, none⟩), .pointer (some ⟨W0 + 1, 0, none⟩)], .agg x.cells, undef, undef, undef, undef, undef], defers := [] })
    (fun pre x a' _ X Z hX ⟨Bx, k0, k1, k2, k3⟩ t => ⟨Bx, k0, t.cells _ _ k1 rfl, ⟨k2.1, k2.2.keptC t.toC⟩, k3⟩)
    ?assign ?body ?done ?stop (fun c s X h => by rw [hs1]; exact h.2.choose_spec.2.2)
  case assign =>
    intro l' pre x X K hi hsX hgd hK
    have hsX' : W0 + 4 ≤ X.heap.size := by omega
    obtain ⟨vr, fam, vq, ts, seq, kind, vv, row, qual, val⟩ := x
    have r1 : Rd X vr row := hgd.2.1.1
    have r2 : Rd X vq qual := hgd.2.2.1.1
    have r3 : Rd X vv val := hgd.2.2.2.1
    obtain ⟨ar, nr, cr, rfl⟩ := rd_slice r1
    obtain ⟨aq, nq, cq, rfl⟩ := rd_slice r2
    obtain ⟨av, nv, cv, rfl⟩ := rd_slice r3
    have hb := (Below.refl X.heap.size X).alloc (Nat.le_refl _) (.cells (EntD.mk (.slice ar nr cr) fam (.slice aq nq cq) ts seq kind (.slice av nv cv) row qual val).cells 30)
    have t := Turn.of (B := V.heap.size) hb (by omega)
    have HI : Hid (∃ qs, Sm qs pre ∧ J qs _ ∧ IsT G _ p T ∧ _ ∧ W0 + 3 ≤ _) := (fun ⟨qs, k1, k2, k3, k4, k5⟩ => ⟨qs, k1, hJ _ _ _ (by omega) k2 (t.mono (by omega)), k3.keptC t.toC, t.cells _ _ k4 rfl, Nat.le_trans k5 t.below.size⟩) hi
    have HN : Hid (Nx G (fromS x0 T) pre _ _) := ⟨hgd.1, hgd.2.keptC t.toC⟩
    have HT : Hid (Turn V.heap.size X _) := t
    have HX : Hid (EBox (X.alloc (.cells (EntD.mk (.slice ar nr cr) fam (.slice aq nq cq) ts seq kind (.slice av nv cv) row qual val).cells 30)) X.heap.size _) := EBox.new X _
    clear hb t hi hgd r1 r2 r3
    simp only [EntD.cells] at *
    gi_wp2
    exact hK _ _ ((KeepsOthers.alloc _ _).from _) HT.out.toC HI.out ⟨X.heap.size, hsX', HX.out, HN.out, rfl⟩
  case body =>
    rintro l' pre x a' X ⟨qs, k1, k2, k3, k4, k5⟩ ⟨Bx, hBx, bx, hnx, rfl⟩
    have hmx : Try.prog.follows .mixedOrders = true := by kernel_rfl
    have hdd : ∀ k : Nat, ((Fence.wide.inRound l').depth.isSome = true → 1 ≤ k) := fun k h => by cases h
    have hdd2 : ∀ k : Nat, (Fence.wide.depth.isSome = true → 1 ≤ k) := fun k h => by cases h
    have hXb : Bx < X.heap.size := (Array.getElem?_eq_some_iff.1 bx).1
    have yc : X.cell? ⟨Y, 0, none⟩ = some (.func (.yield l) #[] #[]) := by simp [World.cell?, k4]
    have HYc : Hid (∀ Z, Below X.heap.size X Z → Z.cell? ⟨Y, 0, none⟩ = some (.func (.yield l) #[] #[])) := fun Z b => (b.cell (p := ⟨Y, 0, none⟩) (World.block_lt_of_cell? _ _ yc)).trans yc
    have hmem : x ∈ (fromS x0 T) := by
      obtain ⟨r, hr⟩ := hnx.1
      rw [← hr]; simp
    have HC : Hid (∀ Z, Below X.heap.size X Z → Calls Try.prog 34 #[.agg x.cells] Z fun z w' => ∃ e : EntD, z = .returned (.agg e.cells) ∧ EntD.Same e x ∧ EOk (fun i => Z.heap.size ≤ i) w' e ∧ Below Z.heap.size Z w') := fun Z b => copyOf_any (hnx.2.ok.later b) (hlen x hmem)
    have HYY : Hid (∀ Z e, Below X.heap.size X Z → EntD.Same e x → EOk (fun i => X.heap.size ≤ i) Z e → YieldAt Fence.wide n Try.prog l #[.agg e.cells] Z fun z W' => ∃ t : Bool, z = .returned (.bool t) ∧ Hid ((t = true → KeepsFrom V.heap.size X W' ∧ KpC G X W' ∧ ∃ qs, Sm qs (pre ++ [x]) ∧ J qs W' ∧ IsT G W' p T ∧ W'.heap[Y]? = some (.cells #[.func (.yield l) #[] #[]] 70 (0, 0)) ∧ W0 + 3 ≤ W'.heap.size) ∧ (t = false → KeepsFrom V.heap.size X W' ∧ ∃ qs, Sm qs (pre ++ [x]) ∧ Jx qs W' ∧ W0 + 3 ≤ W'.heap.size))) := fun Z e b hse hek => by
      have tZ : Turn W0 X Z := Turn.of b (by omega)
      refine (hY n qs e Z (hJ _ _ _ (by omega) k2 tZ) ⟨by have := b.size; omega, ⟨pre ++ [x], hnx.1, k1.snoc hse⟩, hek.mono (fun i hi => by omega)⟩).mono ?_
      rintro z W' (⟨hz, j1, kp⟩ | ⟨hz, j1, kp⟩)
      · refine ⟨true, hz, fun _ => ⟨((Oth.of b).trans kp.others).keeps.mono' (by omega), (KpC.trans (tZ.toC) (kp.keeps.mono (fun i hi => .inl hi))), qs ++ [e], k1.snoc hse, j1, (k3.keptC tZ.toC).keptC (kp.keeps.mono (fun i hi => .inl hi)), kp.keeps.cells _ _ (tZ.cells _ _ k4 rfl) rfl (.inr ⟨by omega, by omega⟩), ?_⟩, fun h => (by cases h)⟩
        have := b.size; have := kp.others.size; omega
      · refine ⟨false, hz, fun h => (by cases h), fun _ => ⟨((Oth.of b).trans kp).keeps.mono' (by omega), qs ++ [e], k1.snoc hse, j1, ?_⟩⟩
        have := b.size; have := kp.size; omega
    obtain ⟨c0, c1, c2, c3, c4, c5, c6⟩ := (⟨bx.vr, bx.fam, bx.vq, bx.ts, bx.seq, bx.kind, bx.vv⟩ : _ ∧ _ ∧ _ ∧ _ ∧ _ ∧ _ ∧ _)
    have D0 : Below X.heap.size X X.drew := (Below.refl _ _).drew
    unfold EntD.cells at HC HYY
    unfold EntD.cells
    clear k1 k2 k3 hnx hmem bx hY hlen hJ hJx hT1 hT hB hB1 hF hF1 hx0 hx1
    gi_wp2
    gi_region_with_o (first | (refine ⟨trivial, hdd _, ?_⟩; gi_at_call 34; refine (CallsIn.inRound l' (callsIn_wide.2 (HC.out _ D0))).mono ?_; rintro z w1 ⟨e, rfl, hse, hek, hb1⟩; have yc1 := HYc.out _ (D0.trans (hb1.mono D0.size)); obtain ⟨fn, tmps, assign, body, hy, hR⟩ := HYY.out _ e (D0.trans (hb1.mono D0.size)) hse hek) | (refine ⟨hdd2 _, ?_⟩; refine (roundIn_inRound l' (roundIn_anyDepth hR)).mono ?_; rintro z W3 ⟨tt, rfl, hr⟩))
    all_goals
      cases tt
      · gi_wp2
        have h2 := hr.out.2 (by first | rfl | trivial)
        exact ⟨by rw [← hs1]; exact h2.1, rfl, h2.2⟩
      · gi_wp2
        have h2 := hr.out.1 (by first | rfl | trivial)
        exact ⟨by rw [← hs1]; exact h2.1, h2.2.1, h2.2.2⟩
  case done =>
    rintro D xs X hD rfl ⟨qs, k1, k2, k3, k4, k5⟩ hdf
    gi_wp2
    refine ⟨by simp, .inl ⟨_, _, rfl, run_takeDeferred hdf, ?_⟩⟩
    exact ⟨_, results_none rfl _ _ _, ⟨_, rfl⟩, .inl ⟨qs, k1, hJ _ _ _ (by omega) k2 (Turn.put _ (by omega) (by omega) hdf rfl)⟩⟩
  case stop =>
    rintro D c pre X hD hsp ⟨rfl, qs, k1, k2, k5⟩ hdf
    gi_wp2
    refine ⟨by simp, .inl ⟨_, _, rfl, run_takeDeferred hdf, ?_⟩⟩
    exact ⟨_, results_none rfl _ _ _, ⟨_, rfl⟩, .inr ⟨qs, ⟨pre, hsp, k1⟩, hJx _ _ _ (by omega) k2 (Turn.put _ (by omega) (by omega) hdf rfl)⟩⟩

set_option maxRecDepth 100000 in
set_option maxHeartbeats 4000000 in
/-- t.From(e), ranged over: copies of what the table holds when the range begins. -/
theorem from_seq {G : Nat → Prop} {w : World} {Bt t : Nat} {p : Option Addr} {T : BT} {x0 : EntD} {Bf : Nat} {n k : Int} {f : Bool} (hBf : EBox w Bf x0) (hx0 : EOk (fun _ => True) w x0) (hBt : w.heap[Bt]? = some (.cells #[.pointer (some ⟨t, 0, none⟩)] 24 (0, 0))) (hb : TBox w t p n k f) (hT : IsT G w p T) (hlen : ∀ x ∈ (fromS x0 T), x.row.length ≤ 140737488355328 ∧ x.qual.length ≤ 140737488355328 ∧ x.val.length ≤ 140737488355328) :
    SeqW Try.prog 50 #[.pointer (some ⟨Bt, 0, none⟩), .pointer (some ⟨Bf, 0, none⟩)] (fun x : EntD => #[.agg x.cells]) (NxC (fromS x0 T)) (KpO G) (fun xs => Sm xs (fromS x0 T)) (fun pre => ∃ q, q <+: (fromS x0 T) ∧ Sm pre q) w := by
  intro l n' J Jx W hW hJs hJ hJx hY h0
  have hdd : ∀ k : Nat, (Fence.wide.depth.isSome = true → 1 ≤ k) := fun k h => by cases h
  have e1 := hW.cells _ _ hBt rfl
  have e2 : TBox W t p n k f := hW.cells _ _ hb rfl
  have e3 := hT.keptC hW.toC
  have c1 : W.cell? ⟨Bt, 0, none⟩ = some (.pointer (some ⟨t, 0, none⟩)) := by simp [World.cell?, e1]
  have c2 := e2.cells.1
  have c3 := e2.cells.2.1
  have f0 : EBox W Bf x0 := hW.cells _ _ hBf rfl
  have f1 := hx0.turn hW
  obtain ⟨d0, d1, d2, d3, d4, d5, d6⟩ := (⟨f0.vr, f0.fam, f0.vq, f0.ts, f0.seq, f0.kind, f0.vv⟩ : _ ∧ _ ∧ _ ∧ _ ∧ _ ∧ _ ∧ _)
  have D0 : Below W.heap.size W W.drew := (Below.refl _ _).drew
  have HC : Hid (∀ Z, Below W.heap.size W Z → Z.heap.size = W.heap.size + 2 → OBox Z W.heap.size p → EBox Z (W.heap.size + 1) x0 → Calls Try.prog 36 #[.func (.func 77) #[] #[.pointer (some ⟨W.heap.size, 0, none⟩), .pointer (some ⟨W.heap.size + 1, 0, none⟩)], .func (.yield l) #[] #[]] Z fun e W' => (∃ v, e = .returned v) ∧ ((∃ xs, Sm xs (fromS x0 T) ∧ J xs W') ∨ (∃ pre, (∃ q, q <+: fromS x0 T ∧ Sm pre q) ∧ Jx pre W'))) := fun Z bb hs bo bx => by
    have tW : Turn W.heap.size W Z := Turn.of bb (Nat.le_refl _)
    exact (callsIn_wide (n := 3)).1 (giveCopiesF_in (l := l) (n := 3) (J := J) (Jx := Jx) (W0 := W.heap.size) Z hs.symm bo bx (f1.turn tW) (e3.keptC tW.toC) hlen hJs hJ hJx hY (hJ _ _ _ (Nat.le_refl _) h0 tW))
  have HO : Hid (∀ wx, wx.heap.size = W.heap.size → Below W.heap.size W wx → Calls Try.prog 51 #[.agg #[.pointer p, .func (.func 18) #[] #[]], .agg x0.cells] wx fun e w' => e = .returned (.func (.func 77) #[] #[.pointer (some ⟨W.heap.size, 0, none⟩), .pointer (some ⟨W.heap.size + 1, 0, none⟩)]) ∧ Below W.heap.size W w' ∧ w'.heap.size = W.heap.size + 2 ∧ OBox w' W.heap.size p ∧ EBox w' (W.heap.size + 1) x0) := fun wx hs bb => by
    refine (ofrom_any wx p x0).mono ?_
    rintro z w' ⟨rfl, rfl⟩
    have A1 := (Below.refl wx.heap.size wx).alloc (Nat.le_refl _) (.cells #[.pointer p, .func (.func 18) #[] #[]] 67)
    have A2 := A1.alloc A1.size (.cells x0.cells 30)
    have bo := (OBox.new wx p).later ((Below.refl (wx.alloc (.cells #[.pointer p, .func (.func 18) #[] #[]] 67)).heap.size _).alloc (Nat.le_refl _) (.cells x0.cells 30))
    have bx := EBox.new (wx.alloc (.cells #[.pointer p, .func (.func 18) #[] #[]] 67)) x0
    rw [World.size_alloc] at bx
    rw [hs] at bo bx ⊢
    exact ⟨rfl, bb.trans (A2.mono bb.size), by simp [hs], bo, bx⟩
  refine callsIn_of_wp Try.func50 rfl trivial ?_ rfl
  simp only [Try.ntmps50, List.size_toArray, List.length_cons, List.length_nil, Nat.reduceAdd, Nat.reduceSub, Array.replicate_succ, Array.replicate_zero, List.push_toArray, List.append_toArray, List.nil_append, List.cons_append]
  clear hY hJ hJx hJs h0 e1 e2 e3 f0 f1
  unfold EntD.cells at HO HC
  have hmx : Try.prog.follows .mixedOrders = true := by kernel_rfl
  refine wpIn_wide.2 ?_
  go_wp2_with fail
  go_region_with_o (first | (go_at_call 51; refine Calls.mono (HO.out _ rfl D0) ?_; rintro z wz ⟨rfl, bz, hz, oz, ez⟩) | (go_at_call 36; refine Calls.mono (HC.out _ bz hz oz ez) ?_; rintro z W1 ⟨⟨v, rfl⟩, hr⟩))
  all_goals
    go_end0
    exact ⟨⟨_, rfl⟩, hr⟩
end Go.Proofs.Ytnjopfdeapclhaa


namespace Go.Proofs.Ytnjopfdeapclhaa
open Go.RowKit Go.Shelf
set_option linter.unusedVariables false
attribute [local go_sem] Oper.semAt_some

theorem dropWhile_all {α : Type} {p : α → Bool} : ∀ {l : List α}, (∀ y ∈ l, p y = true) → l.dropWhile p = []
  | [], _ => rfl
  | y :: l, h => by rw [List.dropWhile_cons, if_pos (h y (by simp))]; exact dropWhile_all (fun z hz => h z (by simp [hz]))
theorem fromS_drop (x : EntD) : ∀ T : BT, Srt T.ord → fromS x T = T.ord.dropWhile (fun y => decide (compareS y x < 0))
  | .leaf, _ => rfl
  | .node l e r, h => by
    simp only [BT.ord] at h ⊢
    have h1 : Srt l.ord := (List.pairwise_append.1 h).1
    have h2 := (List.pairwise_append.1 h).2.1
    have h3 : Srt r.ord := (List.pairwise_cons.1 h2).2
    rw [List.dropWhile_append, fromS]
    split
    · rename_i hc
      have e1 : l.ord.dropWhile (fun y => decide (compareS y x < 0)) = [] := by
        refine dropWhile_all fun y hy => ?_
        have := (List.pairwise_append.1 h).2.2 y hy e (by simp)
        simpa using cmp_lt_trans this hc
      rw [e1, fromS_drop x r h3]
      simp [hc]
    · rename_i hc
      rw [fromS_drop x l h1]
      split
      · rename_i hn
        have : l.ord.dropWhile (fun y => decide (compareS y x < 0)) = [] := by simpa using hn
        rw [this]
        simp [hc]
      · rfl
theorem fromS_same {x y : EntD} (h : ∀ z, compareS z x = compareS z y) : ∀ T : BT, fromS x T = fromS y T
  | .leaf => rfl
  | .node l e r => by rw [fromS, fromS, h e, fromS_same h l, fromS_same h r]
theorem compareS_noval (z e : EntD) (v : Value) (l : List Nat) : compareS z { e with vv := v, val := l } = compareS z e := rfl

set_option maxRecDepth 100000 in
set_option maxHeartbeats 4000000 in
/-- From: told exactly. -/
theorem from_ans {w : World} {e : EntD} {v : Option Addr} (he : EntD.Ok w e) (hl : e.row.length ≤ 140737488355328 ∧ e.qual.length ≤ 140737488355328) :
    Calls Try.prog 27 #[.pointer v, .agg e.cells] w fun z w' => ∃ Bf x, z = .returned (.func (.func 50) #[] #[.pointer (some ⟨w.heap.size, 0, none⟩), .pointer (some ⟨Bf, 0, none⟩)]) ∧ Bxd w' w.heap.size 24 (.pointer v) ∧ EBox w' Bf x ∧ EntD.Same x { e with vv := .slice none 0 0, val := [] } ∧ EOk (fun i => w.heap.size ≤ i) w' x ∧ Below w.heap.size w w' ∧ w.heap.size + 2 ≤ w'.heap.size := by
  have A1 := (Below.refl w.heap.size w).alloc (Nat.le_refl _) (.cells #[.pointer v] 24)
  obtain ⟨d, hd⟩ : ∃ d : EntD, d = { e with vv := .slice none 0 0, val := [] } := ⟨_, rfl⟩
  have A2 := A1.alloc A1.size (.cells d.cells 30)
  have hed : EntD.Ok ((w.alloc (.cells #[.pointer v] 24)).alloc (.cells d.cells 30)) d := by
    rw [hd]
    rw [hd] at A2
    exact ⟨he.1.later A2, he.2.1.later A2, Rd.nil _⟩
  have HC : Hid (Calls Try.prog 34 _ _ _) := copyOf_any hed (by rw [hd]; exact ⟨hl.1, hl.2, by simp⟩)
  have HZ : Hid (Bxd ((w.alloc (.cells #[.pointer v] 24)).alloc (.cells d.cells 30)) w.heap.size 24 (.pointer v) ∧ ((w.alloc (.cells #[.pointer v] 24)).alloc (.cells d.cells 30)).heap.size = w.heap.size + 2) := ⟨(Bxd.new w _ _).keep (Below.heap_alloc _ _ _ (by simp)), by simp⟩
  have HA : Hid (Below w.heap.size w ((w.alloc (.cells #[.pointer v] 24)).alloc (.cells d.cells 30))) := A2
  obtain ⟨ar, nr, cr, e1⟩ := rd_slice he.1
  obtain ⟨aq, nq, cq, e2⟩ := rd_slice he.2.1
  obtain ⟨av, nv, cv, e3⟩ := rd_slice he.2.2
  have ed : d.cells = #[e.vr, .int .i64 e.fam, e.vq, .int .i64 e.ts, .int .i64 e.seq, .int .i64 e.kind, .slice none 0 0] := by rw [hd]; rfl
  have HD : Hid (∀ x, EntD.Same x d → EntD.Same x { e with vv := .slice none 0 0, val := [] }) := fun x h => by rw [← hd]; exact h
  rw [ed] at HC HA HZ
  unfold EntD.cells
  rw [e1, e2] at HC HA HZ
  rw [e1, e2, e3]
  clear A1 A2 he hl hed ed hd e1 e2 e3
  go_enter Try.func27, Try.ntmps27
  go_wp2_with fail
  refine Calls.mono HC.out ?_
  rintro z w1 ⟨x, rfl, hsm, hx, hb⟩
  have hsx := Lib.hid (HD.out _ hsm)
  have B1 := HA.out.trans (hb.mono HA.out.size)
  have z1 := Lib.hid (HZ.out.1.keep (hb.block _ HZ.out.1.lt))
  have z2 := Lib.hid (Nat.le_trans (Nat.le_of_eq HZ.out.2.symm) hb.size)
  have HX : Hid (EOk (fun i => w.heap.size ≤ i) (w1.alloc (.cells x.cells 30)) x) := (hx.mono (fun i hi => Nat.le_trans HA.out.size hi)).kept (KpG.of ((Below.refl w1.heap.size w1).alloc (Nat.le_refl _) _))
  have HE : Hid (EBox (w1.alloc (.cells x.cells 30)) w1.heap.size x) := EBox.new w1 x
  obtain ⟨br, mr, dr, e1⟩ := rd_slice hx.ok.1
  obtain ⟨bq, mq, dq, e2⟩ := rd_slice hx.ok.2.1
  obtain ⟨bv, mv, dv, e3⟩ := rd_slice hx.ok.2.2
  have ex : x.cells = #[.slice br mr dr, .int .i64 x.fam, .slice bq mq dq, .int .i64 x.ts, .int .i64 x.seq, .int .i64 x.kind, .slice bv mv dv] := by unfold EntD.cells; rw [e1, e2, e3]
  rw [ex] at HX HE ⊢
  clear hx hb HC HA HD HZ hsm e1 e2 e3 ex
  go_wp2
  go_ret
  refine ⟨_, x, rfl, z1.out.keep (Below.heap_alloc _ _ _ z1.out.lt), HE.out, hsx.out, HX.out, B1.alloc B1.size _, ?_⟩
  rw [World.size_alloc]
  have := z2.out
  omega
set_option maxRecDepth 100000 in
set_option maxHeartbeats 4000000 in
theorem fromL_any {G : Nat → Prop} {w : World} {t : Nat} {L : List EntD} {k : Int} {f : Bool} {e : EntD} (he : EntD.Ok w e) (hel : e.row.length ≤ 140737488355328 ∧ e.qual.length ≤ 140737488355328) (hb : Tb G w t L k f) (hsz : L.length < 1000000000) :
    Calls Try.prog 21 #[.pointer (some ⟨t, 0, none⟩), .agg e.cells] w fun z w' => ∃ v xs, z = .returned v ∧ w'.ownsRow w.heap.size 30 7 v xs.length (evals xs) ∧ Sm xs (L.dropWhile (fun y => decide (compareS y e < 0))) ∧ (∀ x ∈ xs, EOk (fun i => w.heap.size ≤ i) w' x) ∧ Below w.heap.size w w' := by
  obtain ⟨p, T, h1, h2, h3⟩ := hb.tree
  have hlens := hb.lens
  refine (callsIn_wide (n := 9)).1 ?_
  refine callsIn_of_wp_marks Try.func21 rfl trivial ?_ rfl
  simp only [Try.ntmps21, List.size_toArray, List.length_cons, List.length_nil, Nat.reduceAdd, Nat.reduceSub, Array.replicate_succ, Array.replicate_zero, List.push_toArray, List.append_toArray, List.nil_append, List.cons_append]
  have hdd : ∀ k : Nat, (Fence.wide.depth.isSome = true → 1 ≤ k) := fun k h => by cases h
  have HA : Hid (∀ X, Below w.heap.size w X → Calls Try.prog 27 #[.pointer (some ⟨t, 0, none⟩), .agg e.cells] X _) := fun X bb => from_ans (he.later bb) hel
  obtain ⟨ar0, nr0, cr0, er⟩ := rd_slice he.1
  obtain ⟨aq0, nq0, cq0, eq⟩ := rd_slice he.2.1
  obtain ⟨av0, nv0, cv0, ev⟩ := rd_slice he.2.2
  have hec : e.cells = #[.slice ar0 nr0 cr0, .int .i64 e.fam, .slice aq0 nq0 cq0, .int .i64 e.ts, .int .i64 e.seq, .int .i64 e.kind, .slice av0 nv0 cv0] := by unfold EntD.cells; rw [er, eq, ev]
  have b0 := (Below.refl w.heap.size w).alloc (Nat.le_refl _) (.cells e.cells 30)
  have b1 := b0.alloc b0.size (.cells #[.slice none 0 0] 22)
  have HB1 : Hid (Below w.heap.size w ((w.alloc (.cells e.cells 30)).alloc (.cells #[.slice none 0 0] 22))) := b1
  have x1 : Bxd ((w.alloc (.cells e.cells 30)).alloc (.cells #[.slice none 0 0] 22)) (w.heap.size + 1) 22 (.slice none 0 0) := by
    have := Bxd.new (w.alloc (.cells e.cells 30)) 22 (.slice none 0 0)
    rwa [World.size_alloc] at this
  have HX1 := Lib.hid x1
  rw [hec] at HA HB1 HX1 ⊢
  clear hec er eq ev b1 x1 b0
  gi_wp2_with (refine ⟨trivial, ?_⟩; gi_at_call 27; refine (callsIn_wide.2 (HA.out _ HB1.out)).mono ?_; rintro e1 V ⟨Bf, x0, rfl, x2, hxb, hsx, hxe, bV, sV⟩)
  have b2 := HB1.out.trans (bV.mono HB1.out.size)
  have x1 := HX1.out.keep (bV.block _ HX1.out.lt)
  rw [World.size_alloc, World.size_alloc] at x2 sV
  have s2 : w.heap.size + 4 ≤ V.heap.size := by omega
  obtain ⟨Bl, hBl⟩ : ∃ Bl, Bl = w.heap.size + 1 := ⟨_, rfl⟩
  rw [← hBl] at x1 x2 ⊢
  obtain ⟨Bt, hBt⟩ : ∃ Bt, Bt = Bl + 1 := ⟨_, rfl⟩
  rw [← hBt] at x2 ⊢
  have HLL : Hid (fromS x0 T = L.dropWhile (fun y => decide (compareS y e < 0))) := by
    unfold Hid
    rw [fromS_same (y := e) (fun z => (compareS_same ⟨rfl, rfl, rfl, rfl, rfl, rfl, rfl⟩ hsx).trans (compareS_noval z e _ _)), fromS_drop e T (by rw [h3]; exact hb.srt), h3]
  have HLe : Hid ((fromS x0 T).length ≤ L.length) := by
    unfold Hid
    rw [HLL.out]
    exact (List.dropWhile_sublist _).length_le
  have q1 : w.heap.size + 1 ≤ Bl := by omega
  have q2 : Bl + 2 ≤ V.heap.size := by omega
  clear HA HX1 HB1 bV sV hsx hBl hBt
  have hT2 : IsT (fun i => G i ∧ i < w.heap.size) V p T := h2.lt.kept (KpG.of b2)
  have hb2 := h1.later b2
  refine range_wide (w := V) rfl (enters_of Try.func50 (by kernel_rfl) rfl) (encs := fun x : EntD => #[.agg x.cells]) (from_seq hxb (hxe.mono (fun _ _ => trivial)) x2 hb2 hT2 (fun x hx => hlens x ((List.dropWhile_sublist _).subset (HLL.out ▸ hx)))) (fun h k => h.trans k) (fun X o o' ho hc => KpO.put o o' (by omega) ho hc) (fun _ => rfl)
    (fun pre X => Gro w Bl (V.heap.size + 6) pre X ∧ pre.length ≤ L.length)
    (fun c pre X => False)
    (fun s X h => by have := h.1.size; have := h.1.below.size; omega)
    (fun s X Z hX ⟨h, hl⟩ tu => ⟨⟨by obtain ⟨v, k1, k2⟩ := h.box; exact ⟨v, k1.turn tu, ownsRow_turn k2 tu⟩, fun x hx => (h.ents x hx).keptC tu.toC, h.below.trans (tu.below.mono (by omega)), Nat.le_trans h.size (by have := tu.below.size; omega)⟩, hl⟩)
    (fun c s X Z hX h tu => h)
    ⟨⟨⟨_, x1, World.ownsRow_nil _ _ _ _⟩, by simp, b2, by omega⟩, by simp⟩
    (fun pre x a' X => ∃ Bx, V.heap.size + 6 ≤ Bx ∧ EBox X Bx x ∧ NxC (fromS x0 T) (V.heap.size + 2) pre x X ∧ a' = { tmps := #[.pointer (some ⟨t, 0, none⟩), .agg #[.slice ar0 nr0 cr0, .int .i64 e.fam, .slice aq0 nq0 cq0, .int .i64 e.ts, .int .i64 e.seq, .int .i64 e.kind, .slice av0 nv0 cv0], undef, .pointer (some ⟨w.heap.size, 0, none⟩), .slice none 0 0, .pointer (some ⟨Bl, 0, none⟩), .pointer (some ⟨Bx, 0, none⟩), .pointer (some ⟨t, 0, none⟩), .agg #[.slice ar0 nr0 cr0, .int .i64 e.fam, .slice aq0 nq0 cq0, .int .i64 e.ts, .int .i64 e.seq, .int .i64 e.kind, .slice av0 nv0 cv0], .func (.func 50) #[] #[.pointer (some ⟨Bt, 0, none⟩), .pointer (some ⟨Bf, 0, none⟩)], .agg x.cells, undef, undef, undef, undef, undef], defers := [] })
    (fun pre x a' _ X Z hX ⟨Bx, k0, k1, k2, k3⟩ tu => ⟨Bx, k0, tu.cells _ _ k1 rfl, ⟨Nat.le_trans k2.1 tu.below.size, k2.2.1, k2.2.2.keptC tu.toC⟩, k3⟩)
    ?assign ?body ?done ?stop (fun c s X h => h.elim)
  case assign =>
    intro l' pre x X K hi hsX hgd hK
    have hsX' : V.heap.size + 6 ≤ X.heap.size := by have := hgd.1; omega
    obtain ⟨vr, fam, vq, ts, seq, kind, vv, row, qual, val⟩ := x
    have r1 : Rd X vr row := hgd.2.2.1.1
    have r2 : Rd X vq qual := hgd.2.2.2.1.1
    have r3 : Rd X vv val := hgd.2.2.2.2.1
    obtain ⟨ar, nr, cr, rfl⟩ := rd_slice r1
    obtain ⟨aq, nq, cq, rfl⟩ := rd_slice r2
    obtain ⟨av, nv, cv, rfl⟩ := rd_slice r3
    have hbb := (Below.refl X.heap.size X).alloc (Nat.le_refl _) (.cells (EntD.mk (.slice ar nr cr) fam (.slice aq nq cq) ts seq kind (.slice av nv cv) row qual val).cells 30)
    have tu := Turn.of (B := V.heap.size) hbb (by omega)
    have HI : Hid (Gro w Bl (V.heap.size + 6) pre _ ∧ pre.length ≤ L.length) := (fun ⟨h, hl⟩ => ⟨⟨by obtain ⟨v, k1, k2⟩ := h.box; exact ⟨v, k1.turn tu, ownsRow_turn k2 tu⟩, fun x hx => (h.ents x hx).keptC tu.toC, h.below.trans (tu.below.mono (by omega)), Nat.le_trans h.size (by have := tu.below.size; omega)⟩, hl⟩) hi
    have HN : Hid (NxC (fromS x0 T) (V.heap.size + 2) pre _ _) := ⟨Nat.le_trans hgd.1 tu.below.size, hgd.2.1, hgd.2.2.keptC tu.toC⟩
    have HT : Hid (KpO (fun i => G i ∧ i < w.heap.size) (V.heap.size + 2) X _) := ⟨tu.toC, Oth.of hbb⟩
    have HX : Hid (EBox (X.alloc (.cells (EntD.mk (.slice ar nr cr) fam (.slice aq nq cq) ts seq kind (.slice av nv cv) row qual val).cells 30)) X.heap.size _) := EBox.new X _
    clear hbb tu hi hgd r1 r2 r3
    simp only [EntD.cells] at *
    gi_wp2
    exact hK _ _ ((KeepsOthers.alloc _ _).from _) HT.out HI.out ⟨X.heap.size, hsX', HX.out, HN.out, rfl⟩
  case body =>
    rintro l' pre x a' X ⟨hg, hl⟩ ⟨Bx, hBx, bx, hnx, rfl⟩
    obtain ⟨v, k1, k2⟩ := hg.box
    have hX8 : V.heap.size + 6 ≤ X.heap.size := by have := hnx.1; omega
    have hlen1 : pre.length + 1 ≤ L.length := by
      obtain ⟨q, hq1, hq2⟩ := hnx.2.1
      have e1 := hq2.len
      have e2 := hq1.length_le
      have e3 := HLe.out
      simp at e1
      omega
    obtain ⟨vr, fam, vq, ts, seq, kind, vv, row, qual, val⟩ := x
    have r1 : Rd X vr row := hnx.2.2.1.1
    have r2 : Rd X vq qual := hnx.2.2.2.1.1
    have r3 : Rd X vv val := hnx.2.2.2.2.1
    obtain ⟨ar, nr, cr, rfl⟩ := rd_slice r1
    obtain ⟨aq, nq, cq, rfl⟩ := rd_slice r2
    obtain ⟨av, nv, cv, rfl⟩ := rd_slice r3
    obtain ⟨xe, hxe⟩ : ∃ xe : EntD, xe = ⟨.slice ar nr cr, fam, .slice aq nq cq, ts, seq, kind, .slice av nv cv, row, qual, val⟩ := ⟨_, rfl⟩
    obtain ⟨i0, hi, hz0, hz1, hz2⟩ := info_parts info_ent
    have HX : Hid (EOk (fun i => V.heap.size + 6 ≤ i) X xe) := by rw [hxe]; exact hnx.2.2.mono (fun i hi => by omega)
    have HK : Hid (Bxd X Bl 22 v ∧ X.ownsRow (V.heap.size + 6) 30 7 v pre.length (evals pre)) := ⟨k1, k2⟩
    have HG : Hid (Gro w Bl (V.heap.size + 6) pre X) := hg
    have kc := k1.cell
    have kf := k1.fz
    obtain ⟨c0, c1, c2, c3, c4, c5, c6⟩ := (⟨bx.vr, bx.fam, bx.vq, bx.ts, bx.seq, bx.kind, bx.vv⟩ : _ ∧ _ ∧ _ ∧ _ ∧ _ ∧ _ ∧ _)
    simp only at c0 c1 c2 c3 c4 c5 c6
    obtain ⟨av0, nv0, cv0, rfl⟩ : ∃ a0 n0 c0, v = .slice a0 n0 c0 := by
      rcases k2.2 with ⟨rfl, _⟩ | ⟨g, cap, cur, rfl, _⟩
      · exact ⟨_, _, _, rfl⟩
      · exact ⟨_, _, _, rfl⟩
    have hcells : ∀ j u, (EntD.cells xe).toList[j]? = some u → (X.alloc (.cells xe.cells 30)).cell? ((⟨X.heap.size, 0, none⟩ : Addr).add j) = some u := fun j u hu => by
      have e : (⟨X.heap.size, 0, none⟩ : Addr).add j = ⟨X.heap.size, j, none⟩ := by unfold Addr.add; split <;> simp_all
      rw [e]
      have hb := World.alloc_heap_new X (.cells xe.cells 30)
      simp only [World.cell?, hb]
      rw [← Array.getElem?_toList]; exact hu
    have hone : ∀ u ∈ (EntD.cells xe).toList, u.oneCell' = true := by rw [hxe]; simp [EntD.cells, Value.oneCell']
    have hxl : (EntD.cells xe).toList.length = 1 * 7 := by rw [hxe]; simp [EntD.cells]
    have exe : xe.cells = #[.slice ar nr cr, .int .i64 fam, .slice aq nq cq, .int .i64 ts, .int .i64 seq, .int .i64 kind, .slice av nv cv] := by rw [hxe]; rfl
    rw [exe] at hcells hone hxl
    simp only [EntD.cells]
    clear hg k1 k2 bx r1 r2 r3 hnx h1 h2 hT2 hb2 x1 x2 hb
    gi_wp2_with (gi_at_builtin; refine wpListIn_append_own _ rfl _ _ 22 rfl (V.heap.size + 6) 30 i0 _ 7 104 und_ents hi hz0 hz1 hz2 rfl (by decide) _ _ _ rfl (HK.out.2.alloc _) ⟨X.heap.size, 0, none⟩ 1 1 _ rfl hxl hcells hone (by show _ ≤ maxLen; unfold maxLen; omega) (by omega) (by rw [World.size_alloc]; omega) ?_; intro v' w1 hown' hgrow hnil; obtain ⟨g', cap', rfl⟩ := ownsRow_succ hown'; have kb1 : Bxd w1 Bl 22 _ := (HK.out.1.keep (Below.heap_alloc X _ _ (by omega))).keep (hgrow.block _ (by rw [World.size_alloc]; omega) (fun e => by have := (own_at HK.out.2 e.symm).1; omega)); have kc1 := kb1.cell; have kf1 := kb1.fz)
    have bA : Below X.heap.size X (X.alloc (.cells #[.slice ar nr cr, .int .i64 fam, .slice aq nq cq, .int .i64 ts, .int .i64 seq, .int .i64 kind, .slice av nv cv] 30)) := (Below.refl _ X).alloc (Nat.le_refl _) _
    have kst : ∀ i, i < X.heap.size → i < V.heap.size + 6 → i ≠ Bl → (w1.setCell ⟨Bl, 0, none⟩ (.slice (some ⟨g', 0, none⟩) (pre.length + 1) cap')).heap[i]? = X.heap[i]? := fun i h1 h2 h3 =>
      (Below.heap_setCell w1 ⟨Bl, 0, none⟩ _ i h3).trans ((hgrow.block i (by rw [World.size_alloc]; omega) (fun e => by have := (own_at HK.out.2 e.symm).1; omega)).trans (Below.heap_alloc X _ i h1))
    have szF : X.heap.size ≤ (w1.setCell ⟨Bl, 0, none⟩ (.slice (some ⟨g', 0, none⟩) (pre.length + 1) cap')).heap.size := by rw [World.size_setCell]; exact Nat.le_trans bA.size hgrow.size
    have hKO : KeepsOthers X (w1.setCell ⟨Bl, 0, none⟩ (.slice (some ⟨g', 0, none⟩) (pre.length + 1) cap')) := ((KeepsOthers.alloc X _).trans (KeepsOthers.of_grownBy hgrow (fun j o hj ho => by
      obtain ⟨_, cur, hc⟩ := own_at (HK.out.2.alloc _) hj.symm.symm
      rw [hc] at ho; cases ho; rfl))).trans (KeepsOthers.setCell _ _ _)
    have hKU : KU X (w1.setCell ⟨Bl, 0, none⟩ (.slice (some ⟨g', 0, none⟩) (pre.length + 1) cap')) := ((KU.of bA).trans (KU.grown hgrow (fun r hr => by
      obtain ⟨_, cur, hc⟩ := own_at (HK.out.2.alloc _) hr
      exact ⟨cur, _, _, hc, by decide⟩))).trans (KU.set kb1 (by decide) _ _)
    refine ⟨hKO.from _, ⟨⟨szF, fun i o hi ho hg => ?_⟩, szF, fun i o hB hi ho => hKO.same i o hi ho⟩, ⟨⟨_, kb1.set _, ?_⟩, fun y hy => ?_, ?_, ?_⟩, by simp; omega⟩
    · rw [kst i (Array.getElem?_eq_some_iff.1 hi).1 (by omega) (by omega)]; exact hi
    · rw [evals_snoc, List.length_append]
      have := ownsRow_setCell_below hown' (a := ⟨Bl, 0, none⟩) (show Bl < V.heap.size + 6 by omega) (.slice (some ⟨g', 0, none⟩) (pre.length + 1) cap')
      exact this
    · simp only [List.mem_append, List.mem_singleton] at hy
      rcases hy with hy | rfl
      · exact (HG.out.ents y hy).ku hKU
      · have := HX.out.ku hKU
        rw [hxe] at this
        exact this
    · have b0 := HG.out.below
      refine ⟨?_, ?_, ?_, Nat.le_trans b0.size szF, fun i hi => (kst i (by have := b0.size; omega) (by omega) (by omega)).trans (b0.block i hi)⟩
      · exact (hgrow.os.trans bA.os).trans b0.os
      · exact (hgrow.tape.trans bA.tape).trans b0.tape
      · exact (hgrow.output.trans bA.output).trans b0.output
    · have := HG.out.size; omega
  case done =>
    rintro D xs X hD hsm ⟨hg, hl⟩ hdf
    obtain ⟨v, k1, k2⟩ := hg.box
    have kc := k1.cell
    gi_wp2
    have tu := Turn.put (B := V.heap.size) (.deferred none) (by have := hg.size; have := hg.below.size; omega) hD hdf rfl
    refine ⟨by simp, .inl ⟨_, _, rfl, run_takeDeferred hdf, ?_⟩⟩
    refine ⟨_, results_tmp rfl _ _ _, v, xs, rfl, ?_, HLL.out ▸ hsm, fun x hx => ((hg.ents x hx).keptC tu.toC).mono (fun i hi => by omega), hg.below.trans (tu.below.mono (by omega))⟩
    exact ownsRow_mono (ownsRow_turn k2 tu) (by omega)
  case stop =>
    rintro D c pre X hD hsp h hdf
    exact h.elim
end Go.Proofs.Ytnjopfdeapclhaa

