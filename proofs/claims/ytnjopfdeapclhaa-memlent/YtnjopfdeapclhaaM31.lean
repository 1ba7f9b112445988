import Derived.Test.YtnjopfdeapclhaaM30
import Derived.Test.YtnjopfdeapclhaaJ17
namespace Go.Proofs.Ytnjopfdeapclhaa
open Go.RowKit Go.Shelf
set_option linter.unusedVariables false
attribute [local go_sem] Oper.semAt_some

theorem EOk.turn {G : Nat → Prop} {B : Nat} {w w' : World} {e : EntD} (h : EOk G w e) (t : Turn B w w') : EOk G w' e := h.keptC t.toC

set_option maxRecDepth 100000 in
theorem ofrom_any (w : World) (p : Option Addr) (x : EntD) : Calls Try.prog 51 #[ordV p, .agg x.cells] w fun e w' => e = .returned (.func (.func 77) #[] #[.pointer (some ⟨w.heap.size, 0, none⟩), .pointer (some ⟨w.heap.size + 1, 0, none⟩)]) ∧ w' = (w.alloc (.cells #[.pointer p, .func (.func 18) #[] #[]] 67)).alloc (.cells x.cells 30) := by
  unfold ordV EntD.cells
  go_enter Try.func51, Try.ntmps51
  go_wp2
  go_ret
  exact ⟨rfl, rfl⟩

set_option maxRecDepth 100000 in
set_option maxHeartbeats 4000000 in
theorem ofrom1_in {l Bo Bf n B : Nat} {G : Nat → Prop} {p : Option Addr} {T : BT} {x : EntD} {J Jx : List EntD → World → Prop} (hAb : AbT B J)
    (hY : ∀ m pre y W, J pre W → Nx G (fromS x T) pre y W → YieldAt Fence.wide m Try.prog l #[.agg y.cells] W fun e W' => (e = .returned (.bool true) ∧ J (pre ++ [y]) W' ∧ KpC G W W') ∨ (e = .returned (.bool false) ∧ Jx (pre ++ [y]) W'))
    (W : World) (hBs : B ≤ W.heap.size) (hB : OBox W Bo p) (hF : EBox W Bf x) (hx : EntD.Ok W x) (hT : IsT G W p T) (h0 : J [] W) :
    CallsIn Fence.wide n Try.prog 77 #[.func (.yield l) #[] #[], .pointer (some ⟨Bo, 0, none⟩), .pointer (some ⟨Bf, 0, none⟩)] W fun e W' => (∃ v, e = .returned v) ∧ ((∃ xs, xs = fromS x T ∧ J xs W') ∨ (∃ pre, pre <+: fromS x T ∧ Jx pre W')) := by
  have D0 : Below W.heap.size W W.drew := (Below.refl _ _).drew
  have HG : Hid (∀ wx, Below W.heap.size W wx → Calls Try.prog 78 #[.agg #[.pointer p, .func (.func 18) #[] #[]], .pointer p, .agg #[x.vr, .int .i64 x.fam, x.vq, .int .i64 x.ts, .int .i64 x.seq, .int .i64 x.kind, x.vv], .func (.yield l) #[] #[]] wx fun z W1 => ∃ t : Bool, z = .returned (.bool t) ∧ Hid (((∃ xs, xs = fromS x T ∧ J xs W1) ∨ (∃ pre, pre <+: fromS x T ∧ Jx pre W1)))) := fun wx bb => by
    refine (callsIn_wide (n := 3)).1 ((giveFrom_in hAb hY T 3 p [] wx (by simp) (hT.kept (KpG.of bb)) (hx.later bb) (Nat.le_trans hBs bb.size) (hAb _ _ _ hBs h0 (Turn.of bb hBs))).mono ?_)
    rintro z W1 (⟨rfl, hj, k1⟩ | ⟨rfl, q, hq, h⟩)
    · exact ⟨true, rfl, .inl ⟨_, rfl, hj⟩⟩
    · exact ⟨false, rfl, .inr ⟨q, hq, h⟩⟩
  have c0 := hB.c0
  have c1 := hB.c1
  obtain ⟨d0, d1, d2, d3, d4, d5, d6⟩ := (⟨hF.vr, hF.fam, hF.vq, hF.ts, hF.seq, hF.kind, hF.vv⟩ : _ ∧ _ ∧ _ ∧ _ ∧ _ ∧ _ ∧ _)
  clear hY hAb hT hx h0 hF hB hBs
  have hmx : Try.prog.follows .mixedOrders = true := by kernel_rfl
  refine callsIn_of_wp Try.func77 rfl trivial ?_ rfl
  simp only [Try.ntmps77, List.size_toArray, List.length_cons, List.length_nil, Nat.reduceAdd, Nat.reduceSub, Array.replicate_succ, Array.replicate_zero, List.push_toArray, List.append_toArray, List.nil_append, List.cons_append]
  refine wpIn_wide.2 ?_
  go_wp2_with (go_at_call 78; refine Calls.mono (HG.out _ (by first | exact D0 | exact Below.refl _ _)) ?_; rintro z W1 ⟨t, rfl, hh⟩)
  all_goals
    go_end0
    exact ⟨⟨_, rfl⟩, hh.out⟩

set_option maxRecDepth 100000 in
set_option maxHeartbeats 4000000 in
theorem giveCopiesF_in {l n : Nat} {G : Nat → Prop} {p : Option Addr} {T : BT} {J Jx : List EntD → World → Prop} {W0 : Nat} {x0 : EntD} (W : World) (hW0 : W0 + 2 = W.heap.size) (hB : OBox W W0 p) (hF : EBox W (W0 + 1) x0) (hx0 : EOk (fun _ => True) W x0) (hT : IsT G W p T) (hlen : ∀ x ∈ (fromS x0 T), x.row.length ≤ 140737488355328 ∧ x.qual.length ≤ 140737488355328 ∧ x.val.length ≤ 140737488355328)
    (hJs : ∀ s X, J s X → W0 ≤ X.heap.size) (hJ : AbT W0 J) (hJx : AbT W0 Jx)
    (hY : ∀ m pre x W1, J pre W1 → NxC (fromS x0 T) W0 pre x W1 → YieldAt Fence.wide m Try.prog l #[.agg x.cells] W1 fun e W' => (e = .returned (.bool true) ∧ J (pre ++ [x]) W' ∧ KpO G W0 W1 W') ∨ (e = .returned (.bool false) ∧ Jx (pre ++ [x]) W' ∧ Oth W0 W1 W'))
    (h0 : J [] W) :
    CallsIn Fence.wide n Try.prog 36 #[.func (.func 77) #[] #[.pointer (some ⟨W0, 0, none⟩), .pointer (some ⟨W0 + 1, 0, none⟩)], .func (.yield l) #[] #[]] W fun e W' => (∃ v, e = .returned v) ∧ ((∃ xs, Sm xs (fromS x0 T) ∧ J xs W') ∨ (∃ pre, (∃ q, q <+: (fromS x0 T) ∧ Sm pre q) ∧ Jx pre W')) := by
  refine callsIn_of_wp_marks Try.func36 rfl trivial ?_ rfl
  simp only [Try.ntmps36, List.size_toArray, List.length_cons, List.length_nil, Nat.reduceAdd, Nat.reduceSub, Array.replicate_succ, Array.replicate_zero, List.push_toArray, List.append_toArray, List.nil_append, List.cons_append]
  gi_wp2
  have eY : (W.alloc (.cells #[.func (.yield l) #[] #[]] 70)).heap[W.heap.size]? = some (.cells #[.func (.yield l) #[] #[]] 70 (0, 0)) := World.alloc_heap_new W _
  have T1 : Turn W0 W (W.alloc (.cells #[.func (.yield l) #[] #[]] 70)) := Turn.of ((Below.refl _ W).alloc (Nat.le_refl _) _) (by omega)
  have hB1 := T1.obox hB
  have hF1 : EBox _ (W0 + 1) x0 := T1.cells _ _ hF rfl
  have hx1 := hx0.turn T1
  have hT1 := hT.keptC T1.toC
  have h01 := hJ [] _ _ (by omega) h0 T1
  have hs1 : (W.alloc (.cells #[.func (.yield l) #[] #[]] 70)).heap.size = W0 + 3 := by simp; omega
  generalize W.alloc (.cells #[.func (.yield l) #[] #[]] 70) = V at *
  obtain ⟨Y, hYe⟩ : ∃ Y, Y = W.heap.size := ⟨_, rfl⟩
  rw [← hYe] at eY hW0 ⊢
  clear hYe
  refine range_wide (w := V) rfl (enters_of Try.func77 (by kernel_rfl) rfl) (encs := fun x : EntD => #[.agg x.cells]) (Gd := fun _ => Nx G (fromS x0 T)) (Kp := fun _ => KpC G) (S := fun xs => xs = (fromS x0 T)) (Sp := fun pre => pre <+: (fromS x0 T))
    (fun l' n' J' Jx' X hX hJs' hJ' _ hY' h0' => ofrom1_in hJ' (fun m pre x W1 a b => (hY' m pre x W1 a b).mono (fun e w' h => h.imp id (fun k => ⟨k.1, k.2.1⟩))) X (Nat.le_refl _) (hX.obox hB1) (hX.cells _ _ hF1 rfl) (hx1.turn hX).ok (hT1.keptC hX.toC) h0') (fun h k => h.trans k) (fun X o o' ho hc => KpC.put o' ho hc) (fun _ => rfl)
    (fun pre X => ∃ qs, Sm qs pre ∧ J qs X ∧ IsT G X p T ∧ X.heap[Y]? = some (.cells #[.func (.yield l) #[] #[]] 70 (0, 0)) ∧ W0 + 3 ≤ X.heap.size)
    (fun c pre X => c = .ret ∧ ∃ qs, Sm qs pre ∧ Jx qs X ∧ W0 + 3 ≤ X.heap.size)
    (fun s X h => by rw [hs1]; exact h.choose_spec.2.2.2.2)
    (fun s X Z hX ⟨qs, k1, k2, k3, k4, k5⟩ t => ⟨qs, k1, hJ _ _ _ (by omega) k2 (t.mono (by omega)), k3.keptC t.toC, t.cells _ _ k4 rfl, Nat.le_trans k5 t.below.size⟩)
    (fun c s X Z hX ⟨k0, qs, k1, k2, k5⟩ t => ⟨k0, qs, k1, hJx _ _ _ (by omega) k2 (t.mono (by omega)), Nat.le_trans k5 t.below.size⟩)
    ⟨[], trivial, h01, hT1, eY, by omega⟩
    (fun pre x a' X => ∃ Bx, W0 + 4 ≤ Bx ∧ EBox X Bx x ∧ Nx G (fromS x0 T) pre x X ∧ a' = { tmps := #[.func (.func 77) #[] #[.pointer (some ⟨W0, 0, none⟩), .pointer (some ⟨W0 + 1, 0, none⟩)], .func (.yield l) #[] #[], undef, .pointer (some ⟨Y, 0, none⟩), .pointer (some ⟨Bx, 0, none⟩), .func (.func 77) #[] #[.pointer (some ⟨W0, 0, none⟩), .pointer (some ⟨W0 + 1, 0, none⟩)], .agg x.cells, undef, undef, undef, undef, undef], defers := [] })
    (fun pre x a' _ X Z hX ⟨Bx, k0, k1, k2, k3⟩ t => ⟨Bx, k0, t.cells _ _ k1 rfl, ⟨k2.1, k2.2.keptC t.toC⟩, k3⟩)
    ?assign ?body ?done ?stop (fun c s X h => by rw [hs1]; exact h.2.choose_spec.2.2)
  case assign =>
    intro l' pre x X K hi hsX hgd hK
    have hsX' : W0 + 4 ≤ X.heap.size := by omega
    obtain ⟨vr, fam, vq, ts, seq, kind, vv, row, qual, val⟩ := x
    have r1 : Rd X vr row := hgd.2.1.1
    have r2 : Rd X vq qual := hgd.2.2.1.1
    have r3 : Rd X vv val := hgd.2.2.2.1
    obtain ⟨ar, nr, cr, rfl⟩ := rd_slice r1
    obtain ⟨aq, nq, cq, rfl⟩ := rd_slice r2
    obtain ⟨av, nv, cv, rfl⟩ := rd_slice r3
    have hb := (Below.refl X.heap.size X).alloc (Nat.le_refl _) (.cells (EntD.mk (.slice ar nr cr) fam (.slice aq nq cq) ts seq kind (.slice av nv cv) row qual val).cells 30)
    have t := Turn.of (B := V.heap.size) hb (by omega)
    have HI : Hid (∃ qs, Sm qs pre ∧ J qs _ ∧ IsT G _ p T ∧ _ ∧ W0 + 3 ≤ _) := (fun ⟨qs, k1, k2, k3, k4, k5⟩ => ⟨qs, k1, hJ _ _ _ (by omega) k2 (t.mono (by omega)), k3.keptC t.toC, t.cells _ _ k4 rfl, Nat.le_trans k5 t.below.size⟩) hi
    have HN : Hid (Nx G (fromS x0 T) pre _ _) := ⟨hgd.1, hgd.2.keptC t.toC⟩
    have HT : Hid (Turn V.heap.size X _) := t
    have HX : Hid (EBox (X.alloc (.cells (EntD.mk (.slice ar nr cr) fam (.slice aq nq cq) ts seq kind (.slice av nv cv) row qual val).cells 30)) X.heap.size _) := EBox.new X _
    clear hb t hi hgd r1 r2 r3
    simp only [EntD.cells] at *
    gi_wp2
    exact hK _ _ ((KeepsOthers.alloc _ _).from _) HT.out.toC HI.out ⟨X.heap.size, hsX', HX.out, HN.out, rfl⟩
  case body =>
    rintro l' pre x a' X ⟨qs, k1, k2, k3, k4, k5⟩ ⟨Bx, hBx, bx, hnx, rfl⟩
    have hmx : Try.prog.follows .mixedOrders = true := by kernel_rfl
    have hdd : ∀ k : Nat, ((Fence.wide.inRound l').depth.isSome = true → 1 ≤ k) := fun k h => by cases h
    have hdd2 : ∀ k : Nat, (Fence.wide.depth.isSome = true → 1 ≤ k) := fun k h => by cases h
    have hXb : Bx < X.heap.size := (Array.getElem?_eq_some_iff.1 bx).1
    have yc : X.cell? ⟨Y, 0, none⟩ = some (.func (.yield l) #[] #[]) := by simp [World.cell?, k4]
    have HYc : Hid (∀ Z, Below X.heap.size X Z → Z.cell? ⟨Y, 0, none⟩ = some (.func (.yield l) #[] #[])) := fun Z b => (b.cell (p := ⟨Y, 0, none⟩) (World.block_lt_of_cell? _ _ yc)).trans yc
    have hmem : x ∈ (fromS x0 T) := by
      obtain ⟨r, hr⟩ := hnx.1
      rw [← hr]; simp
    have HC : Hid (∀ Z, Below X.heap.size X Z → Calls Try.prog 34 #[.agg x.cells] Z fun z w' => ∃ e : EntD, z = .returned (.agg e.cells) ∧ EntD.Same e x ∧ EOk (fun i => Z.heap.size ≤ i) w' e ∧ Below Z.heap.size Z w') := fun Z b => copyOf_any (hnx.2.ok.later b) (hlen x hmem)
    have HYY : Hid (∀ Z e, Below X.heap.size X Z → EntD.Same e x → EOk (fun i => X.heap.size ≤ i) Z e → YieldAt Fence.wide n Try.prog l #[.agg e.cells] Z fun z W' => ∃ t : Bool, z = .returned (.bool t) ∧ Hid ((t = true → KeepsFrom V.heap.size X W' ∧ KpC G X W' ∧ ∃ qs, Sm qs (pre ++ [x]) ∧ J qs W' ∧ IsT G W' p T ∧ W'.heap[Y]? = some (.cells #[.func (.yield l) #[] #[]] 70 (0, 0)) ∧ W0 + 3 ≤ W'.heap.size) ∧ (t = false → KeepsFrom V.heap.size X W' ∧ ∃ qs, Sm qs (pre ++ [x]) ∧ Jx qs W' ∧ W0 + 3 ≤ W'.heap.size))) := fun Z e b hse hek => by
      have tZ : Turn W0 X Z := Turn.of b (by omega)
      refine (hY n qs e Z (hJ _ _ _ (by omega) k2 tZ) ⟨by have := b.size; omega, ⟨pre ++ [x], hnx.1, k1.snoc hse⟩, hek.mono (fun i hi => by omega)⟩).mono ?_
      rintro z W' (⟨hz, j1, kp⟩ | ⟨hz, j1, kp⟩)
      · refine ⟨true, hz, fun _ => ⟨((Oth.of b).trans kp.others).keeps.mono' (by omega), (KpC.trans (tZ.toC) (kp.keeps.mono (fun i hi => .inl hi))), qs ++ [e], k1.snoc hse, j1, (k3.keptC tZ.toC).keptC (kp.keeps.mono (fun i hi => .inl hi)), kp.keeps.cells _ _ (tZ.cells _ _ k4 rfl) rfl (.inr ⟨by omega, by omega⟩), ?_⟩, fun h => (by cases h)⟩
        have := b.size; have := kp.others.size; omega
      · refine ⟨false, hz, fun h => (by cases h), fun _ => ⟨((Oth.of b).trans kp).keeps.mono' (by omega), qs ++ [e], k1.snoc hse, j1, ?_⟩⟩
        have := b.size; have := kp.size; omega
    obtain ⟨c0, c1, c2, c3, c4, c5, c6⟩ := (⟨bx.vr, bx.fam, bx.vq, bx.ts, bx.seq, bx.kind, bx.vv⟩ : _ ∧ _ ∧ _ ∧ _ ∧ _ ∧ _ ∧ _)
    have D0 : Below X.heap.size X X.drew := (Below.refl _ _).drew
    unfold EntD.cells at HC HYY
    unfold EntD.cells
    clear k1 k2 k3 hnx hmem bx hY hlen hJ hJx hT1 hT hB hB1 hF hF1 hx0 hx1
    gi_wp2
    gi_region_with_o (first | (refine ⟨trivial, hdd _, ?_⟩; gi_at_call 34; refine (CallsIn.inRound l' (callsIn_wide.2 (HC.out _ D0))).mono ?_; rintro z w1 ⟨e, rfl, hse, hek, hb1⟩; have yc1 := HYc.out _ (D0.trans (hb1.mono D0.size)); obtain ⟨fn, tmps, assign, body, hy, hR⟩ := HYY.out _ e (D0.trans (hb1.mono D0.size)) hse hek) | (refine ⟨hdd2 _, ?_⟩; refine (roundIn_inRound l' (roundIn_anyDepth hR)).mono ?_; rintro z W3 ⟨tt, rfl, hr⟩))
    all_goals
      cases tt
      · gi_wp2
        have h2 := hr.out.2 (by first | rfl | trivial)
        exact ⟨by rw [← hs1]; exact h2.1, rfl, h2.2⟩
      · gi_wp2
        have h2 := hr.out.1 (by first | rfl | trivial)
        exact ⟨by rw [← hs1]; exact h2.1, h2.2.1, h2.2.2⟩
  case done =>
    rintro D xs X hD rfl ⟨qs, k1, k2, k3, k4, k5⟩ hdf
    gi_wp2
    refine ⟨by simp, .inl ⟨_, _, rfl, run_takeDeferred hdf, ?_⟩⟩
    exact ⟨_, results_none rfl _ _ _, ⟨_, rfl⟩, .inl ⟨qs, k1, hJ _ _ _ (by omega) k2 (Turn.put _ (by omega) (by omega) hdf rfl)⟩⟩
  case stop =>
    rintro D c pre X hD hsp ⟨rfl, qs, k1, k2, k5⟩ hdf
    gi_wp2
    refine ⟨by simp, .inl ⟨_, _, rfl, run_takeDeferred hdf, ?_⟩⟩
    exact ⟨_, results_none rfl _ _ _, ⟨_, rfl⟩, .inr ⟨qs, ⟨pre, hsp, k1⟩, hJx _ _ _ (by omega) k2 (Turn.put _ (by omega) (by omega) hdf rfl)⟩⟩

set_option maxRecDepth 100000 in
set_option maxHeartbeats 4000000 in
/-- t.From(e), ranged over: copies of what the table holds when the range begins. -/
theorem from_seq {G : Nat → Prop} {w : World} {Bt t : Nat} {p : Option Addr} {T : BT} {x0 : EntD} {Bf : Nat} {n k : Int} {f : Bool} (hBf : EBox w Bf x0) (hx0 : EOk (fun _ => True) w x0) (hBt : w.heap[Bt]? = some (.cells #[.pointer (some ⟨t, 0, none⟩)] 24 (0, 0))) (hb : TBox w t p n k f) (hT : IsT G w p T) (hlen : ∀ x ∈ (fromS x0 T), x.row.length ≤ 140737488355328 ∧ x.qual.length ≤ 140737488355328 ∧ x.val.length ≤ 140737488355328) :
    SeqW Try.prog 50 #[.pointer (some ⟨Bt, 0, none⟩), .pointer (some ⟨Bf, 0, none⟩)] (fun x : EntD => #[.agg x.cells]) (NxC (fromS x0 T)) (KpO G) (fun xs => Sm xs (fromS x0 T)) (fun pre => ∃ q, q <+: (fromS x0 T) ∧ Sm pre q) w := by
  intro l n' J Jx W hW hJs hJ hJx hY h0
  have hdd : ∀ k : Nat, (Fence.wide.depth.isSome = true → 1 ≤ k) := fun k h => by cases h
  have e1 := hW.cells _ _ hBt rfl
  have e2 : TBox W t p n k f := hW.cells _ _ hb rfl
  have e3 := hT.keptC hW.toC
  have c1 : W.cell? ⟨Bt, 0, none⟩ = some (.pointer (some ⟨t, 0, none⟩)) := by simp [World.cell?, e1]
  have c2 := e2.cells.1
  have c3 := e2.cells.2.1
  have f0 : EBox W Bf x0 := hW.cells _ _ hBf rfl
  have f1 := hx0.turn hW
  obtain ⟨d0, d1, d2, d3, d4, d5, d6⟩ := (⟨f0.vr, f0.fam, f0.vq, f0.ts, f0.seq, f0.kind, f0.vv⟩ : _ ∧ _ ∧ _ ∧ _ ∧ _ ∧ _ ∧ _)
  have D0 : Below W.heap.size W W.drew := (Below.refl _ _).drew
  have HC : Hid (∀ Z, Below W.heap.size W Z → Z.heap.size = W.heap.size + 2 → OBox Z W.heap.size p → EBox Z (W.heap.size + 1) x0 → Calls Try.prog 36 #[.func (.func 77) #[] #[.pointer (some ⟨W.heap.size, 0, none⟩), .pointer (some ⟨W.heap.size + 1, 0, none⟩)], .func (.yield l) #[] #[]] Z fun e W' => (∃ v, e = .returned v) ∧ ((∃ xs, Sm xs (fromS x0 T) ∧ J xs W') ∨ (∃ pre, (∃ q, q <+: fromS x0 T ∧ Sm pre q) ∧ Jx pre W'))) := fun Z bb hs bo bx => by
    have tW : Turn W.heap.size W Z := Turn.of bb (Nat.le_refl _)
    exact (callsIn_wide (n := 3)).1 (giveCopiesF_in (l := l) (n := 3) (J := J) (Jx := Jx) (W0 := W.heap.size) Z hs.symm bo bx (f1.turn tW) (e3.keptC tW.toC) hlen hJs hJ hJx hY (hJ _ _ _ (Nat.le_refl _) h0 tW))
  have HO : Hid (∀ wx, wx.heap.size = W.heap.size → Below W.heap.size W wx → Calls Try.prog 51 #[.agg #[.pointer p, .func (.func 18) #[] #[]], .agg x0.cells] wx fun e w' => e = .returned (.func (.func 77) #[] #[.pointer (some ⟨W.heap.size, 0, none⟩), .pointer (some ⟨W.heap.size + 1, 0, none⟩)]) ∧ Below W.heap.size W w' ∧ w'.heap.size = W.heap.size + 2 ∧ OBox w' W.heap.size p ∧ EBox w' (W.heap.size + 1) x0) := fun wx hs bb => by
    refine (ofrom_any wx p x0).mono ?_
    rintro z w' ⟨rfl, rfl⟩
    have A1 := (Below.refl wx.heap.size wx).alloc (Nat.le_refl _) (.cells #[.pointer p, .func (.func 18) #[] #[]] 67)
    have A2 := A1.alloc A1.size (.cells x0.cells 30)
    have bo := (OBox.new wx p).later ((Below.refl (wx.alloc (.cells #[.pointer p, .func (.func 18) #[] #[]] 67)).heap.size _).alloc (Nat.le_refl _) (.cells x0.cells 30))
    have bx := EBox.new (wx.alloc (.cells #[.pointer p, .func (.func 18) #[] #[]] 67)) x0
    rw [World.size_alloc] at bx
    rw [hs] at bo bx ⊢
    exact ⟨rfl, bb.trans (A2.mono bb.size), by simp [hs], bo, bx⟩
  refine callsIn_of_wp Try.func50 rfl trivial ?_ rfl
  simp only [Try.ntmps50, List.size_toArray, List.length_cons, List.length_nil, Nat.reduceAdd, Nat.reduceSub, Array.replicate_succ, Array.replicate_zero, List.push_toArray, List.append_toArray, List.nil_append, List.cons_append]
  clear hY hJ hJx hJs h0 e1 e2 e3 f0 f1
  unfold EntD.cells at HO HC
  have hmx : Try.prog.follows .mixedOrders = true := by kernel_rfl
  refine wpIn_wide.2 ?_
  go_wp2_with fail
  go_region_with_o (first | (go_at_call 51; refine Calls.mono (HO.out _ rfl D0) ?_; rintro z wz ⟨rfl, bz, hz, oz, ez⟩) | (go_at_call 36; refine Calls.mono (HC.out _ bz hz oz ez) ?_; rintro z W1 ⟨⟨v, rfl⟩, hr⟩))
  all_goals
    go_end0
    exact ⟨⟨_, rfl⟩, hr⟩
end Go.Proofs.Ytnjopfdeapclhaa

