import Derived.Test.YtpabbnddeklpdaaGreatK21
namespace Go.Proofs.YtpabbnddeklpdaaGreat
open Go.RowKit Go.Shelf
set_option linter.unusedVariables false
set_option linter.unusedSimpArgs false
attribute [local go_sem] Oper.semAt_some

def AlE (w : World) (nb pB tB g : Nat) (X FO : Nat → Prop) (R : List EntD) (lv : Value) (f : Bool) (c : Nat → Nat) (C : Nat → Prop) (J : World → Prop) (dv : Value) (n : Nat) (W : World) : Prop := ∃ (X' FO' : Nat → Prop) (L' R' : List EntD) (lv' : Value), AlI w nb pB tB g X FO R lv f c C J dv n W X' FO' L' R' lv'
theorem AlE.turn {w W Z : World} {nb pB tB g n fn B : Nat} {lb : Array Value} {X FO : Nat → Prop} {R : List EntD} {lv dv : Value} {f : Bool} {c : Nat → Nat} {C : Nat → Prop} {J : World → Prop} (h : AlE w nb pB tB g X FO R lv f c C J dv n W) (hD : Doer pB tB g f fn lb c C J) (hB : w.heap.size ≤ B) (t : Turn B W Z) : AlE w nb pB tB g X FO R lv f c C J dv n Z := by
 obtain ⟨X', FO', L', R', lv', k⟩ := h
 exact ⟨X', FO', L', R', lv', k.turn hD hB t⟩
theorem O3.cellsAt {w : World} {b k : Nat} {D : EntD} (h : O3 w b D) (hk : D.blk k) : CellsAt w k := by
 rcases hk with q | q | q
 ·obtain ⟨_, cur, hg⟩ := own_at h.row.2 q
  exact ⟨_, hg, rfl⟩
 ·obtain ⟨_, cur, hg⟩ := own_at h.qual.2 q
  exact ⟨_, hg, rfl⟩
 ·obtain ⟨_, cur, hg⟩ := own_at h.val.2 q
  exact ⟨_, hg, rfl⟩
theorem AlB.set4 {W : World} {b g n : Nat} {dv lv : Value} (h : AlB W b g n dv lv) (m : Nat) : AlB (W.setCell ⟨b + 4, 0, none⟩ (.int .i64 (m : Int))) b g m dv lv := by
 have f : Fb W (W.setCell ⟨b + 4, 0, none⟩ (.int .i64 (m : Int))) (fun k => k = b + 4) := Fb.set1 (O := fun k => k = b + 4) rfl _
 have ne : ∀ i, i < 4 → ¬ (fun k => k = b + 4) (b + i) := fun i hi e => by have e' : b + i = b + 4 := e; omega
 exact ⟨h.b0.keep (f.block _ h.b0.lt (ne 0 (by omega))), h.b1.keep (f.block _ h.b1.lt (ne 1 (by omega))), h.b2.keep (f.block _ h.b2.lt (ne 2 (by omega))), h.b3.keep (f.block _ h.b3.lt (ne 3 (by omega))), h.b4.set _⟩
theorem AlI.round {w X0 Y Y2 Y3 : World} {nb pB tB g n fn s B B2 : Nat} {lb : Array Value} {X FO X' FO' FO2 X3 FO3 : Nat → Prop} {L R L' R' L3 R3 : List EntD} {lv lv' lv3 dv : Value} {f : Bool} {c : Nat → Nat} {C : Nat → Prop} {J : World → Prop} {x : EntD}
  (hD : Doer pB tB g f fn lb c C J) (hG : Gm w pB tB g X FO L R lv f) (hal : AlI w nb pB tB g X FO R lv f c C J dv n X0 X' FO' L' R' lv') (hbY : Below X0.heap.size X0 Y) (f2 : Fb Y Y2 (fun k => FO' k ∨ x.blk k)) (hf2 : ∀ k, FO2 k → FO' k ∨ x.blk k ∨ Y.heap.size ≤ k)
  (f3 : Fb Y2 Y3 (fun k => k = pB ∨ k = tB ∨ FO2 k)) (r3 : RC w Y3 nb pB tB g X FO X3 FO3 L3 R3 lv3 f ∧ RdX X Y3 lv R ∧ AlB Y3 w.heap.size g n dv lv ∧ J Y3 ∧ L3.length ≤ c (n + 1)) (ho : O3 X0 s x) (hs : nb ≤ s) (hB : w.heap.size + 5 ≤ B) (hnb : nb = B + 4) (hn : n + 1 ≤ R.length) (hC : ∀ k, C k → k < w.heap.size) :
  KeepsFrom B2 X0 (Y3.setCell ⟨w.heap.size + 4, 0, none⟩ (.int .i64 ((n + 1 : Nat) : Int))) ∧ KpO X B X0 (Y3.setCell ⟨w.heap.size + 4, 0, none⟩ (.int .i64 ((n + 1 : Nat) : Int))) ∧ AlE w nb pB tB g X FO R lv f c C J dv (n + 1) (Y3.setCell ⟨w.heap.size + 4, 0, none⟩ (.int .i64 ((n + 1 : Nat) : Int))) := by
 obtain ⟨rc3, rd3, al3, j3, l3⟩ := r3
 have hxb : ∀ k, x.blk k → s ≤ k ∧ k < X0.heap.size := fun k hk => ho.lt k hk
 have fs : Fb Y3 (Y3.setCell ⟨w.heap.size + 4, 0, none⟩ (.int .i64 ((n + 1 : Nat) : Int))) (fun k => k = w.heap.size + 4) := Fb.set1 (O := fun k => k = w.heap.size + 4) rfl _
 have ft : Fb X0 (Y3.setCell ⟨w.heap.size + 4, 0, none⟩ (.int .i64 ((n + 1 : Nat) : Int))) (fun k => k = pB ∨ k = tB ∨ FO' k ∨ x.blk k ∨ k = w.heap.size + 4) := by
  have t1 : Fb X0 Y2 (fun k => FO' k ∨ x.blk k) := (Fb.of_below hbY).trans' f2 hbY.size (fun i _ q => q)
  have t2 : Fb X0 Y3 (fun k => k = pB ∨ k = tB ∨ FO' k ∨ x.blk k) := (t1.mono (fun i _ q => .inr (.inr q))).trans' f3 t1.size (fun i hi q => by
   rcases q with q | q | q
   ·exact .inl q
   ·exact .inr (.inl q)
   ·rcases hf2 i q with q | q | q
    ·exact .inr (.inr (.inl q))
    ·exact .inr (.inr (.inr q))
    ·have := hbY.size; omega)
  refine (t2.mono (fun i _ q => ?_)).trans' fs t2.size (fun i _ q => .inr (.inr (.inr (.inr q))))
  rcases q with q | q | q | q
  ·exact .inl q
  ·exact .inr (.inl q)
  ·exact .inr (.inr (.inl q))
  ·exact .inr (.inr (.inr (.inl q)))
 have hplt := hG.pl.plt
 have htlt := hG.pl.tlt
 have hcells : ∀ k, (k = pB ∨ k = tB ∨ FO' k ∨ x.blk k ∨ k = w.heap.size + 4) → k < X0.heap.size → CellsAt X0 k := fun k hk _ => by
  rcases hk with rfl | rfl | q | q | rfl
  ·exact ⟨_, hal.1.gm.pl.box, rfl⟩
  ·obtain ⟨p, T, h1, _⟩ := hal.1.gm.pl.tab.tree
   exact ⟨_, h1, rfl⟩
  ·exact hal.1.gm.fc k q
  ·exact ho.cellsAt q
  ·exact hal.2.2.1.b4.cellsAt
 have hout : ∀ k, (k = pB ∨ k = tB ∨ FO' k ∨ x.blk k ∨ k = w.heap.size + 4) → ¬ X k ∧ ¬ (B ≤ k ∧ k < B + 4) := fun k hk => by
  rcases hk with rfl | rfl | q | q | rfl
  ·exact ⟨hG.pl.np, by omega⟩
  ·exact ⟨hG.pl.tab.not, by omega⟩
  ·rcases hal.1.nf k q with q | q
   ·exact ⟨fun z => hG.ap k (.inr (.inr z)) q, by have := (hG.fc k q).lt; omega⟩
   ·exact ⟨fun z => by have := hG.pl.lt k z; omega, by omega⟩
  ·have := hxb k q
   exact ⟨fun z => by have := hG.pl.lt k z; omega, by omega⟩
  ·exact ⟨fun z => by have := hG.pl.lt _ z; omega, by omega⟩
 refine ⟨keeps_of ft hcells, kpo_of ft hcells hout, X3, FO3, L3, R3, lv3, ⟨rc3.gm.keptC (H := fun k => k ≠ w.heap.size + 4) (KpC.of_fb fs (fun k hk q => hk q)) (fun k hk q => ?_) (fun k hk q => ?_), rc3.fb.trans' fs rc3.fb.size (fun i hi q => ?_), rc3.nx, rc3.nf⟩, rd3.keptC (KpC.of_fb fs (fun k hk q => ?_)), al3.set4 (n + 1), hD.keep _ _ j3 (KpC.of_fb fs (fun k hk q => ?_)), l3, hn⟩
 ·rcases hk with q1 | q1 | q1
  ·omega
  ·omega
  ·rcases rc3.nx k q1 with q2 | q2
   ·have := hG.pl.lt k q2; omega
   ·omega
 ·rcases rc3.nf k hk with q2 | q2
  ·have := (hG.fc k q2).lt; omega
  ·omega
 ·have q' : i = w.heap.size + 4 := q
  omega
 ·have q' : k = w.heap.size + 4 := q
  have := hG.pl.lt k hk; omega
 ·have q' : k = w.heap.size + 4 := q
  have := hC k hk; omega
theorem AlI.leave {w X0 : World} {nb pB tB g n fn D : Nat} {lb : Array Value} {X FO X' FO' : Nat → Prop} {L R L' R' : List EntD} {lv lv' dv : Value} {f : Bool} {c : Nat → Nat} {C : Nat → Prop} {J : World → Prop} {b : Bool} {q : Nat} {o : Obj}
  (hG : Gm w pB tB g X FO L R lv f) (hal : RC w X0 nb pB tB g X FO X' FO' L' R' lv' f) (hq : w.heap.size ≤ q ∧ q < nb) (hnb : w.heap.size ≤ nb) (hD : w.heap.size ≤ D) (hdf : X0.heap[D]? = some o) (ho : o.isCells = false) (hbq : Bxd X0 q 4 (.bool b)) (z : Bool) :
  ((X0.setCell ⟨q, 0, none⟩ (.bool z)).putObj D (.deferred none)).cell? ⟨q, 0, none⟩ = some (.bool z) ∧ Gm ((X0.setCell ⟨q, 0, none⟩ (.bool z)).putObj D (.deferred none)) pB tB g X' FO' L' R' lv' f ∧ GoTo w ((X0.setCell ⟨q, 0, none⟩ (.bool z)).putObj D (.deferred none)) pB tB X FO X' FO' := by
 have hqD : q ≠ D := fun e => by
  subst e
  have h1 : X0.heap[q]? = _ := hbq
  rw [hdf] at h1
  cases h1
  cases ho
 have fs : Fb X0 (X0.setCell ⟨q, 0, none⟩ (.bool z)) (fun k => k = q) := Fb.set1 (O := fun k => k = q) rfl _
 have fp : Fb (X0.setCell ⟨q, 0, none⟩ (.bool z)) ((X0.setCell ⟨q, 0, none⟩ (.bool z)).putObj D (.deferred none)) (fun k => k = D) := ⟨rfl, rfl, rfl, by simp, fun k _ hk => World.putObj_heap_other hk⟩
 have ft : Fb X0 ((X0.setCell ⟨q, 0, none⟩ (.bool z)).putObj D (.deferred none)) (fun k => k = q ∨ k = D) := (fs.mono (fun i _ e => .inl e)).trans (fp.mono (fun i _ e => .inr e))
 have hplt := hG.pl.plt
 have htlt := hG.pl.tlt
 have hd2 : (X0.setCell ⟨q, 0, none⟩ (.bool z)).heap[D]? = some o := (fs.block D (Array.getElem?_eq_some_iff.1 hdf).1 (fun e => hqD e.symm)).trans hdf
 refine ⟨(Bxd.keep (hbq.set (.bool z)) (fp.block q (hbq.set (.bool z)).lt hqD)).cell, (hal.gm.keptC (H := fun k => k ≠ q) (KpC.of_fb fs (fun k hk e => hk e)) (fun k hk e => ?_) (fun k hk e => ?_)).keptC (H := fun _ => True) (KpC.put _ hd2 ho) (fun _ _ => trivial) (fun _ _ => trivial), hal.fb.trans' ft hal.fb.size (fun i hi e => ?_), fun k hk => ?_, fun k hk => ?_⟩
 ·subst e
  rcases hk with h | h | h
  ·omega
  ·omega
  ·rcases hal.nx k h with h | h
   ·have := hG.pl.lt k h; omega
   ·omega
 ·subst e
  rcases hal.nf k hk with h | h
  ·have := (hG.fc k h).lt; omega
  ·omega
 ·omega
 ·rcases hal.nx k hk with h | h
  ·exact .inl h
  ·exact .inr (by omega)
 ·rcases hal.nf k hk with h | h
  ·exact .inl h
  ·exact .inr (by omega)
theorem bxd_new (W : World) (t : TypeId) (v : Value) : ∃ Y, Y = W.alloc (.cells #[v] t) ∧ Below W.heap.size W Y ∧ Y.heap.size = W.heap.size + 1 ∧ Bxd Y W.heap.size t v := ⟨_, rfl, (Below.refl _ _).alloc (Nat.le_refl _) _, by simp, Bxd.new W t v⟩
theorem al_start (w : World) (g tB : Nat) (dv lv : Value) : ∃ V, V = (((((w.alloc (.cells #[.pointer (some ⟨g, 0, none⟩)] 32)).alloc (.cells #[dv] 52)).alloc (.cells #[.bool false] 4)).alloc (.cells #[lv] 27)).alloc (.cells #[.int .i64 0] 3)).alloc (.cells #[.pointer (some ⟨tB, 0, none⟩)] 25) ∧ Below w.heap.size w V ∧ V.heap.size = w.heap.size + 6 ∧ AlB V w.heap.size g 0 dv lv ∧ V.heap[w.heap.size + 5]? = some (.cells #[.pointer (some ⟨tB, 0, none⟩)] 25 (0, 0)) := by
 obtain ⟨V1, e1, b1, s1, x1⟩ := bxd_new w 32 (.pointer (some ⟨g, 0, none⟩))
 obtain ⟨V2, e2, b2, s2, x2⟩ := bxd_new V1 52 dv
 obtain ⟨V3, e3, b3, s3, x3⟩ := bxd_new V2 4 (.bool false)
 obtain ⟨V4, e4, b4, s4, x4⟩ := bxd_new V3 27 lv
 obtain ⟨V5, e5, b5, s5, x5⟩ := bxd_new V4 3 (.int .i64 0)
 obtain ⟨V6, e6, b6, s6, x6⟩ := bxd_new V5 25 (.pointer (some ⟨tB, 0, none⟩))
 have h2 : V1.heap.size = w.heap.size + 1 := s1
 have h3 : V2.heap.size = w.heap.size + 2 := by omega
 have h4 : V3.heap.size = w.heap.size + 3 := by omega
 have h5 : V4.heap.size = w.heap.size + 4 := by omega
 have h6 : V5.heap.size = w.heap.size + 5 := by omega
 rw [h2] at x2; rw [h3] at x3; rw [h4] at x4; rw [h5] at x5; rw [h6] at x6
 have k56 := b6
 have k46 := b5.trans (b6.mono b5.size)
 have k36 := b4.trans (k46.mono b4.size)
 have k26 := b3.trans (k36.mono b3.size)
 have k16 := b2.trans (k26.mono b2.size)
 have k06 := b1.trans (k16.mono b1.size)
 exact ⟨V6, by rw [e6, e5, e4, e3, e2, e1], k06, by omega, ⟨x1.later8 k16, x2.later8 k26, x3.later8 k36, x4.later8 k46, x5.later8 k56⟩, x6⟩
set_option maxRecDepth 100000 in
set_option maxHeartbeats 8000000 in
theorem pall_any {w : World} {pB tB g : Nat} {X FO : Nat → Prop} {L R : List EntD} {lv : Value} {f : Bool} {fn : Nat} {lb : Array Value} {c : Nat → Nat} {C : Nat → Prop} {J : World → Prop} (h : Gm w pB tB g X FO L R lv f) (hD : Doer pB tB g f fn lb c C J) (hJ : J w) (hC : ∀ k, C k → k < w.heap.size ∧ ¬ PlB pB tB X k ∧ ¬ FO k) (hc : L.length ≤ c 0) (hsz : L.length < 100000) :
  Calls Tryz.prog 16 #[.pointer (some ⟨pB, 0, none⟩), .pointer (some ⟨g, 0, none⟩), .func (.func fn) #[] lb] w (PlP w pB tB g X FO (c R.length) f) := by
 obtain ⟨p, T, h1, h2, h3⟩ := h.pl.tab.tree
 have hlens := h.pl.tab.lens
 obtain ⟨am, cm, hlv⟩ := h.pl.ref.rd.slice
 obtain ⟨mz, hmz⟩ : ∃ mz, mz = R.length := ⟨_, rfl⟩
 rw [← hmz] at hlv
 subst hlv
 obtain ⟨V, hV, bV, sV, aV, tV⟩ := al_start w g tB (.func (.func fn) #[] lb) (.slice am mz cm)
 have hpc := h.pl.cells
 have hplt := h.pl.plt
 have HV := Lib.hid hV
 have HS := Lib.hid (And.intro h (And.intro hJ (And.intro hC (And.intro hc hsz))))
 have HM := Lib.hid hmz
 have HT := Lib.hid (And.intro h1 (And.intro h2 (And.intro h3 hlens)))
 have HB := Lib.hid (And.intro bV (And.intro sV (And.intro aV tV)))
 clear h hJ hC hc hsz hmz h1 h2 h3 hlens bV sV aV tV hV
 obtain ⟨c0, c1, c2⟩ := hpc
 have B3 : Below w.heap.size w (((w.alloc (.cells #[.pointer (some ⟨g, 0, none⟩)] 32)).alloc (.cells #[.func (.func fn) #[] lb] 52)).alloc (.cells #[.bool false] 4)) := (((Below.refl w.heap.size w).alloc (Nat.le_refl _) _).alloc (by simp) _).alloc (by simp; omega) _
 have B5 := (B3.alloc B3.size (.cells #[.slice am mz cm] 27))
 have B6 := B5.alloc B5.size (.cells #[.int .i64 0] 3)
 have d1 := (B3.cell (p := ⟨pB, 1, none⟩) hplt).trans c1
 have d0 := (B6.cell (p := ⟨pB, 0, none⟩) hplt).trans c0
 clear B3 B5 B6 c0 c1 c2
 refine (callsIn_wide (n := 9)).1 ?_
 refine callsIn_of_wp_marks Tryz.func16 rfl trivial ?_ rfl
 simp only [Tryz.ntmps16, List.size_toArray, List.length_cons, List.length_nil, Nat.reduceAdd, Nat.reduceSub, Array.replicate_succ, Array.replicate_zero, List.push_toArray, List.append_toArray, List.nil_append, List.cons_append]
 have hdd : ∀ k : Nat, (Fence.wide.depth.isSome = true → 1 ≤ k) := fun k h => by cases h
 have HA : Hid (∀ X, Calls Tryz.prog 21 #[.pointer (some ⟨tB, 0, none⟩)] X _) := fun X => all_any X _
 gi_wp2_with (refine ⟨trivial, ?_⟩; gi_at_call 21; refine (callsIn_wide.2 (HA.out _)).mono ?_; rintro e w' ⟨rfl, rfl⟩)
 rw [← HV.out]
 simp only [Nat.add_assoc, Nat.reduceAdd]
 obtain ⟨hG0, hJ0, hC0, hc0, hsz0⟩ := HS.out
 obtain ⟨bV, sV, aV, tV⟩ := HB.out
 obtain ⟨h1, h2, h3, hlens⟩ := HT.out
 have hGV := hG0.later bV
 have hb2 : TBox V tB p _ _ f := h1.later bV
 have hT2 : IsT X V p T := h2.keptC (KpC.of_below bV)
 clear d0 d1 HA
 refine range_o (w := V) rfl (enters_of Tryz.func40 (by kernel_rfl) rfl) (encs := fun x : EntD => #[.agg x.cells]) (all_seqO tV hb2 hT2 (by rw [h3]; exact hlens)) (fun h k => h.trans k) (fun X o o' ho hc => KpO.put o o' (by omega) ho hc) (fun _ => rfl)
  (fun pre W => V.heap.size ≤ W.heap.size ∧ AlE w (w.heap.size + 12) pB tB g X FO R (.slice am mz cm) f c C J (.func (.func fn) #[] lb) pre.length W)
  (fun c pre X => False)
  (fun s X h => h.1)
  (fun s W Z hW h tu => ⟨Nat.le_trans h.1 tu.below.size, h.2.turn hD (by omega) tu⟩)
  (fun c s W Z hW h tu => h)
  ⟨Nat.le_refl _, X, FO, L, R, _, ⟨⟨hGV, Fb.of_below bV, fun k hk => .inl hk, fun k hk => .inl hk⟩, hGV.pl.ref, aV, hD.keep _ _ hJ0 (KpC.of_below bV), hc0, Nat.zero_le _⟩⟩
  (fun pre x a' W => ∃ Bx s X' FO' L' R' lv', AlI w (w.heap.size + 12) pB tB g X FO R (.slice am mz cm) f c C J (.func (.func fn) #[] lb) pre.length W X' FO' L' R' lv' ∧ EBox W Bx x ∧ w.heap.size + 12 ≤ Bx ∧ NxC T.ord (V.heap.size + 2) pre x W ∧ O3 W s x ∧ (w.heap.size + 12 ≤ s ∧ (∀ k, X' k → k < s) ∧ (∀ k, FO' k → k < s)) ∧ a' = { tmps := #[.pointer (some ⟨pB, 0, none⟩), .pointer (some ⟨g, 0, none⟩), .func (.func fn) #[] lb, undef, .pointer (some ⟨w.heap.size, 0, none⟩), .pointer (some ⟨w.heap.size + 1, 0, none⟩), .pointer (some ⟨w.heap.size + 2, 0, none⟩), .pointer (some ⟨w.heap.size + 3, 0, none⟩), .pointer (some ⟨w.heap.size + 4, 0, none⟩), .pointer (some ⟨Bx, 0, none⟩), .pointer (some ⟨pB, 0, none⟩), .pointer (some ⟨pB, 0, none⟩), .pointer (some ⟨pB, 1, none⟩), .pointer (some ⟨pB, 1, none⟩), .slice am mz cm, .pointer (some ⟨pB, 0, none⟩), .pointer (some ⟨pB, 0, none⟩), .pointer (some ⟨pB, 0, none⟩), .pointer (some ⟨tB, 0, none⟩), .func (.func 40) #[] #[.pointer (some ⟨w.heap.size + 5, 0, none⟩)], .agg x.cells, undef, undef, undef, undef, undef, undef, undef, undef, undef, undef, undef, undef, undef, undef, undef, undef, undef, undef, undef, undef, undef, undef, undef, undef, undef, undef], defers := [] })
  (fun pre x a' _ W Z hW ⟨Bx, s, X', FO', L', R', lv', k0, k1, k2, k3, k4, k5, k6⟩ tu => ⟨Bx, s, X', FO', L', R', lv', k0.turn hD (by omega) tu, tu.cells _ _ k1 rfl, k2, ⟨Nat.le_trans k3.1 tu.below.size, k3.2.1, k3.2.2.keptC tu.toC⟩, k4.turn tu, k5, k6⟩)
  ?assign ?body ?done ?stop (fun c s X h => h.elim)
 case assign =>
  intro l' pre x Wp X0 K hip hi hsX hgd0 hK
  obtain ⟨hnx, ho3, hbe, hB4⟩ := hgd0
  obtain ⟨X', FO', L', R', lv', k⟩ := hip.2
  have hlt1 := k.1.gm.pl.lt
  have hlt2 := fun i hi => (k.1.gm.fc i hi).lt
  have hsX' : w.heap.size + 12 ≤ X0.heap.size := by have := hnx.1; omega
  obtain ⟨vr, fam, vq, ts, seq, kind, vv, row, qual, val⟩ := x
  have r1 : Rd X0 vr row := hnx.2.2.1.1
  have r2 : Rd X0 vq qual := hnx.2.2.2.1.1
  have r3 : Rd X0 vv val := hnx.2.2.2.2.1
  obtain ⟨ar, nr, cr, rfl⟩ := rd_slice r1
  obtain ⟨aq, nq, cq, rfl⟩ := rd_slice r2
  obtain ⟨av, nv, cv, rfl⟩ := rd_slice r3
  have hbb := (Below.refl X0.heap.size X0).alloc (Nat.le_refl _) (.cells (EntD.mk (.slice ar nr cr) fam (.slice aq nq cq) ts seq kind (.slice av nv cv) row qual val).cells 38)
  have tu := Turn.of (B := V.heap.size) hbb (by omega)
  have HAx := Lib.hid (And.intro ((k.later hD hbe).later hD hbb) (And.intro (EBox.new X0 (EntD.mk (.slice ar nr cr) fam (.slice aq nq cq) ts seq kind (.slice av nv cv) row qual val)) (And.intro (show NxC T.ord (V.heap.size + 2) pre (EntD.mk (.slice ar nr cr) fam (.slice aq nq cq) ts seq kind (.slice av nv cv) row qual val) (X0.alloc (.cells (EntD.mk (.slice ar nr cr) fam (.slice aq nq cq) ts seq kind (.slice av nv cv) row qual val).cells 38)) from ⟨Nat.le_trans hnx.1 tu.below.size, hnx.2.1, hnx.2.2.keptC tu.toC⟩) (ho3.turn tu))))
  have HT9 := Lib.hid (show KpO X (V.heap.size + 2) X0 (X0.alloc (.cells (EntD.mk (.slice ar nr cr) fam (.slice aq nq cq) ts seq kind (.slice av nv cv) row qual val).cells 38)) from ⟨tu.toC, Oth.of hbb⟩)
  have HI := Lib.hid (And.intro (Nat.le_trans hi.1 tu.below.size) (hi.2.turn hD (B := V.heap.size) (by omega) tu))
  have HL1 := Lib.hid hlt1
  have HL2 := Lib.hid hlt2
  clear hbb tu hi hip hnx ho3 hbe r1 r2 r3 k hlt1 hlt2
  simp only [EntD.cells] at *
  gi_wp2
  exact hK _ _ ((KeepsOthers.alloc _ _).from _) HT9.out HI.out ⟨X0.heap.size, Wp.heap.size, X', FO', L', R', lv', HAx.out.1, HAx.out.2.1, hsX', HAx.out.2.2.1, HAx.out.2.2.2, ⟨by omega, HL1.out, HL2.out⟩, rfl⟩
 case body =>
  rintro l' pre x a' X0 - ⟨Bx, s, X', FO', L', R', lv', hal, hbx, hBx, hnx, ho3, ⟨hs1, hs2, hs3⟩, rfl⟩
  obtain ⟨n, hn⟩ : ∃ n, n = pre.length := ⟨_, rfl⟩
  rw [← hn] at hal
  have hsm := hG0.pl.sm
  obtain ⟨q, hq1, hq2⟩ := hnx.2.1
  have e1 := hq2.len
  have e2 := hq1.length_le
  rw [h3] at e2 hq1
  have e3 := hsm.len
  simp only [List.length_append, List.length_cons, List.length_nil] at e1
  have hnm : n < mz := by have := HM.out; omega
  obtain ⟨y, hy⟩ : ∃ y, R[n]? = some y := ⟨R[n]'(by have := HM.out; omega), by simp⟩
  have hxy : EntD.Same x y ∧ checkS x = 0 := by
   obtain ⟨x1, z1, k1, k2, k3⟩ := hq2.at (i := n) (by simp; omega)
   obtain ⟨y1, z2, k4, k5, k6⟩ := hsm.at (i := n) (by have := HM.out; omega)
   have kx : x1 = x := by
    rw [hn] at k1
    simpa using k1.symm
   obtain ⟨t, ht⟩ := hq1
   have kz : L[n]? = some z1 := by
    rw [← ht, List.getElem?_append_left (by omega)]
    exact k2
   rw [kz] at k5
   cases k5
   rw [hy] at k4
   cases k4
   subst kx
   exact ⟨same_cross k3 k6, lens_good hG0.pl.tab.good k3 (List.mem_of_getElem? kz)⟩
  obtain ⟨a0, cap0, ea, -, -, -, -, h5⟩ := hal.2.1.rd
  obtain ⟨hyok, bz, oz, eb, hcs⟩ := h5 n y hy
  have eam : am = some ⟨bz, oz, none⟩ := by
   injection ea with e4
   rw [e4, eb]
  clear h5 ea eb
  subst eam
  have HSe : Hid (∀ Z, Below X0.heap.size X0 Z → Calls Tryz.prog 11 #[.agg #[x.vr, .int .i64 x.fam, x.vq, .int .i64 x.ts, .int .i64 x.seq, .int .i64 x.kind, x.vv], .agg #[y.vr, .int .i64 y.fam, y.vq, .int .i64 y.ts, .int .i64 y.seq, .int .i64 y.kind, y.vv]] Z fun r w' => r = .returned (.bool true) ∧ Below Z.heap.size Z w') := fun Z b => by
   refine (se_any (hnx.2.2.ok.later b) (hyok.later b)).mono ?_
   rintro r w' ⟨rfl, hb⟩
   exact ⟨by rw [decide_eq_true hxy.1], hb⟩
  have kc := hal.2.2.1.b4.cell
  have wc := hal.2.2.1.b3.cell
  have xc := hbx.cells7
  have HAL := Lib.hid hal
  have HX := Lib.hid (And.intro hbx (And.intro ho3 (And.intro hnx (And.intro hBx (And.intro hs1 (And.intro hs2 hs3))))))
  have HN := Lib.hid hn
  have HXY := Lib.hid hxy
  clear hal hbx hnx ho3 hBx hs1 hs2 hs3 hq1 hq2 e1 e2 e3 hsm hn hxy hyok hy
  gi_wp2_with fail
  refine wpIn_eq8 _ (pall5_region hnm ⟨kc, wc, xc, hcs⟩ HSe) ?_
  intro Y hbY
  have halY := HAL.out.later hD hbY
  have hbxY := HX.out.1.later hbY
  have hsY : w.heap.size + 12 ≤ Y.heap.size := by have := hbY.size; have := HX.out.2.2.1.1; omega
  have hxb : ∀ k, x.blk k → s ≤ k ∧ k < X0.heap.size := fun k hk => HX.out.2.1.lt k hk
  have HFe := Lib.hid (fentry_any halY.1.gm.fu ((HX.out.2.1.later hbY).e3 HXY.out.2) (fun k hk hf => by have := (hxb k hk).1; have := HX.out.2.2.2.2.2.2 k hf; omega))
  unfold EntD.cells at HFe
  have gc := halY.2.2.1.b0.cell
  obtain ⟨p0, p1, p2, p3, p4, p5, p6⟩ := hbxY.cells7
  have HY := Lib.hid (And.intro halY (And.intro hbY (And.intro hsY hxb)))
  clear halY hbxY hsY hxb hbY kc wc xc hcs HSe
  gi_wp2_with fail
  refine ⟨trivial, ?_⟩
  refine (CallsIn.inRound l' (callsIn_wide.2 HFe.out)).mono ?_
  rintro z Y2 ⟨⟨vv, rfl⟩, fu2, f2⟩
  obtain ⟨FO2, hal2, hf2⟩ := HY.out.1.full (x := x) (s := s) hD hG0 (by omega) HY.out.2.2.1 (fun k hk => ⟨(hC0 k hk).1, (hC0 k hk).2.2⟩) fu2 (f2.mono (fun i _ q => q)) (fun k hk => (HY.out.2.2.2 k hk).1) ⟨HX.out.2.2.2.2.1, HX.out.2.2.2.2.2.1⟩ (fun k hk => by
   rcases hk with q | q | q
   ·exact .inl q
   ·exact .inr (.inl q)
   ·exact .inr (.inr q.1))
  have hsY2 : w.heap.size + 12 ≤ Y2.heap.size := Nat.le_trans HY.out.2.2.1 f2.size
  have hdo := hD.does n Y2 X' FO2 L' R' lv' hal2.2.2.2.1 hal2.1.gm (fun k hk => by
   have hk0 := hC0 k hk
   refine ⟨fun q => ?_, fun q => ?_⟩
   ·rcases q with q | q | q
    ·exact hk0.2.1 (.inl q)
    ·exact hk0.2.1 (.inr (.inl q))
    ·rcases hal2.1.nx k q with q | q
     ·exact hk0.2.1 (.inr (.inr q))
     ·omega
   ·rcases hal2.1.nf k q with q | q
    ·exact hk0.2.2 q
    ·omega) hal2.2.2.2.2.1
  have HDo := Lib.hid hdo
  have hen := hD.enters
  have kc := hal2.2.2.1.b4.cell
  have dc := hal2.2.2.1.b1.cell
  have H2 := Lib.hid (And.intro hal2 (And.intro hf2 (And.intro f2 hsY2)))
  clear hal2 hf2 f2 fu2 hsY2 hdo HFe p0 p1 p2 p3 p4 p5 p6 gc
  gi_wp2_with fail
  refine ⟨trivial, ?_⟩
  refine (CallsIn.inRound l' (callsIn_wide.2 HDo.out)).mono ?_
  rintro z Y3 hpl
  obtain rfl : z = .returned (.bool true) := hpl.1
  obtain ⟨X3, FO3, L3, R3, lv3, ⟨rc3, rd3, al3, j3, l3⟩, f3⟩ := H2.out.1.did hD hG0 (by omega) H2.out.2.2.2 hC0 hpl
  have kc := al3.b4.cell
  have kf := al3.b4.fz
  have hn100 : n < 100000 := by have := hG0.pl.sm.len; have := HM.out; omega
  have HWn : Hid (IntKind.i64.wrap ((n : Int) + 1) = ((n + 1 : Nat) : Int)) := by
   have := wrap_ok ((n : Int) + 1) (by omega) (by omega)
   unfold Hid; rw [this]; simp
  have H3 := Lib.hid (And.intro rc3 (And.intro rd3 (And.intro al3 (And.intro j3 (And.intro l3 f3)))))
  clear rc3 rd3 al3 j3 l3 f3 hpl HDo hen dc
  gi_wp2
  have hrd := AlI.round (B := V.heap.size + 2) (B2 := V.heap.size) hD hG0 HAL.out HY.out.2.1 H2.out.2.2.1 H2.out.2.1 H3.out.2.2.2.2.2 ⟨H3.out.1, H3.out.2.1, H3.out.2.2.1, H3.out.2.2.2.1, H3.out.2.2.2.2.1⟩ HX.out.2.1 HX.out.2.2.2.2.1 (by omega) (by omega) (by have := HM.out; omega) (fun k hk => (hC0 k hk).1)
  have hlen : (pre ++ [x]).length = n + 1 := by rw [List.length_append, ← HN.out]; rfl
  have ecast : (n : Int) + 1 = ((n + 1 : Nat) : Int) := by simp
  rw [ecast]
  refine ⟨hrd.1, hrd.2.1, by have := H2.out.2.2.2; have := H3.out.2.2.2.2.2.size; rw [World.size_setCell]; omega, ?_⟩
  rw [hlen]
  exact hrd.2.2
 case done =>
  rintro D xs X0 hDd hsmx ⟨hsz, X', FO', L', R', lv', hal⟩ hdf
  have e1 := hsmx.len
  have e2 := hG0.pl.sm.len
  rw [h3] at e1
  have hxs : xs.length = mz := by have := HM.out; omega
  rw [hxs] at hal
  have kc := hal.2.2.1.b4.cell
  have wc := hal.2.2.1.b3.cell
  have rc := hal.2.2.1.b2.cell
  have rf := hal.2.2.1.b2.fz
  have HAL := Lib.hid hal
  have HDf := Lib.hid hdf
  clear hal hdf hxs e1 e2 hsmx
  gi_wp2
  obtain ⟨q1, q2, q3⟩ := AlI.leave (X0 := X0) (D := D) (c := c) (C := C) (J := J) (fn := fn) (lb := lb) (dv := .func (.func fn) #[] lb) (n := mz) hG0 HAL.out.1 (q := w.heap.size + 2) ⟨by omega, by omega⟩ (by omega) (by omega) HDf.out rfl HAL.out.2.2.1.b2 true
  have hdf' : (X0.setCell ⟨w.heap.size + 2, 0, none⟩ (.bool true)).heap[D]? = some (.deferred (some [])) := (Below.heap_setCell _ _ _ _ (show D ≠ w.heap.size + 2 by omega)).trans HDf.out
  refine ⟨by simp, .inl ⟨_, _, rfl, run_takeDeferred hdf', ?_⟩⟩
  exact ⟨.bool true, by simp [results, Tryz.results16, go_sem, q1], rfl, X', FO', L', R', lv', q2, q3, by have := HAL.out.2.2.2.2.1; rw [← HM.out]; exact this⟩
 case stop =>
  rintro D c pre X hD hsp h hdf
  exact h.elim
end Go.Proofs.YtpabbnddeklpdaaGreat

namespace Go.Proofs.YtpabbnddeklpdaaGreat
open Go.RowKit Go.Shelf
set_option linter.unusedVariables false

set_option maxRecDepth 100000 in
set_option maxHeartbeats 4000000 in
theorem refFrom2_any {w : World} {lv : Value} {L : List EntD} {f : Bool} {e : EntD} (hl : RdL w lv L) (he : EntD.Ok w e) :
  Calls Tryz.prog 10 #[.agg #[lv, .bool f], .agg e.cells] w fun z w' => ∃ v, z = .returned v ∧ RdL w' v (L.dropWhile (fun y => decide (compareS y e < 0))) ∧ (∀ k, v.ownBlock = some k → lv.ownBlock = some k) ∧ Below w.heap.size w w' := by
 have HL := Lib.hid hl
 have A1 := (Below.refl w.heap.size w).alloc (Nat.le_refl _) (.cells #[lv, .bool f] 29)
 have A2 := A1.alloc A1.size (.cells e.cells 38)
 have bt := (RBx.new w lv f).later ((Below.refl _ (w.alloc (.cells #[lv, .bool f] 29))).alloc (Nat.le_refl _) (.cells e.cells 38))
 have be := EBox.new (w.alloc (.cells #[lv, .bool f] 29)) e
 rw [World.size_alloc] at be
 obtain ⟨a, ca, rfl, a1, a2, a3, -, a4⟩ := hl
 obtain ⟨n, hn⟩ : ∃ n, n = L.length := ⟨_, rfl⟩
 rw [← hn] at a1 a3 HL A1 A2 bt be ⊢
 have HN : Hid (L.length = n) := hn.symm
 have HA4 := Lib.hid a4
 have HE := Lib.hid he
 obtain ⟨V, hV⟩ : ∃ V, V = (w.alloc (.cells #[.slice a n ca, .bool f] 29)).alloc (.cells e.cells 38) := ⟨_, rfl⟩
 rw [← hV] at A2 bt be
 have HV : Hid (V = _) := hV
 unfold EntD.cells at HV
 have HA2 := Lib.hid A2
 have c0 := bt.c0
 have KB : Hid (∀ wx, Below V.heap.size V wx → wx.cell? ⟨w.heap.size, 0, none⟩ = some (.slice a n ca) ∧ wx.cell? ⟨w.heap.size + 1, 0, none⟩ = some e.vr ∧ wx.cell? ⟨w.heap.size + 1, 1, none⟩ = some (.int .i64 e.fam) ∧ wx.cell? ⟨w.heap.size + 1, 2, none⟩ = some e.vq ∧ wx.cell? ⟨w.heap.size + 1, 3, none⟩ = some (.int .i64 e.ts) ∧ wx.cell? ⟨w.heap.size + 1, 4, none⟩ = some (.int .i64 e.seq) ∧ wx.cell? ⟨w.heap.size + 1, 5, none⟩ = some (.int .i64 e.kind) ∧ wx.cell? ⟨w.heap.size + 1, 6, none⟩ = some e.vv) := fun wx b => by
  have k1 := bt.later b
  have k2 := be.later b
  exact ⟨k1.c0, k2.vr, k2.fam, k2.vq, k2.ts, k2.seq, k2.kind, k2.vv⟩
 clear hn a4 he hV A1 A2 bt be c0
 unfold EntD.cells
 go_enter Tryz.func10, Tryz.ntmps10
 go_wp2
 rw [← HV.out]
 go_loopw [5] (fun i wr => ∃ t : Nat, t ≤ n ∧ i = .int .i64 (t : Int) ∧ Hid (∀ y ∈ L.take t, compareS y e < 0) ∧ Below V.heap.size V wr) (fun i _ => n - (intOf i).toNat)
 case atStart => exact ⟨0, by omega, rfl, (fun y hy => by simp at hy), Below.refl _ _⟩
 case round =>
  obtain ⟨t, htn, rfl, HT, hbk⟩ := hrel
  have HBK := Lib.hid hbk
  obtain ⟨c0, d0, d1, d2, d3, d4, d5, d6⟩ := KB.out _ hbk
  by_cases h1 : t < n
  ·have h1' : (t : Int) < (n : Int) := by omega
   have ht0 : (0 : Int) ≤ (t : Int) := by omega
   obtain ⟨x, hx⟩ : ∃ x, L[t]? = some x := ⟨L[t]'(by rw [HN.out]; exact h1), by simp⟩
   obtain ⟨ox, ba, oa, rfl, cx⟩ := HA4.out t x hx
   have KS : Hid (∀ wx, Below wr.heap.size wr wx → (wx.cell? ⟨w.heap.size, 0, none⟩ = some (.slice (some ⟨ba, oa, none⟩) n ca) ∧ wx.cell? ⟨w.heap.size + 1, 0, none⟩ = some e.vr ∧ wx.cell? ⟨w.heap.size + 1, 1, none⟩ = some (.int .i64 e.fam) ∧ wx.cell? ⟨w.heap.size + 1, 2, none⟩ = some e.vq ∧ wx.cell? ⟨w.heap.size + 1, 3, none⟩ = some (.int .i64 e.ts) ∧ wx.cell? ⟨w.heap.size + 1, 4, none⟩ = some (.int .i64 e.seq) ∧ wx.cell? ⟨w.heap.size + 1, 5, none⟩ = some (.int .i64 e.kind) ∧ wx.cell? ⟨w.heap.size + 1, 6, none⟩ = some e.vv) ∧ (wx.cell? ⟨ba, oa + t * 7, none⟩ = some x.vr ∧ wx.cell? ⟨ba, oa + t * 7 + 1, none⟩ = some (.int .i64 x.fam) ∧ wx.cell? ⟨ba, oa + t * 7 + 2, none⟩ = some x.vq ∧ wx.cell? ⟨ba, oa + t * 7 + 3, none⟩ = some (.int .i64 x.ts) ∧ wx.cell? ⟨ba, oa + t * 7 + 4, none⟩ = some (.int .i64 x.seq) ∧ wx.cell? ⟨ba, oa + t * 7 + 5, none⟩ = some (.int .i64 x.kind) ∧ wx.cell? ⟨ba, oa + t * 7 + 6, none⟩ = some x.vv)) := fun wx b => by
    have k := (HBK.out.trans (b.mono HBK.out.size))
    exact ⟨KB.out _ k, cx.later (HA2.out.trans (k.mono HA2.out.size))⟩
   have HC : Hid (∀ Z, Below wr.heap.size wr Z → Calls Tryz.prog 34 #[.agg #[x.vr, .int .i64 x.fam, x.vq, .int .i64 x.ts, .int .i64 x.seq, .int .i64 x.kind, x.vv], .agg #[e.vr, .int .i64 e.fam, e.vq, .int .i64 e.ts, .int .i64 e.seq, .int .i64 e.kind, e.vv]] Z fun r w' => r = .returned (.int .i64 (compareS x e)) ∧ Below Z.heap.size Z w') := fun Z hZ => by
    have k := (HBK.out.trans (hZ.mono HBK.out.size))
    have k2 := HA2.out.trans (k.mono HA2.out.size)
    exact refCompare_any (ox.later k2) (HE.out.later k2)
   have HX : Hid (compareS x e < 0 → ∀ y ∈ L.take (t + 1), compareS y e < 0) := fun hc y hy => by
    rcases mem_take_succ hx hy with h | rfl
    ·exact HT.out y h
    ·exact hc
   have HD : Hid (¬ compareS x e < 0 → L.dropWhile (fun y => decide (compareS y e < 0)) = L.drop t) := fun hc => drop_while (fun y hy => by simpa using HT.out y hy) hx (by simpa using hc)
   obtain ⟨cc, hcc⟩ : ∃ cc, cc = compareS x e := ⟨_, rfl⟩
   rw [← hcc] at HC HX HD
   have D0 : Below wr.heap.size wr wr.drew := (Below.refl _ _).drew
   clear hx ox cx hbk hcc HT
   by_cases hcz : cc < 0
   ·have hd : ¬ (0 : Int) ≤ cc := by omega
    go_wp2_with fail
    go_region_held3 (fun wx => (wx.cell? ⟨w.heap.size, 0, none⟩ = some (.slice (some ⟨ba, oa, none⟩) n ca) ∧ wx.cell? ⟨w.heap.size + 1, 0, none⟩ = some e.vr ∧ wx.cell? ⟨w.heap.size + 1, 1, none⟩ = some (.int .i64 e.fam) ∧ wx.cell? ⟨w.heap.size + 1, 2, none⟩ = some e.vq ∧ wx.cell? ⟨w.heap.size + 1, 3, none⟩ = some (.int .i64 e.ts) ∧ wx.cell? ⟨w.heap.size + 1, 4, none⟩ = some (.int .i64 e.seq) ∧ wx.cell? ⟨w.heap.size + 1, 5, none⟩ = some (.int .i64 e.kind) ∧ wx.cell? ⟨w.heap.size + 1, 6, none⟩ = some e.vv) ∧ (wx.cell? ⟨ba, oa + t * 7, none⟩ = some x.vr ∧ wx.cell? ⟨ba, oa + t * 7 + 1, none⟩ = some (.int .i64 x.fam) ∧ wx.cell? ⟨ba, oa + t * 7 + 2, none⟩ = some x.vq ∧ wx.cell? ⟨ba, oa + t * 7 + 3, none⟩ = some (.int .i64 x.ts) ∧ wx.cell? ⟨ba, oa + t * 7 + 4, none⟩ = some (.int .i64 x.seq) ∧ wx.cell? ⟨ba, oa + t * 7 + 5, none⟩ = some (.int .i64 x.kind) ∧ wx.cell? ⟨ba, oa + t * 7 + 6, none⟩ = some x.vv)) (first | exact KS.out _ D1 | exact KS.out _ D0) ((go_at_call 34; refine Calls.mono (HC.out _ D0) ?_; rintro e1 w1 ⟨rfl, hb1⟩; have D1 := D0.trans (hb1.mono D0.size)))
    go_wp2
    go_roundw
    case rel => exact ⟨t + 1, by omega, by go_num, HX.out hcz, HBK.out.trans (D1.mono HBK.out.size)⟩
    case measure => simp [intOf]; omega
   ·have hd : (0 : Int) ≤ cc := by omega
    have htn' : (t : Int) ≤ (n : Int) := by omega
    have htc' : (t : Int) ≤ (ca : Int) := by omega
    have hnc' : (n : Int) ≤ (ca : Int) := by omega
    go_wp2_with fail
    go_region_held3 (fun wx => (wx.cell? ⟨w.heap.size, 0, none⟩ = some (.slice (some ⟨ba, oa, none⟩) n ca) ∧ wx.cell? ⟨w.heap.size + 1, 0, none⟩ = some e.vr ∧ wx.cell? ⟨w.heap.size + 1, 1, none⟩ = some (.int .i64 e.fam) ∧ wx.cell? ⟨w.heap.size + 1, 2, none⟩ = some e.vq ∧ wx.cell? ⟨w.heap.size + 1, 3, none⟩ = some (.int .i64 e.ts) ∧ wx.cell? ⟨w.heap.size + 1, 4, none⟩ = some (.int .i64 e.seq) ∧ wx.cell? ⟨w.heap.size + 1, 5, none⟩ = some (.int .i64 e.kind) ∧ wx.cell? ⟨w.heap.size + 1, 6, none⟩ = some e.vv) ∧ (wx.cell? ⟨ba, oa + t * 7, none⟩ = some x.vr ∧ wx.cell? ⟨ba, oa + t * 7 + 1, none⟩ = some (.int .i64 x.fam) ∧ wx.cell? ⟨ba, oa + t * 7 + 2, none⟩ = some x.vq ∧ wx.cell? ⟨ba, oa + t * 7 + 3, none⟩ = some (.int .i64 x.ts) ∧ wx.cell? ⟨ba, oa + t * 7 + 4, none⟩ = some (.int .i64 x.seq) ∧ wx.cell? ⟨ba, oa + t * 7 + 5, none⟩ = some (.int .i64 x.kind) ∧ wx.cell? ⟨ba, oa + t * 7 + 6, none⟩ = some x.vv)) (first | exact KS.out _ D1 | exact KS.out _ D0) ((go_at_call 34; refine Calls.mono (HC.out _ D0) ?_; rintro e1 w1 ⟨rfl, hb1⟩; have D1 := D0.trans (hb1.mono D0.size); have c1 := (KB.out _ (HBK.out.trans (D1.mono HBK.out.size))).1))
    go_wp2
    go_ret
    have k := HBK.out.trans (D1.mono HBK.out.size)
    have k2 := HA2.out.trans (k.mono HA2.out.size)
    refine ⟨_, rfl, ?_, (by intro k hk; first | exact hk | (simp only [Value.ownBlock] at hk ⊢; exact hk)), k2⟩
    rw [HD.out (by first | exact hcz | exact Int.not_lt.1 hcz)]
    have := (HL.out.later k2).drop (t := t) htn
    first | exact this | go_num
  ·have h1' : (n : Int) ≤ (t : Int) := by omega
   have HZ : Hid (L.dropWhile (fun y => decide (compareS y e < 0)) = []) := dropWhile_all (fun y hy => by
    have := HT.out y (by rw [List.take_of_length_le (by rw [HN.out]; omega)]; exact hy)
    simpa using this)
   clear HT
   go_wp2
   go_ret
   exact ⟨_, rfl, by rw [HZ.out]; exact RdL.nil _, (fun k hk => by cases hk), HA2.out.trans (HBK.out.mono HA2.out.size)⟩
end Go.Proofs.YtpabbnddeklpdaaGreat

namespace Go.Proofs.YtpabbnddeklpdaaGreat
open Go.RowKit Go.Shelf
set_option linter.unusedVariables false
set_option linter.unusedSimpArgs false
attribute [local go_sem] Oper.semAt_some

structure Gi2 (wr Z : World) (X : Nat → Prop) (l : List EntD) (v : Value) (b9 : Nat) : Prop where
 rd : RdX X Z v l
 bel : Below wr.heap.size wr Z
 box : Bxd Z b9 27 v
 lo : wr.heap.size ≤ b9
theorem gi2_of {wr Z : World} {X : Nat → Prop} {l : List EntD} {v u : Value} {b9 : Nat} (bel : Below wr.heap.size wr Z) (rd : RdX X Z v l) (box : Bxd Z b9 27 u) (lo : wr.heap.size ≤ b9) (hX : ∀ k, X k → k < wr.heap.size) : Gi2 wr (Z.setCell ⟨b9, 0, none⟩ v) X l v b9 := by
 have fs : Fb Z (Z.setCell ⟨b9, 0, none⟩ v) (fun k => k = b9) := Fb.set1 (O := fun k => k = b9) rfl _
 exact ⟨rd.keptC (KpC.of_fb fs (fun k hk e => by have e' : k = b9 := e; have := hX k hk; omega)), bel.setCell (p := ⟨b9, 0, none⟩) lo v, box.set v, lo⟩
def pgiv2Ops : Array Oper := #[{ dst := some 20, op := Op.move (Operand.tmp 0), type := 24, pos := "law.go:172", after := #[], guard := none }, { dst := some 21, op := Op.nilCheck (Operand.tmp 20), type := 0, pos := "law.go:172", after := #[{ on := 0, ground := Ground.data }], guard := none }, { dst := some 22, op := Op.fieldAddr 31 (Operand.tmp 21) 1, type := 0, pos := "law.go:172", after := #[{ on := 1, ground := Ground.data }], guard := none }, { dst := some 23, op := Op.load 29 (Operand.tmp 22), type := 29, pos := "law.go:172", after := #[{ on := 2, ground := Ground.data }], guard := none }, { dst := some 24, op := Op.load 38 (Operand.tmp 12), type := 38, pos := "law.go:172", after := #[], guard := none }, { dst := some 25, op := Op.call { callee := Callee.value (Operand.func 10), args := #[Operand.tmp 23, Operand.tmp 24], argTypes := #[29, 38] }, type := 27, pos := "law.go:172", after := #[{ on := 3, ground := Ground.data }, { on := 4, ground := Ground.data }], guard := none }, { dst := some 13, op := Op.alloc 27, type := 0, pos := "law.go:172", after := #[], guard := none }, { dst := none, op := Op.store 27 (Operand.tmp 13) (Operand.tmp 25), type := 0, pos := "law.go:172", after := #[{ on := 6, ground := Ground.data }, { on := 5, ground := Ground.data }, { on := 5, ground := Ground.chain }, { on := 0, ground := Ground.phase }, { on := 1, ground := Ground.phase }, { on := 2, ground := Ground.phase }, { on := 3, ground := Ground.phase }, { on := 4, ground := Ground.phase }, { on := 5, ground := Ground.phase }, { on := 6, ground := Ground.phase }], guard := none }]
set_option maxRecDepth 100000 in
set_option maxHeartbeats 16000000 in
theorem pgiv2_region {wr : World} {X : Nat → Prop} {R : List EntD} {p : EntD → Bool} {f : Bool} {x : EntD} {pB b2 m c : Nat} {a : Option Addr} {Q : Exit → Act → World → Prop} {s1 s2 s3 s4 s5 s6 s7 s8 s9 s10 s11 s13 s14 s15 s16 s17 s18 s19 s20 s21 s22 s23 s24 s25 s26 s27 s28 s29 s30 s31 s32 s33 s34 s35 s36 s37 s38 s39 s40 s41 s42 s43 s44 s45 s46 s47 s48 s49 s50 s51 s52 s53 s54 s55 s56 s57 s58 s59 s60 s61 s62 s63 s64 s65 s66 s67 s68 s69 s70 s71 s72 s73 s74 s75 s76 : Value}
  (hPc : wr.cell? ⟨pB, 1, none⟩ = some (.slice a m c) ∧ wr.cell? ⟨pB, 2, none⟩ = some (.bool f)) (hDc : wr.cell? ⟨b2, 0, none⟩ = some (x.vr) ∧ wr.cell? ⟨b2, 1, none⟩ = some (.int .i64 x.fam) ∧ wr.cell? ⟨b2, 2, none⟩ = some (x.vq) ∧ wr.cell? ⟨b2, 3, none⟩ = some (.int .i64 x.ts) ∧ wr.cell? ⟨b2, 4, none⟩ = some (.int .i64 x.seq) ∧ wr.cell? ⟨b2, 5, none⟩ = some (.int .i64 x.kind) ∧ wr.cell? ⟨b2, 6, none⟩ = some (x.vv)) (hX : Hid (∀ k, X k → k < wr.heap.size)) (hR : Hid (RdX X wr (.slice a m c) R))
  (hA : Hid (∀ Z, Below wr.heap.size wr Z → Calls Tryz.prog 10 #[.agg #[.slice a m c, .bool f], .agg #[x.vr, .int .i64 x.fam, x.vq, .int .i64 x.ts, .int .i64 x.seq, .int .i64 x.kind, x.vv]] Z (fun z w' => ∃ v, z = .returned v ∧ RdL w' v (R.dropWhile p) ∧ (∀ k, v.ownBlock = some k → (Value.slice a m c).ownBlock = some k) ∧ Below Z.heap.size Z w')))
  (hQ : Hid (∀ (a' : Option Addr) (m' k' : Nat) (b9 : Nat) (Z : World), Gi2 wr Z X (R.dropWhile p) (.slice a' m' k') b9 → Q .normal ({ tmps := List.toArray ((.pointer (some ⟨pB, 0, none⟩) : Value) :: (s1 : Value) :: (s2 : Value) :: (s3 : Value) :: (s4 : Value) :: (s5 : Value) :: (s6 : Value) :: (s7 : Value) :: (s8 : Value) :: (s9 : Value) :: (s10 : Value) :: (s11 : Value) :: (.pointer (some ⟨b2, 0, none⟩) : Value) :: (.pointer (some ⟨b9, 0, none⟩) : Value) :: (s14 : Value) :: (s15 : Value) :: (s16 : Value) :: (s17 : Value) :: (s18 : Value) :: (s19 : Value) :: (.pointer (some ⟨pB, 0, none⟩) : Value) :: (.pointer (some ⟨pB, 0, none⟩) : Value) :: (.pointer (some ⟨pB, 1, none⟩) : Value) :: (.agg #[.slice a m c, .bool f] : Value) :: (.agg #[x.vr, .int .i64 x.fam, x.vq, .int .i64 x.ts, .int .i64 x.seq, .int .i64 x.kind, x.vv] : Value) :: ((.slice a' m' k') : Value) :: (s26 : Value) :: (s27 : Value) :: (s28 : Value) :: (s29 : Value) :: (s30 : Value) :: (s31 : Value) :: (s32 : Value) :: (s33 : Value) :: (s34 : Value) :: (s35 : Value) :: (s36 : Value) :: (s37 : Value) :: (s38 : Value) :: (s39 : Value) :: (s40 : Value) :: (s41 : Value) :: (s42 : Value) :: (s43 : Value) :: (s44 : Value) :: (s45 : Value) :: (s46 : Value) :: (s47 : Value) :: (s48 : Value) :: (s49 : Value) :: (s50 : Value) :: (s51 : Value) :: (s52 : Value) :: (s53 : Value) :: (s54 : Value) :: (s55 : Value) :: (s56 : Value) :: (s57 : Value) :: (s58 : Value) :: (s59 : Value) :: (s60 : Value) :: (s61 : Value) :: (s62 : Value) :: (s63 : Value) :: (s64 : Value) :: (s65 : Value) :: (s66 : Value) :: (s67 : Value) :: (s68 : Value) :: (s69 : Value) :: (s70 : Value) :: (s71 : Value) :: (s72 : Value) :: (s73 : Value) :: (s74 : Value) :: (s75 : Value) :: (s76 : Value) :: []), defers := [] } : Act) Z)) : Code.wp Tryz.prog (Code.region 2 pgiv2Ops true) Q ({ tmps := List.toArray ((.pointer (some ⟨pB, 0, none⟩) : Value) :: (s1 : Value) :: (s2 : Value) :: (s3 : Value) :: (s4 : Value) :: (s5 : Value) :: (s6 : Value) :: (s7 : Value) :: (s8 : Value) :: (s9 : Value) :: (s10 : Value) :: (s11 : Value) :: (.pointer (some ⟨b2, 0, none⟩) : Value) :: (s13 : Value) :: (s14 : Value) :: (s15 : Value) :: (s16 : Value) :: (s17 : Value) :: (s18 : Value) :: (s19 : Value) :: (s20 : Value) :: (s21 : Value) :: (s22 : Value) :: (s23 : Value) :: (s24 : Value) :: (s25 : Value) :: (s26 : Value) :: (s27 : Value) :: (s28 : Value) :: (s29 : Value) :: (s30 : Value) :: (s31 : Value) :: (s32 : Value) :: (s33 : Value) :: (s34 : Value) :: (s35 : Value) :: (s36 : Value) :: (s37 : Value) :: (s38 : Value) :: (s39 : Value) :: (s40 : Value) :: (s41 : Value) :: (s42 : Value) :: (s43 : Value) :: (s44 : Value) :: (s45 : Value) :: (s46 : Value) :: (s47 : Value) :: (s48 : Value) :: (s49 : Value) :: (s50 : Value) :: (s51 : Value) :: (s52 : Value) :: (s53 : Value) :: (s54 : Value) :: (s55 : Value) :: (s56 : Value) :: (s57 : Value) :: (s58 : Value) :: (s59 : Value) :: (s60 : Value) :: (s61 : Value) :: (s62 : Value) :: (s63 : Value) :: (s64 : Value) :: (s65 : Value) :: (s66 : Value) :: (s67 : Value) :: (s68 : Value) :: (s69 : Value) :: (s70 : Value) :: (s71 : Value) :: (s72 : Value) :: (s73 : Value) :: (s74 : Value) :: (s75 : Value) :: (s76 : Value) :: []), defers := [] } : Act) wr := by
 have HPc := Lib.hid hPc
 have HDc := Lib.hid hDc
 clear hPc hDc
 unfold pgiv2Ops
 have BD : Below wr.heap.size wr wr.drew := (Below.refl _ _).drew
 refine wp_region_noPanic ?_
 refine wp_region_anyE (S := fun wx => Below wr.heap.size wr wx) (E := fun _ => true) (by kernel_rfl) ?_
 have hHeld : Below wr.heap.size wr wr.drew := BD
 have HB := Lib.hid BD
 obtain ⟨Z0, hZ0⟩ : ∃ z, z = wr.drew := ⟨_, rfl⟩
 rw [← hZ0] at HB hHeld ⊢
 clear hZ0 BD
 refine AnyE.take (i := 0) (.pointer (some ⟨pB, 0, none⟩)) rfl (by kernel_rfl) (by kernel_rfl) (by kernel_rfl) (by kernel_rfl) (fun _ _ _ h => h) (.inl ⟨by kernel_rfl, fun wy hy => by (go_simp; done)⟩) hHeld ?_
 try simp only [Act.put, List.setIfInBounds_toArray, List.set_cons_zero, List.set_cons_succ]
 refine AnyE.take (i := 1) (.pointer (some ⟨pB, 0, none⟩)) rfl (by kernel_rfl) (by kernel_rfl) (by kernel_rfl) (by kernel_rfl) (fun _ _ _ h => h) (.inl ⟨by kernel_rfl, fun wy hy => by (go_simp; done)⟩) hHeld ?_
 try simp only [Act.put, List.setIfInBounds_toArray, List.set_cons_zero, List.set_cons_succ]
 refine AnyE.take (i := 2) (.pointer (some ⟨pB, 1, none⟩)) rfl (by kernel_rfl) (by kernel_rfl) (by kernel_rfl) (by kernel_rfl) (fun _ _ _ h => h) (.inl ⟨by kernel_rfl, fun wy hy => by (go_simp; done)⟩) hHeld ?_
 try simp only [Act.put, List.setIfInBounds_toArray, List.set_cons_zero, List.set_cons_succ]
 refine AnyE.take (i := 3) (.agg #[.slice a m c, .bool f]) rfl (by kernel_rfl) (by kernel_rfl) (by kernel_rfl) (by kernel_rfl) (fun _ _ _ h => h) (.inl ⟨by kernel_rfl, fun wy hy => by (have q0 := (hy.cell (p := ⟨pB, 1, none⟩) (World.block_lt_of_cell? _ _ HPc.out.1)).trans HPc.out.1; have q1 := (hy.cell (p := ⟨pB, 2, none⟩) (World.block_lt_of_cell? _ _ HPc.out.2)).trans HPc.out.2; go_simp; done)⟩) hHeld ?_
 try simp only [Act.put, List.setIfInBounds_toArray, List.set_cons_zero, List.set_cons_succ]
 refine AnyE.take (i := 4) (.agg #[x.vr, .int .i64 x.fam, x.vq, .int .i64 x.ts, .int .i64 x.seq, .int .i64 x.kind, x.vv]) rfl (by kernel_rfl) (by kernel_rfl) (by kernel_rfl) (by kernel_rfl) (fun _ _ _ h => h) (.inl ⟨by kernel_rfl, fun wy hy => by (have c0 := (hy.cell (p := ⟨b2, 0, none⟩) (World.block_lt_of_cell? _ _ HDc.out.1)).trans HDc.out.1; have c1 := (hy.cell (p := ⟨b2, 1, none⟩) (World.block_lt_of_cell? _ _ HDc.out.2.1)).trans HDc.out.2.1; have c2 := (hy.cell (p := ⟨b2, 2, none⟩) (World.block_lt_of_cell? _ _ HDc.out.2.2.1)).trans HDc.out.2.2.1; have c3 := (hy.cell (p := ⟨b2, 3, none⟩) (World.block_lt_of_cell? _ _ HDc.out.2.2.2.1)).trans HDc.out.2.2.2.1; have c4 := (hy.cell (p := ⟨b2, 4, none⟩) (World.block_lt_of_cell? _ _ HDc.out.2.2.2.2.1)).trans HDc.out.2.2.2.2.1; have c5 := (hy.cell (p := ⟨b2, 5, none⟩) (World.block_lt_of_cell? _ _ HDc.out.2.2.2.2.2.1)).trans HDc.out.2.2.2.2.2.1; have c6 := (hy.cell (p := ⟨b2, 6, none⟩) (World.block_lt_of_cell? _ _ HDc.out.2.2.2.2.2.2)).trans HDc.out.2.2.2.2.2.2; go_simp; done)⟩) hHeld ?_
 try simp only [Act.put, List.setIfInBounds_toArray, List.set_cons_zero, List.set_cons_succ]
 refine AnyE.twoF (i := 5) (j := 6) rfl rfl (by kernel_rfl) (by kernel_rfl) (by kernel_rfl) (fun KK hK => ?_) (fun KK hK => ?_)
 ·go_simp
  go_at_call 10
  refine (hA.out _ HB.out).mono ?_
  rintro e9 Z1 ⟨v, rfl, rd, rl, b1⟩
  obtain ⟨a', k', rfl⟩ := rd.slice
  obtain ⟨m', hm'⟩ : ∃ m', m' = (R.dropWhile p).length := ⟨_, rfl⟩
  rw [← hm'] at rd rl ⊢
  have HR := Lib.hid (And.intro rd (And.intro rl b1))
  have HZ := Lib.hid HB.out
  have HB := Lib.hid (HB.out.trans (b1.mono HB.out.size))
  clear rd rl b1 hm'
  go_wp2_with fail
  refine hK.out _ _ ⟨fun _ => HB.out, ?_⟩
  have hHeld := HB.out
  clear hK
  try simp only [Act.put, List.setIfInBounds_toArray, List.set_cons_zero, List.set_cons_succ]
  refine AnyE.one (i := 6) rfl (by kernel_rfl) (by kernel_rfl) (fun KK hK => ?_)
  go_simp
  have bA := (Below.refl Z1.heap.size Z1).alloc (Nat.le_refl _) (.cells #[.slice none 0 0] 27)
  have eA : Bxd (Z1.alloc (.cells #[.slice none 0 0] 27)) Z1.heap.size 27 (.slice none 0 0) := Bxd.new Z1 _ _
  have tA : (Z1.alloc (.cells #[.slice none 0 0] 27)).heap.size = Z1.heap.size + 1 := by simp
  obtain ⟨Z2, hZ⟩ : ∃ z, z = Z1.alloc (.cells #[.slice none 0 0] 27) := ⟨_, rfl⟩
  rw [← hZ] at bA eA tA ⊢
  clear hZ
  have HE := Lib.hid (And.intro eA (And.intro tA bA))
  have HA9 := Lib.hid HB.out
  have HB := Lib.hid (HB.out.trans (bA.mono HB.out.size))
  clear bA eA tA
  refine hK.out _ _ ⟨fun _ => HB.out, ?_⟩
  have hHeld := HB.out
  clear hK
  try simp only [Act.put, List.setIfInBounds_toArray, List.set_cons_zero, List.set_cons_succ]
  have HX9 := Lib.hid (HE.out.1)
  have z0 := HX9.out.cell
  have f0 := HX9.out.fz
  have HD9 := Lib.hid (gi2_of (HZ.out.trans ((HR.out.2.2.trans (HE.out.2.2.mono HR.out.2.2.size)).mono HZ.out.size)) (((hR.out.keptC (KpC.of_below HZ.out)).drop HR.out.2.2 HR.out.1 HR.out.2.1).keptC (KpC.of_below HE.out.2.2)) HE.out.1 (by have := HZ.out.size; have := HR.out.2.2.size; omega) hX.out)
  refine AnyE.one (i := 7) rfl (by kernel_rfl) (by kernel_rfl) (fun KK hK => ?_)
  go_simp
  refine hK.out _ _ ⟨fun _ => HD9.out.bel, ?_⟩
  clear hK z0 f0
  try simp only [Act.put, List.setIfInBounds_toArray, List.set_cons_zero, List.set_cons_succ]
  refine AnyE.done (by kernel_rfl) (NoPanic.normal ?_) _
  exact hQ.out _ _ _ _ _ HD9.out
 ·go_simp
  have bA := (Below.refl Z0.heap.size Z0).alloc (Nat.le_refl _) (.cells #[.slice none 0 0] 27)
  have eA : Bxd (Z0.alloc (.cells #[.slice none 0 0] 27)) Z0.heap.size 27 (.slice none 0 0) := Bxd.new Z0 _ _
  have tA : (Z0.alloc (.cells #[.slice none 0 0] 27)).heap.size = Z0.heap.size + 1 := by simp
  obtain ⟨Z1, hZ⟩ : ∃ z, z = Z0.alloc (.cells #[.slice none 0 0] 27) := ⟨_, rfl⟩
  rw [← hZ] at bA eA tA ⊢
  clear hZ
  have HE := Lib.hid (And.intro eA (And.intro tA bA))
  have HA9 := Lib.hid HB.out
  have HB := Lib.hid (HB.out.trans (bA.mono HB.out.size))
  clear bA eA tA
  refine hK.out _ _ ⟨fun _ => HB.out, ?_⟩
  have hHeld := HB.out
  clear hK
  try simp only [Act.put, List.setIfInBounds_toArray, List.set_cons_zero, List.set_cons_succ]
  refine AnyE.one (i := 5) rfl (by kernel_rfl) (by kernel_rfl) (fun KK hK => ?_)
  go_simp
  go_at_call 10
  refine (hA.out _ HB.out).mono ?_
  rintro e9 Z2 ⟨v, rfl, rd, rl, b1⟩
  obtain ⟨a', k', rfl⟩ := rd.slice
  obtain ⟨m', hm'⟩ : ∃ m', m' = (R.dropWhile p).length := ⟨_, rfl⟩
  rw [← hm'] at rd rl ⊢
  have HR := Lib.hid (And.intro rd (And.intro rl b1))
  have HZ := Lib.hid HB.out
  have HB := Lib.hid (HB.out.trans (b1.mono HB.out.size))
  clear rd rl b1 hm'
  go_wp2_with fail
  refine hK.out _ _ ⟨fun _ => HB.out, ?_⟩
  have hHeld := HB.out
  clear hK
  try simp only [Act.put, List.setIfInBounds_toArray, List.set_cons_zero, List.set_cons_succ]
  have HX9 := Lib.hid (Bxd.keep HE.out.1 (HR.out.2.2.block _ HE.out.1.lt))
  have z0 := HX9.out.cell
  have f0 := HX9.out.fz
  have HD9 := Lib.hid (gi2_of (HZ.out.trans (HR.out.2.2.mono HZ.out.size)) ((hR.out.keptC (KpC.of_below HZ.out)).drop HR.out.2.2 HR.out.1 HR.out.2.1) (Bxd.keep HE.out.1 (HR.out.2.2.block _ HE.out.1.lt)) HA9.out.size hX.out)
  refine AnyE.one (i := 7) rfl (by kernel_rfl) (by kernel_rfl) (fun KK hK => ?_)
  go_simp
  refine hK.out _ _ ⟨fun _ => HD9.out.bel, ?_⟩
  clear hK z0 f0
  try simp only [Act.put, List.setIfInBounds_toArray, List.set_cons_zero, List.set_cons_succ]
  refine AnyE.done (by kernel_rfl) (NoPanic.normal ?_) _
  exact hQ.out _ _ _ _ _ HD9.out
def pgiv4Ops : Array Oper := #[{ dst := some 26, op := Op.move (Operand.tmp 0), type := 24, pos := "law.go:174", after := #[], guard := none }, { dst := some 27, op := Op.nilCheck (Operand.tmp 26), type := 0, pos := "law.go:174", after := #[{ on := 0, ground := Ground.data }], guard := none }, { dst := some 28, op := Op.fieldAddr 31 (Operand.tmp 27) 0, type := 0, pos := "law.go:174", after := #[{ on := 1, ground := Ground.data }], guard := none }, { dst := some 29, op := Op.load 25 (Operand.tmp 28), type := 25, pos := "law.go:174", after := #[{ on := 2, ground := Ground.data }], guard := none }, { dst := some 30, op := Op.load 38 (Operand.tmp 11), type := 38, pos := "law.go:174", after := #[], guard := none }, { dst := some 31, op := Op.call { callee := Callee.value (Operand.func 7), args := #[Operand.tmp 29, Operand.tmp 30], argTypes := #[25, 38] }, type := 43, pos := "law.go:174", after := #[{ on := 3, ground := Ground.data }, { on := 4, ground := Ground.data }], guard := none }]
def Gi4 (wr Z : World) (tB : Nat) (x x0 : EntD) (Bt Bf : Nat) : Prop := wr.heap.size ≤ Bt ∧ Below wr.heap.size wr Z ∧ Bxd Z Bt 25 (.pointer (some ⟨tB, 0, none⟩)) ∧ EBox Z Bf x0 ∧ EntD.Same x0 { x with vv := .slice none 0 0, val := [] } ∧ EOk (fun i => Bt ≤ i) Z x0 ∧ (Bt + 2 ≤ Z.heap.size ∧ Bt + 2 ≤ Bf ∧ Bf < Z.heap.size)
set_option maxRecDepth 100000 in
set_option maxHeartbeats 16000000 in
theorem pgiv4_region {wr : World} {x : EntD} {pB tB b1 : Nat} {Q : Exit → Act → World → Prop} {s1 s2 s3 s4 s5 s6 s7 s8 s9 s10 s12 s13 s14 s15 s16 s17 s18 s19 s20 s21 s22 s23 s24 s25 s26 s27 s28 s29 s30 s31 s32 s33 s34 s35 s36 s37 s38 s39 s40 s41 s42 s43 s44 s45 s46 s47 s48 s49 s50 s51 s52 s53 s54 s55 s56 s57 s58 s59 s60 s61 s62 s63 s64 s65 s66 s67 s68 s69 s70 s71 s72 s73 s74 s75 s76 : Value}
  (hPc : wr.cell? ⟨pB, 0, none⟩ = some (.pointer (some ⟨tB, 0, none⟩))) (hDc : wr.cell? ⟨b1, 0, none⟩ = some (x.vr) ∧ wr.cell? ⟨b1, 1, none⟩ = some (.int .i64 x.fam) ∧ wr.cell? ⟨b1, 2, none⟩ = some (x.vq) ∧ wr.cell? ⟨b1, 3, none⟩ = some (.int .i64 x.ts) ∧ wr.cell? ⟨b1, 4, none⟩ = some (.int .i64 x.seq) ∧ wr.cell? ⟨b1, 5, none⟩ = some (.int .i64 x.kind) ∧ wr.cell? ⟨b1, 6, none⟩ = some (x.vv))
  (hA : Hid (∀ Z, Below wr.heap.size wr Z → Calls Tryz.prog 7 #[.pointer (some ⟨tB, 0, none⟩), .agg #[x.vr, .int .i64 x.fam, x.vq, .int .i64 x.ts, .int .i64 x.seq, .int .i64 x.kind, x.vv]] Z (fun z w' => ∃ Bf x0, z = .returned (.func (.func 25) #[] #[.pointer (some ⟨Z.heap.size, 0, none⟩), .pointer (some ⟨Bf, 0, none⟩)]) ∧ Bxd w' Z.heap.size 25 (.pointer (some ⟨tB, 0, none⟩)) ∧ EBox w' Bf x0 ∧ EntD.Same x0 { x with vv := .slice none 0 0, val := [] } ∧ EOk (fun i => Z.heap.size ≤ i) w' x0 ∧ Below Z.heap.size Z w' ∧ Z.heap.size + 2 ≤ w'.heap.size ∧ Z.heap.size + 2 ≤ Bf ∧ Bf < w'.heap.size)))
  (hQ : Hid (∀ (Bt Bf : Nat) (x0 : EntD) (Zs Z : World), Gi4 wr Z tB x x0 Bt Bf → Q .normal ({ tmps := List.toArray ((.pointer (some ⟨pB, 0, none⟩) : Value) :: (s1 : Value) :: (s2 : Value) :: (s3 : Value) :: (s4 : Value) :: (s5 : Value) :: (s6 : Value) :: (s7 : Value) :: (s8 : Value) :: (s9 : Value) :: (s10 : Value) :: (.pointer (some ⟨b1, 0, none⟩) : Value) :: (s12 : Value) :: (s13 : Value) :: (s14 : Value) :: (s15 : Value) :: (s16 : Value) :: (s17 : Value) :: (s18 : Value) :: (s19 : Value) :: (s20 : Value) :: (s21 : Value) :: (s22 : Value) :: (s23 : Value) :: (s24 : Value) :: (s25 : Value) :: (.pointer (some ⟨pB, 0, none⟩) : Value) :: (.pointer (some ⟨pB, 0, none⟩) : Value) :: (.pointer (some ⟨pB, 0, none⟩) : Value) :: (.pointer (some ⟨tB, 0, none⟩) : Value) :: (.agg #[x.vr, .int .i64 x.fam, x.vq, .int .i64 x.ts, .int .i64 x.seq, .int .i64 x.kind, x.vv] : Value) :: ((.func (.func 25) #[] #[.pointer (some ⟨Bt, 0, none⟩), .pointer (some ⟨Bf, 0, none⟩)]) : Value) :: (s32 : Value) :: (s33 : Value) :: (s34 : Value) :: (s35 : Value) :: (s36 : Value) :: (s37 : Value) :: (s38 : Value) :: (s39 : Value) :: (s40 : Value) :: (s41 : Value) :: (s42 : Value) :: (s43 : Value) :: (s44 : Value) :: (s45 : Value) :: (s46 : Value) :: (s47 : Value) :: (s48 : Value) :: (s49 : Value) :: (s50 : Value) :: (s51 : Value) :: (s52 : Value) :: (s53 : Value) :: (s54 : Value) :: (s55 : Value) :: (s56 : Value) :: (s57 : Value) :: (s58 : Value) :: (s59 : Value) :: (s60 : Value) :: (s61 : Value) :: (s62 : Value) :: (s63 : Value) :: (s64 : Value) :: (s65 : Value) :: (s66 : Value) :: (s67 : Value) :: (s68 : Value) :: (s69 : Value) :: (s70 : Value) :: (s71 : Value) :: (s72 : Value) :: (s73 : Value) :: (s74 : Value) :: (s75 : Value) :: (s76 : Value) :: []), defers := [] } : Act) Z)) : Code.wp Tryz.prog (Code.region 4 pgiv4Ops true) Q ({ tmps := List.toArray ((.pointer (some ⟨pB, 0, none⟩) : Value) :: (s1 : Value) :: (s2 : Value) :: (s3 : Value) :: (s4 : Value) :: (s5 : Value) :: (s6 : Value) :: (s7 : Value) :: (s8 : Value) :: (s9 : Value) :: (s10 : Value) :: (.pointer (some ⟨b1, 0, none⟩) : Value) :: (s12 : Value) :: (s13 : Value) :: (s14 : Value) :: (s15 : Value) :: (s16 : Value) :: (s17 : Value) :: (s18 : Value) :: (s19 : Value) :: (s20 : Value) :: (s21 : Value) :: (s22 : Value) :: (s23 : Value) :: (s24 : Value) :: (s25 : Value) :: (s26 : Value) :: (s27 : Value) :: (s28 : Value) :: (s29 : Value) :: (s30 : Value) :: (s31 : Value) :: (s32 : Value) :: (s33 : Value) :: (s34 : Value) :: (s35 : Value) :: (s36 : Value) :: (s37 : Value) :: (s38 : Value) :: (s39 : Value) :: (s40 : Value) :: (s41 : Value) :: (s42 : Value) :: (s43 : Value) :: (s44 : Value) :: (s45 : Value) :: (s46 : Value) :: (s47 : Value) :: (s48 : Value) :: (s49 : Value) :: (s50 : Value) :: (s51 : Value) :: (s52 : Value) :: (s53 : Value) :: (s54 : Value) :: (s55 : Value) :: (s56 : Value) :: (s57 : Value) :: (s58 : Value) :: (s59 : Value) :: (s60 : Value) :: (s61 : Value) :: (s62 : Value) :: (s63 : Value) :: (s64 : Value) :: (s65 : Value) :: (s66 : Value) :: (s67 : Value) :: (s68 : Value) :: (s69 : Value) :: (s70 : Value) :: (s71 : Value) :: (s72 : Value) :: (s73 : Value) :: (s74 : Value) :: (s75 : Value) :: (s76 : Value) :: []), defers := [] } : Act) wr := by
 have HPc := Lib.hid hPc
 have HDc := Lib.hid hDc
 clear hPc hDc
 unfold pgiv4Ops
 have BD : Below wr.heap.size wr wr.drew := (Below.refl _ _).drew
 refine wp_region_noPanic ?_
 refine wp_region_anyE (S := fun wx => Below wr.heap.size wr wx) (E := fun _ => true) (by kernel_rfl) ?_
 have hHeld : Below wr.heap.size wr wr.drew := BD
 have HB := Lib.hid BD
 obtain ⟨Z0, hZ0⟩ : ∃ z, z = wr.drew := ⟨_, rfl⟩
 rw [← hZ0] at HB hHeld ⊢
 clear hZ0 BD
 refine AnyE.take (i := 0) (.pointer (some ⟨pB, 0, none⟩)) rfl (by kernel_rfl) (by kernel_rfl) (by kernel_rfl) (by kernel_rfl) (fun _ _ _ h => h) (.inl ⟨by kernel_rfl, fun wy hy => by (go_simp; done)⟩) hHeld ?_
 try simp only [Act.put, List.setIfInBounds_toArray, List.set_cons_zero, List.set_cons_succ]
 refine AnyE.take (i := 1) (.pointer (some ⟨pB, 0, none⟩)) rfl (by kernel_rfl) (by kernel_rfl) (by kernel_rfl) (by kernel_rfl) (fun _ _ _ h => h) (.inl ⟨by kernel_rfl, fun wy hy => by (go_simp; done)⟩) hHeld ?_
 try simp only [Act.put, List.setIfInBounds_toArray, List.set_cons_zero, List.set_cons_succ]
 refine AnyE.take (i := 2) (.pointer (some ⟨pB, 0, none⟩)) rfl (by kernel_rfl) (by kernel_rfl) (by kernel_rfl) (by kernel_rfl) (fun _ _ _ h => h) (.inl ⟨by kernel_rfl, fun wy hy => by (go_simp; done)⟩) hHeld ?_
 try simp only [Act.put, List.setIfInBounds_toArray, List.set_cons_zero, List.set_cons_succ]
 refine AnyE.take (i := 3) (.pointer (some ⟨tB, 0, none⟩)) rfl (by kernel_rfl) (by kernel_rfl) (by kernel_rfl) (by kernel_rfl) (fun _ _ _ h => h) (.inl ⟨by kernel_rfl, fun wy hy => by (have q0 := (hy.cell (p := ⟨pB, 0, none⟩) (World.block_lt_of_cell? _ _ HPc.out)).trans HPc.out; go_simp; done)⟩) hHeld ?_
 try simp only [Act.put, List.setIfInBounds_toArray, List.set_cons_zero, List.set_cons_succ]
 refine AnyE.take (i := 4) (.agg #[x.vr, .int .i64 x.fam, x.vq, .int .i64 x.ts, .int .i64 x.seq, .int .i64 x.kind, x.vv]) rfl (by kernel_rfl) (by kernel_rfl) (by kernel_rfl) (by kernel_rfl) (fun _ _ _ h => h) (.inl ⟨by kernel_rfl, fun wy hy => by (have c0 := (hy.cell (p := ⟨b1, 0, none⟩) (World.block_lt_of_cell? _ _ HDc.out.1)).trans HDc.out.1; have c1 := (hy.cell (p := ⟨b1, 1, none⟩) (World.block_lt_of_cell? _ _ HDc.out.2.1)).trans HDc.out.2.1; have c2 := (hy.cell (p := ⟨b1, 2, none⟩) (World.block_lt_of_cell? _ _ HDc.out.2.2.1)).trans HDc.out.2.2.1; have c3 := (hy.cell (p := ⟨b1, 3, none⟩) (World.block_lt_of_cell? _ _ HDc.out.2.2.2.1)).trans HDc.out.2.2.2.1; have c4 := (hy.cell (p := ⟨b1, 4, none⟩) (World.block_lt_of_cell? _ _ HDc.out.2.2.2.2.1)).trans HDc.out.2.2.2.2.1; have c5 := (hy.cell (p := ⟨b1, 5, none⟩) (World.block_lt_of_cell? _ _ HDc.out.2.2.2.2.2.1)).trans HDc.out.2.2.2.2.2.1; have c6 := (hy.cell (p := ⟨b1, 6, none⟩) (World.block_lt_of_cell? _ _ HDc.out.2.2.2.2.2.2)).trans HDc.out.2.2.2.2.2.2; go_simp; done)⟩) hHeld ?_
 try simp only [Act.put, List.setIfInBounds_toArray, List.set_cons_zero, List.set_cons_succ]
 refine AnyE.one (i := 5) rfl (by kernel_rfl) (by kernel_rfl) (fun KK hK => ?_)
 go_simp
 go_at_call 7
 refine (hA.out _ HB.out).mono ?_
 rintro e9 w1 ⟨Bf, x0, rfl, k1, k2, k3, k4, k5, k6⟩
 have HR := Lib.hid (And.intro k1 (And.intro k2 (And.intro k3 (And.intro k4 k6))))
 have HZ := Lib.hid HB.out
 have HB := Lib.hid (HB.out.trans (k5.mono HB.out.size))
 clear k1 k2 k3 k4 k5 k6
 go_wp2_with fail
 refine hK.out _ _ ⟨fun _ => HB.out, ?_⟩
 clear hK
 try simp only [Act.put, List.setIfInBounds_toArray, List.set_cons_zero, List.set_cons_succ]
 refine AnyE.done (by kernel_rfl) (NoPanic.normal ?_) _
 exact hQ.out _ _ _ wr _ ⟨HZ.out.size, HB.out, HR.out⟩
end Go.Proofs.YtpabbnddeklpdaaGreat
