import Derived.Test.YtnjopfdeapclhaaM39
import Derived.Test.YtnjopfdeapclhaaM36
namespace Go.Proofs.Ytnjopfdeapclhaa
open Go.RowKit Go.Shelf
set_option linter.unusedVariables false

theorem cmp_same {a b c d : EntD} (h : EntD.Same a c) (k : EntD.Same b d) : compareS a b = compareS c d := compareS_same h k
/-- The spot of an entry in one list is its spot in the other. -/
theorem Spot.sm {R L : List EntD} {e D : EntD} {t : Nat} (h : Spot R e t) (hs : Sm R L) (hd : EntD.Same D e) : Spot L D t := by
  refine ⟨by rw [← hs.len]; exact h.le, fun y hy => ?_, fun x hx => ?_⟩
  · obtain ⟨j, hj⟩ := List.getElem?_of_mem hy
    have hjt : j < (R.take t).length := by
      have := (List.getElem?_eq_some_iff.1 hj).1
      rw [List.length_take] at this ⊢
      rw [hs.len]; exact this
    obtain ⟨a, b, h1, h2, h3⟩ := (hs.take t).at hjt
    rw [h2] at hj; cases hj
    rw [← cmp_same h3 hd.symm]
    exact h.lt a (List.mem_of_getElem? h1)
  · have ht : t < R.length := by rw [hs.len]; exact (List.getElem?_eq_some_iff.1 hx).1
    obtain ⟨a, b, h1, h2, h3⟩ := hs.at ht
    rw [h2] at hx; cases hx
    rw [← cmp_same h3 hd.symm]
    exact h.ge a h1
/-- In an ordered list an entry is there just if it is at its spot. -/
theorem spot_there {L : List EntD} {D : EntD} {t : Nat} (hl : Srt L) (sp : Spot L D t) {y : EntD} (hy : y ∈ L) (h0 : compareS D y = 0) : ∃ x, L[t]? = some x ∧ compareS x D = 0 := by
  have h0' : compareS y D = 0 := by rw [compareS_swap, h0]; rfl
  obtain ⟨j, hj⟩ := List.getElem?_of_mem hy
  obtain ⟨hjl, hje⟩ := List.getElem?_eq_some_iff.1 hj
  by_cases h1 : j < t
  · have := sp.lt y (by
      rw [List.mem_iff_getElem?]
      exact ⟨j, by rw [List.getElem?_take, if_pos h1]; exact hj⟩)
    omega
  · by_cases h2 : j = t
    · subst h2; exact ⟨y, hj, h0'⟩
    · have htl : t < L.length := by omega
      have hx : L[t]? = some L[t] := by simp [htl]
      have h3 := sp.ge _ hx
      have h4 : compareS L[t] y < 0 := by
        have := List.pairwise_iff_getElem.1 hl t j htl hjl (by omega)
        rw [hje] at this; exact this
      have h5 : compareS y L[t] = - compareS L[t] y := compareS_swap _ _
      have h6 := compareS_tri L[t] y D
      unfold Tri at h6
      exfalso
      omega
theorem spot_ins {L A B : List EntD} {D x : EntD} {t : Nat} (sp : Spot L D t) (hL : L = A ++ B) (hs : Srt (A ++ x :: B)) (hx : EntD.Same x D) : t = A.length := by
  have hA : ∀ a ∈ A, compareS a D < 0 := fun a ha => by
    have := (List.pairwise_append.1 hs).2.2 a ha x (by simp)
    rwa [cmp_same (EntD.Same.rfl' a) hx] at this
  have hB : ∀ b ∈ B, compareS D b < 0 := fun b hb => by
    have := (List.pairwise_cons.1 (List.pairwise_append.1 hs).2.1).1 b hb
    rwa [cmp_same hx (EntD.Same.rfl' b)] at this
  by_cases h1 : t < A.length
  · have h2 : L[t]? = some A[t] := by rw [hL, List.getElem?_append_left h1]; simp [h1]
    exact absurd (hA _ (List.getElem_mem h1)) (sp.ge _ h2)
  · by_cases h2 : t = A.length
    · exact h2
    · have h3 := sp.le
      rw [hL, List.length_append] at h3
      have hb : 0 < B.length := by omega
      have h4 := sp.lt B[0] (by
        rw [List.mem_iff_getElem?]
        refine ⟨A.length, ?_⟩
        rw [List.getElem?_take, if_pos (by omega), hL, List.getElem?_append_right (Nat.le_refl _)]
        simp [hb])
      have h5 := hB B[0] (List.getElem_mem hb)
      have h6 : compareS B[0] D = - compareS D B[0] := compareS_swap _ _
      omega

/-- Both Adds answer the same, and the lists stay the same. -/
theorem both_add {R L R' L' : List EntD} {D e : EntD} {c c' : Nat} (hs : Sm R L) (hl : Srt L) (hde : EntD.Same D e)
    (ht : (checkS D ≠ 0 ∧ c = checkS D ∧ L' = L) ∨ (checkS D = 0 ∧ (∃ y ∈ L, compareS D y = 0) ∧ c = 80 ∧ L' = L) ∨ (c = 0 ∧ checkS D = 0 ∧ (¬ ∃ y ∈ L, compareS D y = 0) ∧ ∃ A B x, L = A ++ B ∧ EntD.Same x D ∧ L' = A ++ x :: B ∧ Srt (A ++ x :: B)))
    (hr : (checkS e ≠ 0 ∧ c' = checkS e ∧ R' = R) ∨ (checkS e = 0 ∧ ∃ t, Spot R e t ∧ ((c' = 80 ∧ R' = R ∧ ∃ x, R[t]? = some x ∧ compareS x e = 0) ∨ (c' = 0 ∧ (∀ x, R[t]? = some x → compareS x e ≠ 0) ∧ ∃ x, EntD.Same x e ∧ R' = R.take t ++ x :: R.drop t)))) : c = c' ∧ Sm R' L' := by
  have hce : checkS D = checkS e := checkS_same hde
  rcases ht with ⟨h1, rfl, rfl⟩ | ⟨h1, ⟨y, hy, hy0⟩, rfl, rfl⟩ | ⟨rfl, h1, h2, A, B, x, h3, h4, rfl, h5⟩
  · rcases hr with ⟨k1, rfl, rfl⟩ | ⟨k1, _⟩
    · exact ⟨hce, hs⟩
    · exact absurd (hce.trans k1) h1
  · rcases hr with ⟨k1, _⟩ | ⟨k1, t, sp, ⟨rfl, rfl, _⟩ | ⟨rfl, k2, _⟩⟩
    · omega
    · exact ⟨rfl, hs⟩
    · exfalso
      obtain ⟨z, z1, z2⟩ := spot_there hl (sp.sm hs hde) hy hy0
      have ht : t < R.length := by rw [hs.len]; exact (List.getElem?_eq_some_iff.1 z1).1
      obtain ⟨a, b, h1, h2, h3⟩ := hs.at ht
      rw [h2] at z1; cases z1
      exact k2 a h1 (by rw [cmp_same h3 hde.symm]; exact z2)
  · rcases hr with ⟨k1, _⟩ | ⟨k1, t, sp, ⟨_, _, z, z1, z2⟩ | ⟨rfl, k2, x', e1, rfl⟩⟩
    · omega
    · exfalso
      have ht : t < R.length := (List.getElem?_eq_some_iff.1 z1).1
      obtain ⟨a, b, q1, q2, q3⟩ := hs.at ht
      rw [q1] at z1; cases z1
      refine h2 ⟨b, List.mem_of_getElem? q2, ?_⟩
      rw [compareS_swap, ← cmp_same q3 hde.symm, z2]; rfl
    · refine ⟨rfl, ?_⟩
      have hA := spot_ins (sp.sm hs hde) h3 h5 h4
      subst h3
      have e2 : Sm (R.take t) A := by have := hs.take t; rw [hA, List.take_left] at this; rw [hA]; exact this
      have e3 : Sm (R.drop t) B := by have := hs.drop t; rw [hA, List.drop_left] at this; rw [hA]; exact this
      exact Sm.app e2 ⟨e1.trans (hde.symm.trans h4.symm), e3⟩
end Go.Proofs.Ytnjopfdeapclhaa

namespace Go.Proofs.Ytnjopfdeapclhaa
open Go.RowKit Go.Shelf
set_option linter.unusedVariables false

set_option maxRecDepth 100000 in
set_option maxHeartbeats 4000000 in
theorem from_ans2 {w : World} {e : EntD} {v : Option Addr} (he : EntD.Ok w e) (hl : e.row.length ≤ 140737488355328 ∧ e.qual.length ≤ 140737488355328) :
    Calls Try.prog 27 #[.pointer v, .agg e.cells] w fun z w' => ∃ Bf x, z = .returned (.func (.func 50) #[] #[.pointer (some ⟨w.heap.size, 0, none⟩), .pointer (some ⟨Bf, 0, none⟩)]) ∧ Bxd w' w.heap.size 24 (.pointer v) ∧ EBox w' Bf x ∧ EntD.Same x { e with vv := .slice none 0 0, val := [] } ∧ EOk (fun i => w.heap.size ≤ i) w' x ∧ Below w.heap.size w w' ∧ w.heap.size + 2 ≤ w'.heap.size ∧ w.heap.size + 2 ≤ Bf ∧ Bf < w'.heap.size := by
  have A1 := (Below.refl w.heap.size w).alloc (Nat.le_refl _) (.cells #[.pointer v] 24)
  obtain ⟨d, hd⟩ : ∃ d : EntD, d = { e with vv := .slice none 0 0, val := [] } := ⟨_, rfl⟩
  have A2 := A1.alloc A1.size (.cells d.cells 30)
  have hed : EntD.Ok ((w.alloc (.cells #[.pointer v] 24)).alloc (.cells d.cells 30)) d := by
    rw [hd]
    rw [hd] at A2
    exact ⟨he.1.later A2, he.2.1.later A2, Rd.nil _⟩
  have HC : Hid (Calls Try.prog 34 _ _ _) := copyOf_any hed (by rw [hd]; exact ⟨hl.1, hl.2, by simp⟩)
  have HZ : Hid (Bxd ((w.alloc (.cells #[.pointer v] 24)).alloc (.cells d.cells 30)) w.heap.size 24 (.pointer v) ∧ ((w.alloc (.cells #[.pointer v] 24)).alloc (.cells d.cells 30)).heap.size = w.heap.size + 2) := ⟨(Bxd.new w _ _).keep (Below.heap_alloc _ _ _ (by simp)), by simp⟩
  have HA : Hid (Below w.heap.size w ((w.alloc (.cells #[.pointer v] 24)).alloc (.cells d.cells 30))) := A2
  obtain ⟨ar, nr, cr, e1⟩ := rd_slice he.1
  obtain ⟨aq, nq, cq, e2⟩ := rd_slice he.2.1
  obtain ⟨av, nv, cv, e3⟩ := rd_slice he.2.2
  have ed : d.cells = #[e.vr, .int .i64 e.fam, e.vq, .int .i64 e.ts, .int .i64 e.seq, .int .i64 e.kind, .slice none 0 0] := by rw [hd]; rfl
  have HD : Hid (∀ x, EntD.Same x d → EntD.Same x { e with vv := .slice none 0 0, val := [] }) := fun x h => by rw [← hd]; exact h
  rw [ed] at HC HA HZ
  unfold EntD.cells
  rw [e1, e2] at HC HA HZ
  rw [e1, e2, e3]
  clear A1 A2 he hl hed ed hd e1 e2 e3
  go_enter Try.func27, Try.ntmps27
  go_wp2_with fail
  refine Calls.mono HC.out ?_
  rintro z w1 ⟨x, rfl, hsm, hx, hb⟩
  have hsx := Lib.hid (HD.out _ hsm)
  have B1 := HA.out.trans (hb.mono HA.out.size)
  have z1 := Lib.hid (HZ.out.1.keep (hb.block _ HZ.out.1.lt))
  have z2 := Lib.hid (Nat.le_trans (Nat.le_of_eq HZ.out.2.symm) hb.size)
  have HX : Hid (EOk (fun i => w.heap.size ≤ i) (w1.alloc (.cells x.cells 30)) x) := (hx.mono (fun i hi => Nat.le_trans HA.out.size hi)).kept (KpG.of ((Below.refl w1.heap.size w1).alloc (Nat.le_refl _) _))
  have HE : Hid (EBox (w1.alloc (.cells x.cells 30)) w1.heap.size x) := EBox.new w1 x
  obtain ⟨br, mr, dr, e1⟩ := rd_slice hx.ok.1
  obtain ⟨bq, mq, dq, e2⟩ := rd_slice hx.ok.2.1
  obtain ⟨bv, mv, dv, e3⟩ := rd_slice hx.ok.2.2
  have ex : x.cells = #[.slice br mr dr, .int .i64 x.fam, .slice bq mq dq, .int .i64 x.ts, .int .i64 x.seq, .int .i64 x.kind, .slice bv mv dv] := by unfold EntD.cells; rw [e1, e2, e3]
  rw [ex] at HX HE ⊢
  clear hx hb HC HA HD HZ hsm e1 e2 e3 ex
  go_wp2
  go_ret
  refine ⟨_, x, rfl, z1.out.keep (Below.heap_alloc _ _ _ z1.out.lt), HE.out, hsx.out, HX.out, B1.alloc B1.size _, ?_, z2.out, ?_⟩
  · rw [World.size_alloc]
    have := z2.out
    omega
  · rw [World.size_alloc]
    omega

theorem Laid.rdG {G : Nat → Prop} {w : World} {B : Nat} {u : Value} {bs : List Nat} (h : Laid w B u bs) (hb : Bys bs) (hl : bs.length ≤ 140737488355328) (hG : ∀ g, u.ownBlock = some g → G g) : RdG G w u bs := by
  refine ⟨h.rd hb hl, fun b off m c e hm => ?_⟩
  obtain ⟨g, c', rfl, h2, h3, h4⟩ := h
  cases e
  refine ⟨hG _ rfl, ?_⟩
  rcases h4.2.2 with ⟨h1, h5⟩ | ⟨g', cp, cur, h1, _, h5, _⟩
  · cases h1
  · cases h1
    exact ⟨cur, _, h5⟩
theorem LaidE.eok {G : Nat → Prop} {w : World} {B : Nat} {D : EntD} (h : LaidE w B D) (k : EntD.Fine D) (hG : ∀ g, D.vr.ownBlock = some g ∨ D.vq.ownBlock = some g ∨ D.vv.ownBlock = some g → G g) : EOk G w D :=
  ⟨h.1.rdG k.1.1 (by have := k.1.2; omega) (fun g e => hG g (.inl e)), h.2.1.rdG k.2.1.1 (by have := k.2.1.2; omega) (fun g e => hG g (.inr (.inl e))), h.2.2.rdG k.2.2.1 (by have := k.2.2.2; omega) (fun g e => hG g (.inr (.inr e)))⟩
theorem LaidE.far {w w' : World} {B : Nat} {D : EntD} {s : Option Nat} (h : LaidE w B D) (k : w.grownBy w' s) (hs : ∀ g, s = some g → D.vr.ownBlock ≠ some g ∧ D.vq.ownBlock ≠ some g ∧ D.vv.ownBlock ≠ some g) : LaidE w' B D :=
  ⟨h.1.far k (fun g e => (hs g e).1), h.2.1.far k (fun g e => (hs g e).2.1), h.2.2.far k (fun g e => (hs g e).2.2)⟩

/-- Where all that lies. -/
structure Nm (tB rB gr gq gv iB fB qB xB B : Nat) : Prop where
  r : tB < rB
  g1 : rB < gr ∧ rB < gq ∧ rB < gv
  g2 : gr < iB ∧ gq < iB ∧ gv < iB
  ap : gr ≠ gq ∧ gr ≠ gv ∧ gq ≠ gv
  f : iB < fB
  q : fB < qB
  x : qB < xB
  B : xB < B
/-- What stands ahead of each round of MemAgain. -/
structure Am (w : World) (tB rB gr nr cr gq nq cq gv nv cv iB fB qB xB B : Nat) (F x0 : EntD) (X : World) (L R : List EntD) (rv : Value) (D : EntD) : Prop where
  tab : Tb (fun i => B ≤ i) X tB L ((pk L : Nat) : Int) false
  ref : LB X B rv R
  rb : RBx X rB rv false
  ib : EBox X iB D
  lD : LaidE X (rB + 1) D
  fD : EntD.Fine D
  vr : D.vr = .slice (some ⟨gr, 0, none⟩) nr cr
  vq : D.vq = .slice (some ⟨gq, 0, none⟩) nq cq
  vv : D.vv = .slice (some ⟨gv, 0, none⟩) nv cv
  fb : EBox X fB F
  oF : EOk (fun i => iB < i) X F
  qb : Bxd X qB 24 (.pointer (some ⟨tB, 0, none⟩))
  xb : EBox X xB x0
  ox : EOk (fun i => iB < i) X x0
  below : Below w.heap.size w X
  size : B ≤ X.heap.size
  tw : w.heap.size < tB
variable {w X Y : World} {tB rB gr nr cr gq nq cq gv nv cv iB fB qB xB B : Nat} {F x0 D : EntD} {L R : List EntD} {rv : Value}
theorem Am.own (h : Am w tB rB gr nr cr gq nq cq gv nv cv iB fB qB xB B F x0 X L R rv D) : D.vr.ownBlock = some gr ∧ D.vq.ownBlock = some gq ∧ D.vv.ownBlock = some gv := by
  rw [h.vr, h.vq, h.vv]; exact ⟨rfl, rfl, rfl⟩
theorem Am.below2 {s : Option Nat} (h : Am w tB rB gr nr cr gq nq cq gv nv cv iB fB qB xB B F x0 X L R rv D) (k : X.grownBy Y s) (hs : ∀ g, s = some g → w.heap.size ≤ g) : Below w.heap.size w Y := h.below.grown k h.below.size hs
theorem Am.later (n : Nm tB rB gr gq gv iB fB qB xB B) (h : Am w tB rB gr nr cr gq nq cq gv nv cv iB fB qB xB B F x0 X L R rv D) (k : Below X.heap.size X Y) : Am w tB rB gr nr cr gq nq cq gv nv cv iB fB qB xB B F x0 Y L R rv D :=
  ⟨h.tab.later k, h.ref.later k, h.rb.later k, h.ib.later k, h.lD.later k, h.fD, h.vr, h.vq, h.vv, h.fb.later k, h.oF.kept (KpG.of k), h.qb.keep (k.block _ h.qb.lt), h.xb.later k, h.ox.kept (KpG.of k), h.below.trans (k.mono h.below.size), Nat.le_trans h.size k.size, h.tw⟩
/-- The table's block is changed. -/
theorem Am.add {L' : List EntD} (n : Nm tB rB gr gq gv iB fB qB xB B) (h : Am w tB rB gr nr cr gq nq cq gv nv cv iB fB qB xB B F x0 X L R rv D) (k : X.grownBy Y (some tB)) (t : Tb (fun i => B ≤ i) Y tB L' ((pk L' : Nat) : Int) false) : Am w tB rB gr nr cr gq nq cq gv nv cv iB fB qB xB B F x0 Y L' R rv D := by
  obtain ⟨n1, n2, n3, n4, n5, n6, n7, n8⟩ := n
  obtain ⟨o1, o2, o3⟩ := h.own
  have hne : ∀ {b}, tB < b → (some tB : Option Nat) ≠ some b := fun hb e => by cases e; omega
  refine ⟨t, h.ref.far k (fun g e => by cases e; omega), h.rb.far k (hne n1), h.ib.far' k (hne (by omega)), h.lD.far k (fun g e => ?_), h.fD, h.vr, h.vq, h.vv, h.fb.far' k (hne (by omega)), h.oF.far k (fun g e => by cases e; omega), h.qb.far k (hne (by omega)), h.xb.far' k (hne (by omega)), h.ox.far k (fun g e => by cases e; omega), h.below2 k (fun g e => by cases e; have := h.tw; omega), Nat.le_trans h.size k.size, h.tw⟩
  cases e
  rw [o1, o2, o3]
  refine ⟨fun e => ?_, fun e => ?_, fun e => ?_⟩ <;> (cases e; omega)
/-- The reference's box is changed. -/
theorem Am.setR {rv' : Value} {R' : List EntD} (n : Nm tB rB gr gq gv iB fB qB xB B) (h : Am w tB rB gr nr cr gq nq cq gv nv cv iB fB qB xB B F x0 X L R rv D) (k : X.grownBy Y (some rB)) (r : RBx Y rB rv' false) (hl : LB X B rv' R') : Am w tB rB gr nr cr gq nq cq gv nv cv iB fB qB xB B F x0 Y L R' rv' D := by
  obtain ⟨n1, n2, n3, n4, n5, n6, n7, n8⟩ := n
  obtain ⟨o1, o2, o3⟩ := h.own
  have hne : ∀ {b}, rB < b → (some rB : Option Nat) ≠ some b := fun hb e => by cases e; omega
  refine ⟨h.tab.far k (fun x e => by cases e; omega), hl.far k (fun g e => by cases e; omega), r, h.ib.far' k (hne (by omega)), h.lD.far k (fun g e => ?_), h.fD, h.vr, h.vq, h.vv, h.fb.far' k (hne (by omega)), h.oF.far k (fun g e => by cases e; omega), h.qb.far k (hne (by omega)), h.xb.far' k (hne (by omega)), h.ox.far k (fun g e => by cases e; omega), h.below2 k (fun g e => by cases e; have := h.tw; omega), Nat.le_trans h.size k.size, h.tw⟩
  cases e
  rw [o1, o2, o3]
  refine ⟨fun e => ?_, fun e => ?_, fun e => ?_⟩ <;> (cases e; omega)
/-- The entry's bytes are changed. -/
theorem Am.turn {D' : EntD} {s : Option Nat} (n : Nm tB rB gr gq gv iB fB qB xB B) (h : Am w tB rB gr nr cr gq nq cq gv nv cv iB fB qB xB B F x0 X L R rv D) (k : X.grownBy Y s) (hs : s = none ∨ s = some gr ∨ s = some gq ∨ s = some gv) (lD : LaidE Y (rB + 1) D') (fD : EntD.Fine D') (e1 : D'.vr = .slice (some ⟨gr, 0, none⟩) nr cr) (e2 : D'.vq = .slice (some ⟨gq, 0, none⟩) nq cq) (e3 : D'.vv = .slice (some ⟨gv, 0, none⟩) nv cv) {Z : World} (kz : Y.grownBy Z (some iB)) (ib : EBox Z iB D') : Am w tB rB gr nr cr gq nq cq gv nv cv iB fB qB xB B F x0 Z L R rv D' := by
  obtain ⟨n1, n2, n3, n4, n5, n6, n7, n8⟩ := n
  have hr : ∀ g, s = some g → rB < g ∧ g < iB := fun g e => by
    rcases hs with h | h | h | h <;> (rw [h] at e; cases e) <;> omega
  have hne : ∀ {b}, (b ≤ rB ∨ iB ≤ b) → s ≠ some b := fun hb e => by have := hr _ e; omega
  have hni : ∀ {b}, b ≠ iB → (some iB : Option Nat) ≠ some b := fun hb e => by cases e; exact hb rfl
  refine ⟨(h.tab.far k (fun x e => by have := hr x e; omega)).far kz (fun x e => by cases e; omega), (h.ref.far k (fun g e => by have := hr g e; omega)).far kz (fun g e => by cases e; omega), (h.rb.far k (hne (by omega))).far kz (hni (by omega)), ib, lD.far kz (fun g e => ?_), fD, e1, e2, e3, (h.fb.far' k (hne (by omega))).far' kz (hni (by omega)), (h.oF.far k (fun g e => by have := hr g e; omega)).far kz (fun g e => by cases e; omega), (h.qb.far k (hne (by omega))).far kz (hni (by omega)), (h.xb.far' k (hne (by omega))).far' kz (hni (by omega)), (h.ox.far k (fun g e => by have := hr g e; omega)).far kz (fun g e => by cases e; omega), ?_, Nat.le_trans (Nat.le_trans h.size k.size) kz.size, h.tw⟩
  · cases e
    rw [e1, e2, e3]
    refine ⟨fun e => ?_, fun e => ?_, fun e => ?_⟩ <;> (simp [Value.ownBlock] at e; omega)
  · have b1 := h.below2 k (fun g e => by have := hr g e; have := h.tw; omega)
    exact b1.grown kz b1.size (fun g e => by cases e; have := h.tw; omega)
end Go.Proofs.Ytnjopfdeapclhaa

