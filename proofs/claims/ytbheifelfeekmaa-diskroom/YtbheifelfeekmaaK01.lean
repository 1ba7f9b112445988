import Derived.Test.YtbheifelfeekmaaK00
import Derived.Defers
import Derived.Deep.RegionHeld3
import Derived.Maps.AppendAt
import Derived.Laws.AppendOwnNone
namespace Go.Proofs.Ytbheifelfeekmaa
open Go.RowKit Go.MapKept
set_option linter.unusedVariables false
set_option linter.unusedSimpArgs false

structure FE where
  nm : ByteArray
  b : Nat
  v : Value
  dat : List Nat
  syn : Nat
def FBox (w : World) (b : Nat) (v : Value) (syn : Nat) : Prop := w.heap[b]? = some (.cells #[v, .int .i64 (syn : Int)] 72 (0, 0))
theorem FBox.lt {w : World} {b syn : Nat} {v : Value} (h : FBox w b v syn) : b < w.heap.size := (Array.getElem?_eq_some_iff.1 h).1
theorem FBox.kept {w w' : World} {b syn : Nat} {v : Value} (h : FBox w b v syn) (k : w'.heap[b]? = w.heap[b]?) : FBox w' b v syn := k.trans h
theorem FBox.cells {w : World} {b syn : Nat} {v : Value} (h : FBox w b v syn) : w.cell? ⟨b, 0, none⟩ = some v ∧ w.cell? ⟨b, 1, none⟩ = some (.int .i64 (syn : Int)) := by
  unfold FBox at h
  simp [World.cell?, h]
theorem FBox.fz {w : World} {b syn : Nat} {v : Value} (h : FBox w b v syn) (i : Nat) : w.frozen? ⟨b, i, none⟩ = false := by
  unfold FBox at h
  simp [World.frozen?, h]
structure OwnO (w : World) (O : Nat → Prop) (v : Value) (xs : List Nat) : Prop where
  own : w.ownsRow 0 5 1 v xs.length (bv xs)
  bys : Bys xs
  blk : ∀ g, v.ownBlock = some g → O g
theorem OwnO.typ {w : World} {O : Nat → Prop} {v : Value} {xs : List Nat} (h : OwnO w O v xs) {g : Nat} (hg : v.ownBlock = some g) : ∃ cur, w.heap[g]? = some (.cells cur 5 (0, 0)) := by
  rcases h.own.2 with ⟨rfl, _⟩ | ⟨g', cap, cur, rfl, _, hh, _⟩
  · cases hg
  · simp only [Value.ownBlock, Option.some.injEq] at hg
    subst hg
    exact ⟨cur, hh⟩
theorem OwnO.kept {w w' : World} {O O' : Nat → Prop} {v : Value} {xs : List Nat} (h : OwnO w O v xs) (k : ∀ g, v.ownBlock = some g → w'.heap[g]? = w.heap[g]? ∧ O' g) : OwnO w' O' v xs := by
  refine ⟨⟨h.own.1, ?_⟩, h.bys, fun g hg => (k g hg).2⟩
  rcases h.own.2 with h1 | ⟨g, cap, cur, e, h2, h3, h4⟩
  · exact .inl h1
  · refine .inr ⟨g, cap, cur, e, h2, ?_, h4⟩
    rw [(k g (by rw [e]; rfl)).1]
    exact h3
theorem OwnO.form {w : World} {O : Nat → Prop} {v : Value} {xs : List Nat} (h : OwnO w O v xs) : ∃ a c, v = .slice a xs.length c := by
  rcases h.own.2 with ⟨rfl, h2⟩ | ⟨g, cap, cur, rfl, _⟩
  · rw [h2]; exact ⟨_, _, rfl⟩
  · exact ⟨_, _, rfl⟩
theorem OwnO.nil (w : World) (O : Nat → Prop) : OwnO w O (.slice none 0 0) [] := ⟨⟨rfl, .inl ⟨rfl, rfl⟩⟩, by intro x hx; simp at hx, by intro g hg; cases hg⟩
theorem OwnO.rd {w : World} {O : Nat → Prop} {v : Value} {xs : List Nat} (h : OwnO w O v xs) (hl : xs.length ≤ 281474976710656) : Rd w v xs := Rd.of_owns rfl h.own h.bys hl

structure DskM (w : World) (O : Nat → Prop) (dB mb : Nat) (fl : List FE) (cap arm : Int) (down : Bool) (c : Nat → Int) : Prop where
  box : DkBox w dB mb cap arm down c
  map : ∃ es clock, MpB w mb (fl.map fun f => (f.nm, f.b)) es clock
  fil : ∀ f ∈ fl, FBox w f.b f.v f.syn ∧ OwnO w O f.v f.dat ∧ O f.b
  nob : (fl.map (·.b)).Nodup
  nod : fl.Pairwise (fun f g => ∀ k, f.v.ownBlock = some k → g.v.ownBlock ≠ some k)
  odb : O dB
  omb : O mb
  lt : ∀ i, O i → i < w.heap.size
variable {w w' : World} {O O' : Nat → Prop} {dB mb : Nat} {fl : List FE} {cap arm : Int} {down : Bool} {c : Nat → Int}
theorem DskM.kept (h : DskM w O dB mb fl cap arm down c) (k : ∀ i, O i → w'.heap[i]? = w.heap[i]?) (hs : w.heap.size ≤ w'.heap.size) : DskM w' O dB mb fl cap arm down c := by
  obtain ⟨es, clock, hm⟩ := h.map
  exact ⟨h.box.kept (k _ h.odb), ⟨es, clock, hm.kept (k _ h.omb)⟩, fun f hf => ⟨(h.fil f hf).1.kept (k _ (h.fil f hf).2.2), (h.fil f hf).2.1.kept (fun g hg => ⟨k _ ((h.fil f hf).2.1.blk g hg), (h.fil f hf).2.1.blk g hg⟩), (h.fil f hf).2.2⟩, h.nob, h.nod, h.odb, h.omb, fun i hi => Nat.lt_of_lt_of_le (h.lt i hi) hs⟩
theorem DskM.below (h : DskM w O dB mb fl cap arm down c) (hb : Below w.heap.size w w') : DskM w' O dB mb fl cap arm down c := h.kept (fun i hi => hb.block i (h.lt i hi)) hb.size
theorem DskM.neMap (h : DskM w O dB mb fl cap arm down c) : mb ≠ dB := by
  obtain ⟨es, clock, hm⟩ := h.map
  have h1 := h.box
  unfold DkBox at h1
  rintro rfl
  have := hm.blk
  rw [h1] at this
  cases this
theorem DskM.neFil (h : DskM w O dB mb fl cap arm down c) {f : FE} (hf : f ∈ fl) : f.b ≠ dB ∧ f.b ≠ mb := by
  obtain ⟨es, clock, hm⟩ := h.map
  have h1 := h.box
  have h2 := (h.fil f hf).1
  unfold DkBox at h1
  unfold FBox at h2
  constructor
  · intro e
    rw [e, h1] at h2
    simp only [Option.some.injEq, Obj.cells.injEq] at h2
    exact absurd h2.2.1 (by decide)
  · intro e
    have := hm.blk
    rw [e, this] at h2
    cases h2
theorem DskM.neDat (h : DskM w O dB mb fl cap arm down c) {f : FE} (hf : f ∈ fl) {g : Nat} (hg : f.v.ownBlock = some g) : g ≠ dB ∧ g ≠ mb ∧ ∀ f' ∈ fl, g ≠ f'.b := by
  obtain ⟨es, clock, hm⟩ := h.map
  have h1 := h.box
  obtain ⟨cur, h2⟩ := (h.fil f hf).2.1.typ hg
  unfold DkBox at h1
  refine ⟨?_, ?_, ?_⟩
  · intro e
    rw [e, h1] at h2
    simp only [Option.some.injEq, Obj.cells.injEq] at h2
    exact absurd h2.2.1 (by decide)
  · intro e
    have := hm.blk
    rw [e, this] at h2
    cases h2
  · intro f' hf' e
    have h3 := (h.fil f' hf').1
    unfold FBox at h3
    rw [e, h3] at h2
    simp only [Option.some.injEq, Obj.cells.injEq] at h2
    exact absurd h2.2.1 (by decide)
theorem DskM.setBox (h : DskM w O dB mb fl cap arm down c) {cap' arm' : Int} {down' : Bool} {c' : Nat → Int} (hb : DkBox w' dB mb cap' arm' down' c') (k : ∀ i, i ≠ dB → w'.heap[i]? = w.heap[i]?) (hs : w.heap.size ≤ w'.heap.size) : DskM w' O dB mb fl cap' arm' down' c' := by
  obtain ⟨es, clock, hm⟩ := h.map
  exact ⟨hb, ⟨es, clock, hm.kept (k _ h.neMap)⟩, fun f hf => ⟨(h.fil f hf).1.kept (k _ (h.neFil hf).1), (h.fil f hf).2.1.kept (fun g hg => ⟨k _ (h.neDat hf hg).1, (h.fil f hf).2.1.blk g hg⟩), (h.fil f hf).2.2⟩, h.nob, h.nod, h.odb, h.omb, fun i hi => Nat.lt_of_lt_of_le (h.lt i hi) hs⟩
theorem DkBox.setArm {cap arm : Int} (h : DkBox w dB mb cap arm down c) (x : Int) : DkBox (w.setCell ⟨dB, 2, none⟩ (.int .i64 x)) dB mb cap x down c := by
  unfold DkBox at h ⊢
  rw [heap_setCell_same w dB 2 _ _ _ h]
  simp
theorem DkBox.setDown {cap arm : Int} (h : DkBox w dB mb cap arm down c) (x : Bool) : DkBox (w.setCell ⟨dB, 3, none⟩ (.bool x)) dB mb cap arm x c := by
  unfold DkBox at h ⊢
  rw [heap_setCell_same w dB 3 _ _ _ h]
  simp
def setCt (c : Nat → Int) (k : Nat) (x : Int) : Nat → Int := fun i => if i = k then x else c i
theorem DkBox.setCt {cap arm : Int} (h : DkBox w dB mb cap arm down c) (k : Nat) (hk : k < 6) (x : Int) : DkBox (w.setCell ⟨dB, 4 + k, none⟩ (.int .i64 x)) dB mb cap arm down (setCt c k x) := by
  unfold DkBox at h ⊢
  rw [heap_setCell_same w dB (4 + k) _ _ _ h]
  match k, hk with
  | 0, _ => simp [Proofs.Ytbheifelfeekmaa.setCt]
  | 1, _ => simp [Proofs.Ytbheifelfeekmaa.setCt]
  | 2, _ => simp [Proofs.Ytbheifelfeekmaa.setCt]
  | 3, _ => simp [Proofs.Ytbheifelfeekmaa.setCt]
  | 4, _ => simp [Proofs.Ytbheifelfeekmaa.setCt]
  | 5, _ => simp [Proofs.Ytbheifelfeekmaa.setCt]
theorem DskM.setArm (h : DskM w O dB mb fl cap arm down c) (x : Int) : DskM (w.setCell ⟨dB, 2, none⟩ (.int .i64 x)) O dB mb fl cap x down c := h.setBox (h.box.setArm x) (fun i hi => heap_setCell_other _ _ _ _ hi) (by simp [World.setCell])
theorem DskM.setDown (h : DskM w O dB mb fl cap arm down c) (x : Bool) : DskM (w.setCell ⟨dB, 3, none⟩ (.bool x)) O dB mb fl cap arm x c := h.setBox (h.box.setDown x) (fun i hi => heap_setCell_other _ _ _ _ hi) (by simp [World.setCell])
theorem DskM.setCt (h : DskM w O dB mb fl cap arm down c) (k : Nat) (hk : k < 6) (x : Int) : DskM (w.setCell ⟨dB, 4 + k, none⟩ (.int .i64 x)) O dB mb fl cap arm down (setCt c k x) := h.setBox (h.box.setCt k hk x) (fun i hi => heap_setCell_other _ _ _ _ hi) (by simp [World.setCell])
theorem DskM.off (h : DskM w O dB mb fl cap arm down c) (a : Addr) (ha : ¬ O a.block) (v : Value) : DskM (w.setCell a v) O dB mb fl cap arm down c := h.kept (fun i hi => heap_setCell_other _ _ _ _ (fun e => ha (e ▸ hi))) (by simp [World.setCell])

structure Go4 (w w' : World) (O O' : Nat → Prop) : Prop where
  os : w'.os = w.os
  tape : w'.tape = w.tape
  output : w'.output = w.output
  size : w.heap.size ≤ w'.heap.size
  block : ∀ k, k < w.heap.size → ¬ O k → w'.heap[k]? = w.heap[k]?
  new : ∀ k, O' k → O k ∨ w.heap.size ≤ k
theorem Go4.refl (w : World) (O : Nat → Prop) : Go4 w w O O := ⟨rfl, rfl, rfl, Nat.le_refl _, fun _ _ _ => rfl, fun _ h => .inl h⟩
theorem Go4.trans {a b c : World} {O O1 O2 : Nat → Prop} (h : Go4 a b O O1) (k : Go4 b c O1 O2) : Go4 a c O O2 :=
  ⟨k.os.trans h.os, k.tape.trans h.tape, k.output.trans h.output, Nat.le_trans h.size k.size, fun i hi ho => (k.block i (Nat.lt_of_lt_of_le hi h.size) (fun z => (h.new i z).elim ho (fun q => by omega))).trans (h.block i hi ho), fun i hi => (k.new i hi).elim (fun z => h.new i z) (fun q => .inr (Nat.le_trans h.size q))⟩
theorem Go4.of_below {w w' : World} {O : Nat → Prop} (h : Below w.heap.size w w') : Go4 w w' O O := ⟨h.os, h.tape, h.output, h.size, fun i hi _ => h.block i hi, fun _ h => .inl h⟩
theorem Go4.of_set {w : World} {O : Nat → Prop} {a : Addr} (ha : O a.block) (v : Value) : Go4 w (w.setCell a v) O O := ⟨rfl, rfl, rfl, by simp [World.setCell], fun i hi ho => heap_setCell_other _ _ _ _ (fun e => ho (e ▸ ha)), fun _ h => .inl h⟩
theorem Go4.less {w w' : World} {O O1 O' : Nat → Prop} (h : Go4 w w' O O') (k : ∀ i, O1 i → O' i) : Go4 w w' O O1 := ⟨h.os, h.tape, h.output, h.size, h.block, fun i hi => h.new i (k i hi)⟩
theorem Go4.wide {w w' : World} {O O1 O' O2 : Nat → Prop} (h : Go4 w w' O O') (k : ∀ i, O i → O1 i) (k2 : ∀ i, O2 i → O' i ∨ O1 i) : Go4 w w' O1 O2 := ⟨h.os, h.tape, h.output, h.size, fun i hi ho => h.block i hi (fun z => ho (k i z)), fun i hi => (k2 i hi).elim (fun z => (h.new i z).imp (k i) id) .inl⟩
theorem Go4.below {w w' : World} {O O' : Nat → Prop} {B : Nat} (h : Go4 w w' O O') (hB : B ≤ w.heap.size) (k : ∀ i, O i → B ≤ i) : Below B w w' := ⟨h.os, h.tape, h.output, h.size, fun i hi => h.block i (by omega) (fun z => by have := k i z; omega)⟩
theorem Go4.open_ {w W w' : World} {O O' : Nat → Prop} {n : Nat} (b : Below w.heap.size w W) (hn : w.heap.size ≤ n) (h : Go4 W w' (fun i => O i ∨ i = n) (fun i => O' i ∨ i = n)) : Go4 w w' O O' :=
  ⟨h.os.trans b.os, h.tape.trans b.tape, h.output.trans b.output, Nat.le_trans b.size h.size, fun i hi ho => (h.block i (Nat.lt_of_lt_of_le hi b.size) (fun z => z.elim ho (fun e => by omega))).trans (b.block i hi), fun i hi => by
    rcases h.new i (.inl hi) with (h1 | h1) | h1
    · exact .inl h1
    · exact .inr (by omega)
    · exact .inr (Nat.le_trans b.size h1)⟩
end Go.Proofs.Ytbheifelfeekmaa

namespace Go.Proofs.Ytbheifelfeekmaa
open Go.RowKit Go.MapKept
set_option linter.unusedVariables false
set_option linter.unusedSimpArgs false
variable {w : World} {O : Nat → Prop} {dB mb : Nat} {fl : List FE} {cap arm : Int} {down : Bool} {c : Nat → Int}

def DoesQ (w : World) (O : Nat → Prop) (dB mb : Nat) (fl : List FE) (cap : Int) (c : Nat → Int) (ea : Nat) (g : Nat) (caps : Array Value) (Q : List FE → (Nat → Int) → Prop) : Prop :=
  ∀ (arm1 : Int) (down1 : Bool) (W : World), DskM W O dB mb fl cap arm1 down1 c → Go4 w W (fun i => O i ∨ i = ea) (fun i => O i ∨ i = ea) → Calls Try.prog g caps W fun e w' => e = .returned (.tuple #[]) ∧ ∃ O2 fl2 c2, Q fl2 c2 ∧ DskM w' O2 dB mb fl2 cap arm1 down1 c2 ∧ Go4 W w' O O2
set_option maxRecDepth 100000 in
set_option maxHeartbeats 1000000 in
theorem settle_err {g : Nat} {caps : Array Value} {torn : Bool} {ea : Nat} {x : Int} {u : FrameMode} (hx : ¬ x = 0) (he : w.cell? ⟨ea, 0, none⟩ = some (.int .i64 x)) :
    CallsD Try.prog 35 #[.pointer (some ⟨dB, 0, none⟩), .pointer (some ⟨ea, 0, none⟩), .agg #[.func (Fn.func g) #[] caps, .bool torn]] u w fun e u' w' => u' = u ∧ (e = .returned (.tuple #[]) ∧ w'.cell? ⟨ea, 0, none⟩ = some (.int .i64 x) ∧ Below w.heap.size w w') := by
  have hxb : (x != 0) = true := by simp [hx]
  have l1 := World.block_lt_of_cell? _ _ he
  go_enter_d Try.func35, Try.ntmps35
  go_wp2
  refine bodyPost_ret (v := .tuple #[]) ?_ rfl ⟨rfl, ?_, (Below.refl _ _).alloc (Nat.le_refl _) _⟩
  · simp [results, Try.results35, go_sem]
  · exact (((Below.refl w.heap.size w).alloc (Nat.le_refl _) _).cell (p := ⟨ea, 0, none⟩) l1).trans he

set_option maxRecDepth 100000 in
set_option maxHeartbeats 2000000 in
theorem settle_more {g : Nat} {caps : Array Value} {torn : Bool} {ea : Nat} {u : FrameMode} {Q : List FE → (Nat → Int) → Prop} (ha : 1 < arm) (ha2 : arm ≤ 9223372036854775807) (hD : DskM w O dB mb fl cap arm down c) (he : w.cell? ⟨ea, 0, none⟩ = some (.int .i64 0)) (hz : w.frozen? ⟨ea, 0, none⟩ = false) (hn : ¬ O ea)
    (hg : ∀ w, (callFunc g caps).run Try.prog w = .ok (.enter g caps) w) (hQ : DoesQ w O dB mb fl cap c ea g caps Q) :
    CallsD Try.prog 35 #[.pointer (some ⟨dB, 0, none⟩), .pointer (some ⟨ea, 0, none⟩), .agg #[.func (Fn.func g) #[] caps, .bool torn]] u w fun e u' w' => u' = u ∧ (e = .returned (.tuple #[]) ∧ w'.cell? ⟨ea, 0, none⟩ = some (.int .i64 0) ∧ ∃ O2 fl2 c2, Q fl2 c2 ∧ DskM w' O2 dB mb fl2 cap (arm - 1) down (setCt c2 0 (wrap64 (c2 0 + 1))) ∧ Go4 w w' (fun i => O i ∨ i = ea) (fun i => O2 i ∨ i = ea)) := by
  obtain ⟨c0, c1, c2, c3, c4, -⟩ := hD.box.cells
  have z2 := hD.box.fz 2
  have z3 := hD.box.fz 3
  have l1 := World.block_lt_of_cell? _ _ he
  have l2 := hD.box.lt
  have n1 : ea ≠ dB := fun e => hn (e ▸ hD.odb)
  have n2 : dB ≠ ea := Ne.symm n1
  have a1 : (arm == 1) = false := by simp; omega
  have a2 : (0 : Int) < arm := by omega
  have HD := Lib.hid hD
  have HQ := Lib.hid hQ
  have HN := Lib.hid hn
  have HE := Lib.hid he
  clear hD hQ hn
  go_enter_d Try.func35, Try.ntmps35
  go_wp2_with fail
  obtain ⟨W, hW⟩ : ∃ W, W = (w.setCell ⟨dB, 2, none⟩ (.int .i64 (arm - 1))).alloc (Obj.cells #[.func (Fn.func g) #[] caps, .bool torn] 74) := ⟨_, rfl⟩
  rw [← hW]
  have D1 : DskM W O dB mb fl cap (arm - 1) down c := by
    rw [hW]
    exact (HD.out.setArm _).below (((Below.refl _ _).alloc (Nat.le_refl _) _))
  have G1 : Go4 w W (fun i => O i ∨ i = ea) (fun i => O i ∨ i = ea) := by
    rw [hW]
    exact (Go4.of_set (a := ⟨dB, 2, none⟩) (.inl HD.out.odb) _).trans (Go4.of_below ((Below.refl _ _).alloc (Nat.le_refl _) _))
  have E1 : W.cell? ⟨ea, 0, none⟩ = some (.int .i64 0) := by
    rw [hW]
    simp [go_sem, HE.out, n1, n2, l1, l2]
  have hC := HQ.out _ _ _ D1 G1
  have HG := Lib.hid G1
  have HE1 := Lib.hid E1
  have LW : w.heap.size ≤ W.heap.size := G1.size
  clear hW D1 G1 E1 c0 c1 c2 c3 c4 z2 z3 he
  refine hC.mono ?_
  rintro e w2 ⟨rfl, O2, fl2, k2, hq, d2, g2⟩
  have b4 := d2.box.cells.2.2.2.2.1
  have zz := d2.box.fz 4
  have E2 : w2.cell? ⟨ea, 0, none⟩ = some (.int .i64 0) := by
    rw [← HE1.out]
    have : w2.heap[ea]? = W.heap[ea]? := g2.block ea (by omega) HN.out
    simp [World.cell?, this]
  have HE2 := Lib.hid E2
  have HD2 := Lib.hid d2
  have HQ2 := Lib.hid hq
  have HG2 := Lib.hid g2
  clear E2 d2 hq g2 hC
  go_wp2
  go_end0
  refine ⟨rfl, ?_, O2, fl2, k2, HQ2.out, HD2.out.setCt 0 (by omega) _, ?_⟩
  · exact (World.cell?_of_block (a := ⟨ea, 0, none⟩) (heap_setCell_other _ _ _ _ n1)).trans HE2.out
  · refine (HG.out.trans (HG2.out.wide (fun i h => .inl h) (fun i h => ?_))).trans (Go4.of_set (a := ⟨dB, 4, none⟩) (.inl HD2.out.odb) _)
    exact h.imp id (fun e => .inr e)

set_option maxRecDepth 100000 in
set_option maxHeartbeats 2000000 in
theorem settle_free {g : Nat} {caps : Array Value} {torn : Bool} {ea : Nat} {u : FrameMode} {Q : List FE → (Nat → Int) → Prop} (ha : arm = 0) (hD : DskM w O dB mb fl cap arm down c) (he : w.cell? ⟨ea, 0, none⟩ = some (.int .i64 0)) (hz : w.frozen? ⟨ea, 0, none⟩ = false) (hn : ¬ O ea)
    (hg : ∀ w, (callFunc g caps).run Try.prog w = .ok (.enter g caps) w) (hQ : DoesQ w O dB mb fl cap c ea g caps Q) :
    CallsD Try.prog 35 #[.pointer (some ⟨dB, 0, none⟩), .pointer (some ⟨ea, 0, none⟩), .agg #[.func (Fn.func g) #[] caps, .bool torn]] u w fun e u' w' => u' = u ∧ (e = .returned (.tuple #[]) ∧ w'.cell? ⟨ea, 0, none⟩ = some (.int .i64 0) ∧ ∃ O2 fl2 c2, Q fl2 c2 ∧ DskM w' O2 dB mb fl2 cap 0 down (setCt c2 0 (wrap64 (c2 0 + 1))) ∧ Go4 w w' (fun i => O i ∨ i = ea) (fun i => O2 i ∨ i = ea)) := by
  obtain ⟨c0, c1, c2, c3, c4, -⟩ := hD.box.cells
  have z2 := hD.box.fz 2
  have z3 := hD.box.fz 3
  have l1 := World.block_lt_of_cell? _ _ he
  have l2 := hD.box.lt
  have n1 : ea ≠ dB := fun e => hn (e ▸ hD.odb)
  have n2 : dB ≠ ea := Ne.symm n1
  subst ha
  have HD := Lib.hid hD
  have HQ := Lib.hid hQ
  have HN := Lib.hid hn
  have HE := Lib.hid he
  clear hD hQ hn
  go_enter_d Try.func35, Try.ntmps35
  go_wp2_with fail
  obtain ⟨W, hW⟩ : ∃ W, W = w.alloc (Obj.cells #[.func (Fn.func g) #[] caps, .bool torn] 74) := ⟨_, rfl⟩
  rw [← hW]
  have D1 : DskM W O dB mb fl cap 0 down c := by
    rw [hW]
    exact HD.out.below ((Below.refl _ _).alloc (Nat.le_refl _) _)
  have G1 : Go4 w W (fun i => O i ∨ i = ea) (fun i => O i ∨ i = ea) := by
    rw [hW]
    exact Go4.of_below ((Below.refl _ _).alloc (Nat.le_refl _) _)
  have E1 : W.cell? ⟨ea, 0, none⟩ = some (.int .i64 0) := by
    rw [hW]
    simp [go_sem, HE.out, n1, n2, l1, l2]
  have hC := HQ.out _ _ _ D1 G1
  have HG := Lib.hid G1
  have HE1 := Lib.hid E1
  have LW : w.heap.size ≤ W.heap.size := G1.size
  clear hW D1 G1 E1 c0 c1 c2 c3 c4 z2 z3 he
  refine hC.mono ?_
  rintro e w2 ⟨rfl, O2, fl2, k2, hq, d2, g2⟩
  have b4 := d2.box.cells.2.2.2.2.1
  have zz := d2.box.fz 4
  have E2 : w2.cell? ⟨ea, 0, none⟩ = some (.int .i64 0) := by
    rw [← HE1.out]
    have : w2.heap[ea]? = W.heap[ea]? := g2.block ea (by omega) HN.out
    simp [World.cell?, this]
  have HE2 := Lib.hid E2
  have HD2 := Lib.hid d2
  have HQ2 := Lib.hid hq
  have HG2 := Lib.hid g2
  clear E2 d2 hq g2 hC
  go_wp2
  go_end0
  refine ⟨rfl, ?_, O2, fl2, k2, HQ2.out, HD2.out.setCt 0 (by omega) _, ?_⟩
  · exact (World.cell?_of_block (a := ⟨ea, 0, none⟩) (heap_setCell_other _ _ _ _ n1)).trans HE2.out
  · refine (HG.out.trans (HG2.out.wide (fun i h => .inl h) (fun i h => ?_))).trans (Go4.of_set (a := ⟨dB, 4, none⟩) (.inl HD2.out.odb) _)
    exact h.imp id (fun e => .inr e)

set_option maxRecDepth 100000 in
set_option maxHeartbeats 2000000 in
theorem settle_torn {g : Nat} {caps : Array Value} {ea : Nat} {u : FrameMode} {Q : List FE → (Nat → Int) → Prop} (ha : arm = 1) (hD : DskM w O dB mb fl cap arm down c) (he : w.cell? ⟨ea, 0, none⟩ = some (.int .i64 0)) (hz : w.frozen? ⟨ea, 0, none⟩ = false) (hn : ¬ O ea)
    (hg : ∀ w, (callFunc g caps).run Try.prog w = .ok (.enter g caps) w) (hQ : DoesQ w O dB mb fl cap c ea g caps Q) :
    CallsD Try.prog 35 #[.pointer (some ⟨dB, 0, none⟩), .pointer (some ⟨ea, 0, none⟩), .agg #[.func (Fn.func g) #[] caps, .bool true]] u w fun e u' w' => u' = u ∧ (e = .returned (.tuple #[]) ∧ w'.cell? ⟨ea, 0, none⟩ = some (.int .i64 3) ∧ ∃ O2 fl2 c2, Q fl2 c2 ∧ DskM w' O2 dB mb fl2 cap 0 true (setCt c2 0 (wrap64 (c2 0 + 1))) ∧ Go4 w w' (fun i => O i ∨ i = ea) (fun i => O2 i ∨ i = ea)) := by
  obtain ⟨c0, c1, c2, c3, c4, -⟩ := hD.box.cells
  have z2 := hD.box.fz 2
  have z3 := hD.box.fz 3
  have l1 := World.block_lt_of_cell? _ _ he
  have l2 := hD.box.lt
  have n1 : ea ≠ dB := fun e => hn (e ▸ hD.odb)
  have n2 : dB ≠ ea := Ne.symm n1
  subst ha
  have HD := Lib.hid hD
  have HQ := Lib.hid hQ
  have HN := Lib.hid hn
  have HE := Lib.hid he
  clear hD hQ hn
  go_enter_d Try.func35, Try.ntmps35
  go_wp2_with fail
  obtain ⟨W, hW⟩ : ∃ W, W = (((w.setCell ⟨dB, 2, none⟩ (.int .i64 0)).setCell ⟨dB, 3, none⟩ (.bool true)).setCell ⟨ea, 0, none⟩ (.int .i64 3)).alloc (Obj.cells #[.func (Fn.func g) #[] caps, .bool true] 74) := ⟨_, rfl⟩
  rw [← hW]
  have D1 : DskM W O dB mb fl cap 0 true c := by
    rw [hW]
    exact (((HD.out.setArm _).setDown _).off _ HN.out _).below ((Below.refl _ _).alloc (Nat.le_refl _) _)
  have G1 : Go4 w W (fun i => O i ∨ i = ea) (fun i => O i ∨ i = ea) := by
    rw [hW]
    exact (((Go4.of_set (a := ⟨dB, 2, none⟩) (.inl HD.out.odb) _).trans (Go4.of_set (a := ⟨dB, 3, none⟩) (.inl HD.out.odb) _)).trans (Go4.of_set (a := ⟨ea, 0, none⟩) (.inr rfl) _)).trans (Go4.of_below ((Below.refl _ _).alloc (Nat.le_refl _) _))
  have E1 : W.cell? ⟨ea, 0, none⟩ = some (.int .i64 3) := by
    rw [hW]
    simp [go_sem, HE.out, n1, n2, l1, l2]
  have hC := HQ.out _ _ _ D1 G1
  have HG := Lib.hid G1
  have HE1 := Lib.hid E1
  have LW : w.heap.size ≤ W.heap.size := G1.size
  clear hW D1 G1 E1 c0 c1 c2 c3 c4 z2 z3 he
  refine hC.mono ?_
  rintro e w2 ⟨rfl, O2, fl2, k2, hq, d2, g2⟩
  have b4 := d2.box.cells.2.2.2.2.1
  have zz := d2.box.fz 4
  have E2 : w2.cell? ⟨ea, 0, none⟩ = some (.int .i64 3) := by
    rw [← HE1.out]
    have : w2.heap[ea]? = W.heap[ea]? := g2.block ea (by omega) HN.out
    simp [World.cell?, this]
  have HE2 := Lib.hid E2
  have HD2 := Lib.hid d2
  have HQ2 := Lib.hid hq
  have HG2 := Lib.hid g2
  clear E2 d2 hq g2 hC
  go_wp2
  go_end0
  refine ⟨rfl, ?_, O2, fl2, k2, HQ2.out, HD2.out.setCt 0 (by omega) _, ?_⟩
  · exact (World.cell?_of_block (a := ⟨ea, 0, none⟩) (heap_setCell_other _ _ _ _ n1)).trans HE2.out
  · refine (HG.out.trans (HG2.out.wide (fun i h => .inl h) (fun i h => ?_))).trans (Go4.of_set (a := ⟨dB, 4, none⟩) (.inl HD2.out.odb) _)
    exact h.imp id (fun e => .inr e)

set_option maxRecDepth 100000 in
set_option maxHeartbeats 2000000 in
theorem settle_stop {g : Nat} {caps : Array Value} {ea : Nat} {u : FrameMode} (ha : arm = 1) (hD : DskM w O dB mb fl cap arm down c) (he : w.cell? ⟨ea, 0, none⟩ = some (.int .i64 0)) (hz : w.frozen? ⟨ea, 0, none⟩ = false) (hn : ¬ O ea) :
    CallsD Try.prog 35 #[.pointer (some ⟨dB, 0, none⟩), .pointer (some ⟨ea, 0, none⟩), .agg #[.func (Fn.func g) #[] caps, .bool false]] u w fun e u' w' => u' = u ∧ (e = .returned (.tuple #[]) ∧ w'.cell? ⟨ea, 0, none⟩ = some (.int .i64 3) ∧ DskM w' O dB mb fl cap 0 true c ∧ Go4 w w' (fun i => O i ∨ i = ea) (fun i => O i ∨ i = ea)) := by
  obtain ⟨c0, c1, c2, c3, c4, -⟩ := hD.box.cells
  have z2 := hD.box.fz 2
  have z3 := hD.box.fz 3
  have l1 := World.block_lt_of_cell? _ _ he
  have l2 := hD.box.lt
  have n1 : ea ≠ dB := fun e => hn (e ▸ hD.odb)
  have n2 : dB ≠ ea := Ne.symm n1
  subst ha
  have HD := Lib.hid hD
  have HN := Lib.hid hn
  have HE := Lib.hid he
  clear hD hn
  go_enter_d Try.func35, Try.ntmps35
  go_wp2
  go_end0
  refine ⟨rfl, ?_, (((HD.out.setArm _).setDown _).off _ HN.out _).below ((Below.refl _ _).alloc (Nat.le_refl _) _), (((Go4.of_set (a := ⟨dB, 2, none⟩) (.inl HD.out.odb) _).trans (Go4.of_set (a := ⟨dB, 3, none⟩) (.inl HD.out.odb) _)).trans (Go4.of_set (a := ⟨ea, 0, none⟩) (.inr rfl) _)).trans (Go4.of_below ((Below.refl _ _).alloc (Nat.le_refl _) _))⟩
  simp [go_sem, HE.out, n1, n2, l1, l2]
end Go.Proofs.Ytbheifelfeekmaa

namespace Go.Proofs.Ytbheifelfeekmaa
open Go.RowKit
set_option linter.unusedVariables false

section
variable {P : Program} {ops : Array Oper} {Q : Exit → Act → World → Prop} {md : Region.Mode} {S : World → Prop} {E : Nat → Bool}

def AnyE (P : Program) (md : Region.Mode) (ops : Array Oper) (Q : Exit → Act → World → Prop) (S : World → Prop) (E : Nat → Bool) : Nat → Array Bool → Act → World → Prop
  | 0, listed, a, w => Region.ready md ops listed = [] ∧ Q .normal a w
  | fuel + 1, listed, a, w => (Region.ready md ops listed = [] → Q .normal a w) ∧
    ∀ i ∈ Region.ready md ops listed, wpOp P ops Q i (fun a' w' => (E i = true → S w') ∧ AnyE P md ops Q S E fuel (listed.setIfInBounds i true) a' w') a w
theorem AnyE.any : ∀ (fuel : Nat) (listed : Array Bool) (a : Act) (w : World), AnyE P md ops Q S E fuel listed a w → wpAny P md ops Q fuel listed a w
  | 0, _, _, _, h => h
  | fuel + 1, _, _, _, h => ⟨h.1, fun i hi => wpOp_mono (fun a' w' k => AnyE.any fuel _ a' w' k.2) (h.2 i hi)⟩
theorem wp_region_anyE {id : Nat} {a : Act} {w : World} (hm : P.follows .mixedOrders = true) (h : AnyE P .any ops Q S E ops.size (Array.replicate ops.size false) a w.drew) : (Code.region id ops true).wp P Q a w := wp_region_any hm (AnyE.any _ _ _ _ h)
def eFree (md : Region.Mode) (ops : Array Oper) (listed : Array Bool) (i : Nat) (E : Nat → Bool) : Bool :=
  (List.range ops.size).all fun j => j == i || listed.getD j true || E j || (match ops[j]? with
    | none => true
    | some oj => oj.after.any fun e => Region.binds md e && e.on == i)
theorem eFree_spec {i : Nat} {listed : Array Bool} (h : eFree md ops listed i E = true) (j : Nat) (oj : Oper) (hj : ops[j]? = some oj) (hne : j ≠ i) (hun : listed.getD j true = false) (hno : ∀ e ∈ oj.after, Region.binds md e = true → e.on ≠ i) : E j = true := by
  have hlt : j < ops.size := (Array.getElem?_eq_some_iff.1 hj).1
  have := List.all_eq_true.1 h j (List.mem_range.2 hlt)
  simp only [hj, Bool.or_eq_true, beq_iff_eq, hne, hun, false_or] at this
  rcases this with (h1 | h1) | h1
  · cases h1
  · exact h1
  · obtain ⟨k, hk, he⟩ := Array.any_eq_true.1 h1
    simp only [Bool.and_eq_true, beq_iff_eq] at he
    exact absurd he.2 (hno _ (Array.getElem_mem hk) he.1)
theorem AnyE.first {i : Nat} {oi : Oper} {v : Value} (hi : ops[i]? = some oi) (hs : Region.noSelect ops = true) (hQ : ∀ c a w, Q (.panic c) (a.put oi.dst v) w → Q (.panic c) a w) : ∀ (fuel : Nat) (listed : Array Bool) (a : Act) (w : World),
    (∀ j oj, ops[j]? = some oj → j ≠ i → listed.getD j true = false → (∀ e ∈ oj.after, Region.binds md e = true → e.on ≠ i) → oi.apart ops oj = true ∧ E j = true) →
    i ∈ Region.ready md ops listed → YieldsIf P ops S oi v a → S w → AnyE P md ops Q S E fuel (listed.setIfInBounds i true) (a.put oi.dst v) w → AnyE P md ops Q S E (fuel + 1) listed a w := by
  intro fuel
  have sel := Region.noSelect_spec hs
  induction fuel with
  | zero =>
    intro listed a w _ hr hy hS H
    refine ⟨fun h => (by rw [h] at hr; cases hr), fun j hj => ?_⟩
    rcases Decidable.em (j = i) with rfl | hne
    · exact hy.wpOp hi hS ⟨fun _ => hS, H⟩
    · have k := ready_mono hj hne
      rw [H.1] at k; cases k
  | succ fuel ih =>
    intro listed a w hf hr hy hS H
    refine ⟨fun h => (by rw [h] at hr; cases hr), fun j hj => ?_⟩
    rcases Decidable.em (j = i) with rfl | hne
    · exact hy.wpOp hi hS ⟨fun _ => hS, H⟩
    · obtain ⟨hun, oj, hoj, hall⟩ := mem_ready.1 hj
      have hno : ∀ e ∈ oj.after, Region.binds md e = true → e.on ≠ i := fun e he hb heq => by
        have k1 := hall e he hb
        have k0 := (mem_ready.1 hr).1
        rw [heq] at k1
        by_cases hlt : i < listed.size
        · simp [hlt] at k0 k1; rw [k0] at k1; cases k1
        · simp [Array.getElem?_eq_none (Nat.le_of_not_lt hlt)] at k1
      obtain ⟨hap, hEj⟩ := hf j oj hoj hne hun hno
      refine wpOp_mono (fun a' w' h3 => ⟨h3.2.1, ?_⟩) (wpOp_putIf hoj hap (fun cs b => sel i oi cs b hi) (fun cs b => sel j oj cs b hoj) hQ hy (H.2 j (ready_mono hj hne)))
      refine ih (listed.setIfInBounds j true) a' w' (fun k ok hk hki hun' hno' => hf k ok hk hki ?_ hno') (ready_mono hr (Ne.symm hne)) h3.1 (h3.2.1 hEj) ?_
      · rcases Decidable.em (j = k) with rfl | e
        · exact hun
        · rwa [getD_set_ne true e] at hun'
      · rw [Array.setIfInBounds_comm _ _ hne]; exact h3.2.2
theorem AnyE.take {i : Nat} {oi : Oper} {fuel : Nat} {listed : Array Bool} {a : Act} {w : World} (v : Value) (hi : ops[i]? = some oi) (hs : Region.noSelect ops = true) (hf : Region.free md ops listed i = true) (he : eFree md ops listed i E = true) (hr : (Region.ready md ops listed).contains i = true)
    (hQ : ∀ c a w, Q (.panic c) (a.put oi.dst v) w → Q (.panic c) a w) (hy : YieldsIf P ops S oi v a) (hS : S w) (h : AnyE P md ops Q S E fuel (listed.setIfInBounds i true) (a.put oi.dst v) w) : AnyE P md ops Q S E (fuel + 1) listed a w :=
  AnyE.first hi hs hQ fuel listed a w (fun j oj hj hne hun hno => ⟨Region.free_spec hi hf j oj hj hne hun hno, eFree_spec he j oj hj hne hun hno⟩) (by simpa using hr) hy hS h
theorem AnyE.one {i : Nat} {o : Oper} {fuel : Nat} {listed : Array Bool} {a : Act} {w : World} (ho : ops[i]? = some o) (hr : Region.ready md ops listed = [i]) (hw : Region.wanted o (yielded ops a.tmps) = true)
    (h : ∀ K : Act → World → Prop, Hid (∀ a' w', ((E i = true → S w') ∧ AnyE P md ops Q S E fuel (listed.setIfInBounds i true) a' w') → K a' w') → Oper.wp P o a w K Q) : AnyE P md ops Q S E (fuel + 1) listed a w :=
  ⟨fun k => (by rw [hr] at k; cases k), fun j hj => by
    rw [hr] at hj
    obtain rfl : j = i := by simpa using hj
    exact wpOp_step ho (fun K' hK => by rw [if_pos hw]; exact h K' hK)⟩
theorem AnyE.done {listed : Array Bool} {a : Act} {w : World} (hr : Region.ready md ops listed = []) (h : Q .normal a w) : ∀ fuel, AnyE P md ops Q S E fuel listed a w
  | 0 => ⟨hr, h⟩
  | _ + 1 => ⟨fun _ => h, by rw [hr]; simp⟩
end
end Go.Proofs.Ytbheifelfeekmaa

namespace Go.Proofs.Ytbheifelfeekmaa
open Go.RowKit Go.MapKept
set_option linter.unusedVariables false
set_option linter.unusedSimpArgs false
variable {w w' : World} {O : Nat → Prop} {dB mb clock : Nat} {fl : List FE} {cap arm : Int} {down : Bool} {c : Nat → Int} {fs : List (ByteArray × Nat)} {es : Array MapEntry}
theorem setMap_go (w : World) (mb : Nat) (es : Array MapEntry) (clock : Nat) : Go4 w (setMap w mb es clock) (fun i => i = mb) (fun i => i = mb) :=
  ⟨rfl, rfl, rfl, by rw [setMap_size]; exact Nat.le_refl _, fun k _ h => setMap_ne h, fun k h => .inl h⟩
set_option maxRecDepth 100000 in
set_option maxHeartbeats 2000000 in
theorem hold_any {fb : Nat} {s : ByteArray} (hb : DkBox w dB mb cap arm down c) (hm : MpB w mb fs es clock) (hs : s.size ≤ 281474976710656) :
    Calls Try.prog 37 #[.pointer (some ⟨dB, 0, none⟩), .string s, .pointer (some ⟨fb, 0, none⟩)] w fun e w' => e = .returned (.tuple #[]) ∧ ∃ es' clock', MpB w' mb (setN fs s fb) es' clock' ∧ Go4 w w' (fun i => i = mb) (fun i => i = mb) := by
  have HBX := Lib.hid hb
  have HM := Lib.hid hm
  have HC := fun W => Lib.hid (clone_any hs W)
  have lb := hb.lt
  clear hb hm
  go_enter Try.func37, Try.ntmps37
  have BD : Below w.heap.size w w.drew := (Below.refl _ _).drew
  refine wp_region_noPanic ?_
  refine wp_region_anyE (S := fun wx => Below w.heap.size w wx) (E := fun j => !(decide (j = 7))) (by kernel_rfl) ?_
  have hHeld : Below w.heap.size w w.drew := BD
  have HB := Lib.hid BD
  obtain ⟨Z0, hZ0⟩ : ∃ z, z = w.drew := ⟨_, rfl⟩
  rw [← hZ0] at HB hHeld ⊢
  clear hZ0 BD
  refine AnyE.take (i := 0) (.pointer (some ⟨dB, 0, none⟩)) rfl (by kernel_rfl) (by kernel_rfl) (by kernel_rfl) (by kernel_rfl) (fun _ _ _ h => h) (.inl ⟨by kernel_rfl, fun wy hy => by (go_simp; done)⟩) hHeld ?_
  try simp only [Act.put, List.setIfInBounds_toArray, List.set_cons_zero, List.set_cons_succ]
  refine AnyE.take (i := 1) (.pointer (some ⟨dB, 0, none⟩)) rfl (by kernel_rfl) (by kernel_rfl) (by kernel_rfl) (by kernel_rfl) (fun _ _ _ h => h) (.inl ⟨by kernel_rfl, fun wy hy => by (go_simp; done)⟩) hHeld ?_
  try simp only [Act.put, List.setIfInBounds_toArray, List.set_cons_zero, List.set_cons_succ]
  refine AnyE.take (i := 2) (.pointer (some ⟨dB, 0, none⟩)) rfl (by kernel_rfl) (by kernel_rfl) (by kernel_rfl) (by kernel_rfl) (fun _ _ _ h => h) (.inl ⟨by kernel_rfl, fun wy hy => by (go_simp; done)⟩) hHeld ?_
  try simp only [Act.put, List.setIfInBounds_toArray, List.set_cons_zero, List.set_cons_succ]
  refine AnyE.take (i := 3) (.map (some mb)) rfl (by kernel_rfl) (by kernel_rfl) (by kernel_rfl) (by kernel_rfl) (fun _ _ _ h => h) (.inl ⟨by kernel_rfl, fun wy hy => by (have q := (HBX.out.kept (hy.block _ lb)).cells.1; go_simp; done)⟩) hHeld ?_
  try simp only [Act.put, List.setIfInBounds_toArray, List.set_cons_zero, List.set_cons_succ]
  refine AnyE.take (i := 4) (.string s) rfl (by kernel_rfl) (by kernel_rfl) (by kernel_rfl) (by kernel_rfl) (fun _ _ _ h => h) (.inl ⟨by kernel_rfl, fun wy hy => by (go_simp; done)⟩) hHeld ?_
  try simp only [Act.put, List.setIfInBounds_toArray, List.set_cons_zero, List.set_cons_succ]
  refine AnyE.take (i := 6) (.pointer (some ⟨fb, 0, none⟩)) rfl (by kernel_rfl) (by kernel_rfl) (by kernel_rfl) (by kernel_rfl) (fun _ _ _ h => h) (.inl ⟨by kernel_rfl, fun wy hy => by (go_simp; done)⟩) hHeld ?_
  try simp only [Act.put, List.setIfInBounds_toArray, List.set_cons_zero, List.set_cons_succ]
  refine AnyE.one (i := 5) rfl (by kernel_rfl) (by kernel_rfl) (fun KK hK => ?_)
  go_simp
  go_at_call 51
  refine (HC Z0).out.mono ?_
  rintro e9 Z2 ⟨rfl, b1⟩
  have HB := Lib.hid (HB.out.trans (b1.mono HB.out.size))
  clear b1
  go_wp2_with fail
  refine hK.out _ _ ⟨fun _ => HB.out, ?_⟩
  have hHeld := HB.out
  clear hK
  try simp only [Act.put, List.setIfInBounds_toArray, List.set_cons_zero, List.set_cons_succ]
  refine AnyE.one (i := 7) rfl (by kernel_rfl) (by kernel_rfl) (fun KK hK => ?_)
  obtain ⟨es', ck', hrun, hm'⟩ := (HM.out.kept (HB.out.block _ HM.out.lt)).put s fb
  have G := Lib.hid ((Go4.of_below (O := fun i => i = mb) HB.out).trans (setMap_go Z2 mb es' ck'))
  have HM2 := Lib.hid hm'
  clear hm'
  go_simp
  refine hK.out _ _ ⟨fun h => (by cases h), ?_⟩
  clear hK
  try simp only [Act.put, List.setIfInBounds_toArray, List.set_cons_zero, List.set_cons_succ]
  refine AnyE.done (by kernel_rfl) (NoPanic.normal ?_) _
  obtain ⟨Z3, hZ3⟩ : ∃ z, z = setMap Z2 mb es' ck' := ⟨_, rfl⟩
  rw [← hZ3] at HM2 G ⊢
  clear hrun hZ3
  go_simp
  go_end0
  exact ⟨rfl, ⟨es', ck', HM2.out⟩, G.out⟩
end Go.Proofs.Ytbheifelfeekmaa

namespace Go.Proofs.Ytbheifelfeekmaa
open Go.RowKit Go.MapKept
set_option linter.unusedVariables false
set_option linter.unusedSimpArgs false

abbrev PF := ByteArray × List Nat × Nat
def FE.pf (f : FE) : PF := (f.nm, f.dat, f.syn)
def FE.nb (f : FE) : ByteArray × Nat := (f.nm, f.b)
def setF : List FE → FE → List FE
  | [], f => [f]
  | x :: xs, f => if x.nm = f.nm then f :: xs else x :: setF xs f
def delF : List FE → ByteArray → List FE
  | [], _ => []
  | x :: xs, s => if x.nm = s then xs else x :: delF xs s
def setP : List PF → PF → List PF
  | [], f => [f]
  | x :: xs, f => if x.1 = f.1 then f :: xs else x :: setP xs f
def delP : List PF → ByteArray → List PF
  | [], _ => []
  | x :: xs, s => if x.1 = s then xs else x :: delP xs s
def atP : List PF → ByteArray → Option (List Nat × Nat)
  | [], _ => none
  | x :: xs, s => if x.1 = s then some x.2 else atP xs s
def atF : List FE → ByteArray → Option FE
  | [], _ => none
  | x :: xs, s => if x.nm = s then some x else atF xs s
theorem setF_nb (f : FE) : ∀ l : List FE, (setF l f).map FE.nb = setN (l.map FE.nb) f.nm f.b
  | [] => rfl
  | x :: xs => by
    by_cases h : x.nm = f.nm
    · simp [setF, setN, h, FE.nb]
    · simp [setF, setN, h, FE.nb]
      simpa [FE.nb] using setF_nb f xs
theorem setF_pf (f : FE) : ∀ l : List FE, (setF l f).map FE.pf = setP (l.map FE.pf) f.pf
  | [] => rfl
  | x :: xs => by
    by_cases h : x.nm = f.nm
    · simp [setF, setP, h, FE.pf]
    · simp [setF, setP, h, FE.pf]
      simpa [FE.pf] using setF_pf f xs
theorem delF_nb (s : ByteArray) : ∀ l : List FE, (delF l s).map FE.nb = delN (l.map FE.nb) s
  | [] => rfl
  | x :: xs => by
    by_cases h : x.nm = s
    · simp [delF, delN, h, FE.nb]
    · simp [delF, delN, h, FE.nb]
      simpa [FE.nb] using delF_nb s xs
theorem delF_pf (s : ByteArray) : ∀ l : List FE, (delF l s).map FE.pf = delP (l.map FE.pf) s
  | [] => rfl
  | x :: xs => by
    by_cases h : x.nm = s
    · simp [delF, delP, h, FE.pf]
    · simp [delF, delP, h, FE.pf]
      simpa [FE.pf] using delF_pf s xs
theorem atF_nb (s : ByteArray) : ∀ l : List FE, atN (l.map FE.nb) s = (atF l s).map (·.b)
  | [] => rfl
  | x :: xs => by
    by_cases h : x.nm = s
    · simp [atF, atN, h, FE.nb]
    · simp [atF, atN, h, FE.nb]
      simpa [FE.nb] using atF_nb s xs
theorem atF_pf (s : ByteArray) : ∀ l : List FE, atP (l.map FE.pf) s = (atF l s).map (fun f => (f.dat, f.syn))
  | [] => rfl
  | x :: xs => by
    by_cases h : x.nm = s
    · simp [atF, atP, h, FE.pf]
    · simp [atF, atP, h, FE.pf]
      simpa [FE.pf] using atF_pf s xs
theorem atF_mem {s : ByteArray} {f : FE} : ∀ {l : List FE}, atF l s = some f → f ∈ l ∧ f.nm = s
  | x :: xs, h => by
    by_cases e : x.nm = s
    · rw [atF, if_pos e] at h
      cases h
      exact ⟨by simp, e⟩
    · rw [atF, if_neg e] at h
      have := atF_mem h
      exact ⟨by simp [this.1], this.2⟩
theorem atF_none {s : ByteArray} : ∀ {l : List FE}, atF l s = none → ∀ f ∈ l, f.nm ≠ s
  | [], _, f, hf => by cases hf
  | x :: xs, h, f, hf => by
    by_cases e : x.nm = s
    · rw [atF, if_pos e] at h; cases h
    · rw [atF, if_neg e] at h
      rcases List.mem_cons.1 hf with rfl | hf
      · exact e
      · exact atF_none h f hf
theorem setF_mem {f x : FE} : ∀ {l : List FE}, (l.map FE.nm).Nodup → x ∈ setF l f → x = f ∨ (x ∈ l ∧ x.nm ≠ f.nm)
  | [], _, h => by simp [setF] at h; exact .inl h
  | y :: l, hn, h => by
    rw [List.map_cons, List.nodup_cons] at hn
    by_cases e : y.nm = f.nm
    · rw [setF, if_pos e] at h
      rcases List.mem_cons.1 h with h | h
      · exact .inl h
      · exact .inr ⟨by simp [h], fun e2 => hn.1 (by rw [e, ← e2]; exact List.mem_map.2 ⟨_, h, rfl⟩)⟩
    · rw [setF, if_neg e] at h
      rcases List.mem_cons.1 h with rfl | h
      · exact .inr ⟨by simp, e⟩
      · rcases setF_mem hn.2 h with h | h
        · exact .inl h
        · exact .inr ⟨by simp [h.1], h.2⟩
theorem setF_pair {R : FE → FE → Prop} {f : FE} : ∀ {l : List FE}, (l.map FE.nm).Nodup → l.Pairwise R → (∀ x ∈ l, x.nm ≠ f.nm → R x f ∧ R f x) → (setF l f).Pairwise R
  | [], _, _, _ => by simp [setF]
  | y :: l, hn, hp, hx => by
    rw [List.map_cons, List.nodup_cons] at hn
    rw [List.pairwise_cons] at hp
    by_cases e : y.nm = f.nm
    · rw [setF, if_pos e, List.pairwise_cons]
      refine ⟨fun x h => (hx x (by simp [h]) (fun e2 => hn.1 (by rw [e, ← e2]; exact List.mem_map.2 ⟨_, h, rfl⟩))).2, hp.2⟩
    · rw [setF, if_neg e, List.pairwise_cons]
      refine ⟨fun x h => ?_, setF_pair hn.2 hp.2 (fun x h => hx x (by simp [h]))⟩
      rcases setF_mem hn.2 h with rfl | h
      · exact (hx y (by simp) e).1
      · exact hp.1 x h.1
theorem delF_sub (s : ByteArray) : ∀ l : List FE, (delF l s).Sublist l
  | [] => List.Sublist.refl _
  | x :: xs => by
    by_cases h : x.nm = s
    · rw [delF, if_pos h]; exact List.sublist_cons_self _ _
    · rw [delF, if_neg h]; exact (delF_sub s xs).cons_cons _
theorem delF_ne {s : ByteArray} {x : FE} : ∀ {l : List FE}, (l.map FE.nm).Nodup → x ∈ delF l s → x.nm ≠ s
  | [], _, h => by cases h
  | y :: l, hn, h => by
    rw [List.map_cons, List.nodup_cons] at hn
    by_cases e : y.nm = s
    · rw [delF, if_pos e] at h
      exact fun e2 => hn.1 (by rw [e, ← e2]; exact List.mem_map.2 ⟨_, h, rfl⟩)
    · rw [delF, if_neg e] at h
      rcases List.mem_cons.1 h with rfl | h
      · exact e
      · exact delF_ne hn.2 h
variable {w w' : World} {O O' : Nat → Prop} {dB mb : Nat} {fl : List FE} {cap arm cap' arm' : Int} {down down' : Bool} {c c' : Nat → Int}
theorem DskM.names (h : DskM w O dB mb fl cap arm down c) : (fl.map FE.nm).Nodup := by
  obtain ⟨es, clock, hm⟩ := h.map
  have := hm.nodup
  rw [List.map_map] at this
  exact this
theorem DskM.putF (h : DskM w O dB mb fl cap arm down c) {f : FE} {es : Array MapEntry} {clock : Nat} (hm : MpB w' mb (setN (fl.map FE.nb) f.nm f.b) es clock) (hbx : DkBox w' dB mb cap' arm' down' c')
    (keep : ∀ g ∈ fl, g.nm ≠ f.nm → w'.heap[g.b]? = w.heap[g.b]? ∧ ∀ k, g.v.ownBlock = some k → w'.heap[k]? = w.heap[k]?) (hf : FBox w' f.b f.v f.syn ∧ OwnO w' O' f.v f.dat ∧ O' f.b) (hO : ∀ i, O i → O' i)
    (apart : ∀ g ∈ fl, g.nm ≠ f.nm → g.b ≠ f.b ∧ ∀ k, g.v.ownBlock = some k → f.v.ownBlock ≠ some k) (lt' : ∀ i, O' i → i < w'.heap.size) : DskM w' O' dB mb (setF fl f) cap' arm' down' c' := by
  have hn := h.names
  refine ⟨hbx, ⟨es, clock, ?_⟩, fun g hg => ?_, ?_, ?_, hO _ h.odb, hO _ h.omb, lt'⟩
  · have := setF_nb f fl
    unfold FE.nb at this hm
    rw [this]
    exact hm
  · rcases setF_mem hn hg with rfl | hg
    · exact hf
    · have k := keep g hg.1 hg.2
      have o := h.fil g hg.1
      exact ⟨o.1.kept k.1, o.2.1.kept (fun i hi => ⟨k.2 i hi, hO _ (o.2.1.blk i hi)⟩), hO _ o.2.2⟩
  · have p := h.nob
    rw [List.Nodup, List.pairwise_map] at p ⊢
    exact setF_pair hn p (fun x hx hne => ⟨(apart x hx hne).1, Ne.symm (apart x hx hne).1⟩)
  · exact setF_pair hn h.nod (fun x hx hne => ⟨(apart x hx hne).2, fun k hk hk2 => (apart x hx hne).2 k hk2 hk⟩)
theorem DskM.dropF (h : DskM w O dB mb fl cap arm down c) {s : ByteArray} {es : Array MapEntry} {clock : Nat} (hm : MpB w' mb (delN (fl.map FE.nb) s) es clock) (k : ∀ i, i ≠ mb → w'.heap[i]? = w.heap[i]?) (hs : w.heap.size ≤ w'.heap.size) : DskM w' O dB mb (delF fl s) cap arm down c := by
  refine ⟨h.box.kept (k _ (Ne.symm h.neMap)), ⟨es, clock, ?_⟩, fun g hg => ?_, ?_, h.nod.sublist (delF_sub s fl), h.odb, h.omb, fun i hi => Nat.lt_of_lt_of_le (h.lt i hi) hs⟩
  · have := delF_nb s fl
    unfold FE.nb at this hm
    rw [this]
    exact hm
  · have hg := (delF_sub s fl).mem hg
    have o := h.fil g hg
    exact ⟨o.1.kept (k _ (h.neFil hg).2), o.2.1.kept (fun i hi => ⟨k _ (h.neDat hg hi).2.1, o.2.1.blk i hi⟩), o.2.2⟩
  · have p := h.nob
    rw [List.Nodup, List.pairwise_map] at p ⊢
    exact p.sublist (delF_sub s fl)
theorem DskM.other (h : DskM w O dB mb fl cap arm down c) {f g : FE} (hf : f ∈ fl) (hg : g ∈ fl) (hne : g.nm ≠ f.nm) : g.b ≠ f.b ∧ ∀ k, g.v.ownBlock = some k → f.v.ownBlock ≠ some k := by
  have key : ∀ l : List FE, (l.map (·.b)).Nodup → l.Pairwise (fun f g => ∀ k, f.v.ownBlock = some k → g.v.ownBlock ≠ some k) → f ∈ l → g ∈ l → g.b ≠ f.b ∧ ∀ k, g.v.ownBlock = some k → f.v.ownBlock ≠ some k := by
    intro l
    induction l with
    | nil => intro _ _ h; cases h
    | cons x xs ih =>
      intro a b h1 h2
      rw [List.map_cons, List.nodup_cons] at a
      rw [List.pairwise_cons] at b
      rcases List.mem_cons.1 h1 with q1 | q1
      · rcases List.mem_cons.1 h2 with q2 | q2
        · exact absurd (by rw [q1, q2]) hne
        · rw [q1]
          exact ⟨fun e => a.1 (List.mem_map.2 ⟨_, q2, e⟩), fun k hk hk2 => b.1 _ q2 k hk2 hk⟩
      · rcases List.mem_cons.1 h2 with q2 | q2
        · rw [q2]
          exact ⟨fun e => a.1 (List.mem_map.2 ⟨_, q1, e.symm⟩), fun k hk => b.1 _ q1 k hk⟩
        · exact ih a.2 b.2 q1 q2
  exact key fl h.nob h.nod hf hg
theorem setN_same : ∀ {l : List (ByteArray × Nat)} {s : ByteArray} {b : Nat}, atN l s = some b → setN l s b = l
  | x :: xs, s, b, h => by
    by_cases e : x.1 = s
    · rw [atN, if_pos e] at h
      rw [setN, if_pos e]
      cases h
      rw [← e]
    · rw [atN, if_neg e] at h
      rw [setN, if_neg e, setN_same h]
end Go.Proofs.Ytbheifelfeekmaa

namespace Go.Proofs.Ytbheifelfeekmaa
open Go.RowKit Go.MapKept
set_option linter.unusedVariables false
set_option linter.unusedSimpArgs false
theorem dapp_run {w : World} {B n : Nat} {v src : Value} {xs bs : List Nat} (ty : TypeId) (hown : Own w B v n xs) (hrd : Rd w src bs) (hbytes : n + bs.length ≤ 140737488355328) (hB : B ≤ w.heap.size) :
    ∃ v' w', (Builtin.append_ #[29, 29] ty #[v, src]).run Try.prog w = .ok v' w' ∧ Own w' B v' (n + bs.length) (xs ++ bs) ∧ w.grownBy w' v.ownBlock ∧ (∀ k, v'.ownBlock = some k → v.ownBlock = some k ∨ k = w.heap.size) := by
  obtain ⟨i0, hi, hz0, hz1, hz2⟩ := info_parts info_byte
  obtain ⟨hby, a1, c1, rfl, hle, hm, hl48, hnone, hat⟩ := hrd
  cases a1 with
  | none =>
    have hb0 : bs = [] ∧ c1 = 0 := by
      rcases hnone with h | ⟨b, off, h⟩
      · exact ⟨List.eq_nil_of_length_eq_zero (by omega), h⟩
      · cases h
    obtain ⟨rfl, rfl⟩ := hb0
    exact ⟨v, w, run_append_owned_none (P := Try.prog) (w := w) B 29 ty 5 i0 1 und_bytes hi v n (bv xs) hown.2, by simpa using hown, World.grownBy.refl _ _, fun k hk => .inl hk⟩
  | some ad =>
    obtain ⟨v', w', hr, h2, h3, h4, h5⟩ := run_append_own_at (P := Try.prog) w B 29 ty 5 i0 (.int .u8 0) 1 1 und_bytes hi hz0 hz1 hz2 rfl (by decide) v n (bv xs) hown.2 ad bs.length c1 (bv bs) (by simp [bv]) hat.add (bv_oneCell bs) (by unfold maxLen; omega) (by omega) hB
    refine ⟨v', w', hr, ⟨by rw [hown.1]; simp, by simpa [bv] using h2⟩, h3, fun k hk => ?_⟩
    rcases h5 with h5 | h5
    · rw [h5] at hk; exact .inl hk
    · rw [h5] at hk; cases hk; exact .inr rfl
theorem dstep_append {w : World} {o : Oper} {a : Act} {K : Act → World → Prop} {Q : Exit → Act → World → Prop} (s x : Operand)
    (ho : o.op = .call { callee := .builtin .append, args := #[s, x], argTypes := #[29, 29] })
    {B n : Nat} {v src : Value} {xs bs : List Nat} (hs : a.eval s = v) (hown : Own w B v n xs) (hx : a.eval x = src) (hrd : Rd w src bs) (hbytes : n + bs.length ≤ 140737488355328) (hB : B ≤ w.heap.size)
    (h : ∀ a' c' w', Own w' B (.slice a' (n + bs.length) c') (n + bs.length) (xs ++ bs) → w.grownBy w' v.ownBlock → (∀ k, (Value.slice a' (n + bs.length) c').ownBlock = some k → v.ownBlock = some k ∨ k = w.heap.size) → K (a.put o.dst (.slice a' (n + bs.length) c')) w') :
    Oper.wp Try.prog o a w K Q := by
  obtain ⟨v', w', hrn, h1, h2, h3⟩ := dapp_run o.type hown hrd hbytes hB
  obtain ⟨a', c', rfl⟩ := own_form h1.2
  unfold Oper.wp execOp
  rw [ho]
  simp only [resolve, invoke, builtin, Sem.run_bind, Sem.run_pure, Result.andThen_ok, List.map_toArray, List.map_cons, List.map_nil, hs, hx, hrn]
  exact h a' c' w' h1 h2 h3
variable {w w' W : World} {O O' : Nat → Prop} {dB mb : Nat} {fl : List FE} {cap arm : Int} {down : Bool} {c : Nat → Int}
theorem DskM.inF (h : DskM w O dB mb fl cap arm down c) {f f' : FE} (hf : atF fl f'.nm = some f) (hb : f'.b = f.b) (hbx : FBox w' f'.b f'.v f'.syn) (ho : OwnO w' O' f'.v f'.dat) (hO : ∀ i, O i → O' i)
    (k : ∀ i, O i → i ≠ f.b → f.v.ownBlock ≠ some i → w'.heap[i]? = w.heap[i]?) (hv : ∀ i, f'.v.ownBlock = some i → f.v.ownBlock = some i ∨ ¬ O i) (lt' : ∀ i, O' i → i < w'.heap.size) : DskM w' O' dB mb (setF fl f') cap arm down c := by
  obtain ⟨es, clock, hm⟩ := h.map
  obtain ⟨hm1, hm2⟩ := atF_mem hf
  have hk : ∀ i, O i → i ≠ f.b → f.v.ownBlock ≠ some i → w'.heap[i]? = w.heap[i]? := k
  refine h.putF (es := es) (clock := clock) ?_ (h.box.kept (k _ h.odb (Ne.symm (h.neFil hm1).1) (fun e => (h.neDat hm1 e).1 rfl))) (fun g hg hne => ?_) ⟨hbx, ho, hb ▸ hO _ (h.fil f hm1).2.2⟩ hO (fun g hg hne => ?_) lt'
  · have e : setN (fl.map FE.nb) f'.nm f'.b = fl.map FE.nb := setN_same (by rw [atF_nb, hf, hb]; rfl)
    rw [e]
    exact hm.kept (k _ h.omb (Ne.symm (h.neFil hm1).2) (fun e => (h.neDat hm1 e).2.1 rfl))
  · have hne2 : g.nm ≠ f.nm := by rw [hm2]; exact hne
    have := h.other hm1 hg hne2
    refine ⟨k _ (h.fil g hg).2.2 this.1 (fun e => (h.neDat hm1 e).2.2 g hg rfl), fun i hi => k _ ((h.fil g hg).2.1.blk i hi) (fun e => (h.neDat hg hi).2.2 f hm1 e) (fun e => this.2 i hi e)⟩
  · have hne2 : g.nm ≠ f.nm := by rw [hm2]; exact hne
    have := h.other hm1 hg hne2
    refine ⟨by rw [hb]; exact this.1, fun i hi e => ?_⟩
    rcases hv i e with q | q
    · exact this.2 i hi q
    · exact q ((h.fil g hg).2.1.blk i hi)
theorem FBox.setSyn {b syn : Nat} {v : Value} (h : FBox w b v syn) (x : Nat) : FBox (w.setCell ⟨b, 1, none⟩ (.int .i64 (x : Int))) b v x := by
  unfold FBox at h ⊢
  rw [heap_setCell_same w b 1 _ _ _ h]
  simp
theorem FBox.setV {b syn : Nat} {v : Value} (h : FBox w b v syn) (x : Value) : FBox (w.setCell ⟨b, 0, none⟩ x) b x syn := by
  unfold FBox at h ⊢
  rw [heap_setCell_same w b 0 _ _ _ h]
  simp
theorem FBox.new (w : World) (v : Value) (x : Nat) : FBox (w.alloc (.cells #[v, .int .i64 (x : Int)] 72)) w.heap.size v x := by
  unfold FBox
  show (w.heap.push _)[w.heap.size]? = _
  simp
theorem hold_dsk {f : FE} (hD : DskM W O dB mb fl cap arm down c) (hbx : FBox W f.b f.v f.syn) (ho : OwnO W O' f.v f.dat) (hfo : O' f.b) (hO : ∀ i, O i → O' i) (lt' : ∀ i, O' i → i < W.heap.size)
    (apart : ∀ g ∈ fl, g.nm ≠ f.nm → g.b ≠ f.b ∧ ∀ k, g.v.ownBlock = some k → f.v.ownBlock ≠ some k) (hs : f.nm.size ≤ 281474976710656) :
    Calls Try.prog 37 #[.pointer (some ⟨dB, 0, none⟩), .string f.nm, .pointer (some ⟨f.b, 0, none⟩)] W fun e w' => e = .returned (.tuple #[]) ∧ DskM w' O' dB mb (setF fl f) cap arm down c ∧ Go4 W w' (fun i => i = mb) (fun i => i = mb) := by
  obtain ⟨es, clock, hm⟩ := hD.map
  refine (hold_any (fb := f.b) hD.box hm hs).mono ?_
  rintro e w' ⟨rfl, es', ck', hm', g⟩
  have hmb : W.heap[mb]? = some (.map es clock) := hm.blk
  have hfb : f.b ≠ mb := by
    intro e
    unfold FBox at hbx
    rw [e, hmb] at hbx
    cases hbx
  have hk : ∀ i, i < W.heap.size → i ≠ mb → w'.heap[i]? = W.heap[i]? := fun i hi h => g.block i hi h
  refine ⟨rfl, hD.putF hm' (hD.box.kept (hk _ hD.box.lt (Ne.symm hD.neMap))) (fun x hx _ => ⟨hk _ (hD.fil x hx).1.lt (hD.neFil hx).2, fun i hi => hk i (hD.lt i ((hD.fil x hx).2.1.blk i hi)) (hD.neDat hx hi).2.1⟩) ⟨hbx.kept (hk _ hbx.lt hfb), ho.kept (fun i hi => ⟨hk i (lt' i (ho.blk i hi)) (fun e => ?_), ho.blk i hi⟩), hfo⟩ hO apart (fun i hi => Nat.lt_of_lt_of_le (lt' i hi) g.size), g⟩
  obtain ⟨cur, h3⟩ := ho.typ hi
  rw [e, hmb] at h3
  cases h3
theorem Go4.open2 {w W w' : World} {O O' : Nat → Prop} {n : Nat} (b : Below w.heap.size w W) (hn : w.heap.size ≤ n) (h : Go4 W w' (fun i => O i ∨ i = n) (fun i => O' i ∨ i = n)) : Go4 w w' O (fun i => O' i ∨ i = n) :=
  ⟨h.os.trans b.os, h.tape.trans b.tape, h.output.trans b.output, Nat.le_trans b.size h.size, fun i hi ho => (h.block i (Nat.lt_of_lt_of_le hi b.size) (fun z => z.elim ho (fun e => by omega))).trans (b.block i hi), fun i hi => by
    rcases h.new i hi with (h1 | h1) | h1
    · exact .inl h1
    · exact .inr (by omega)
    · exact .inr (Nat.le_trans b.size h1)⟩
def Does (W : World) (O : Nat → Prop) (dB mb : Nat) (cap arm : Int) (down : Bool) (ps : List PF) (c' : Nat → Int) (e : Ending) (w' : World) : Prop :=
  e = .returned (.tuple #[]) ∧ ∃ O2 fl2 c2, (fl2.map FE.pf = ps ∧ c2 = c') ∧ DskM w' O2 dB mb fl2 cap arm down c2 ∧ Go4 W w' O O2
set_option maxRecDepth 100000 in
set_option maxHeartbeats 2000000 in
theorem create1_any {p q : Nat} {s : ByteArray} (hD : DskM W O dB mb fl cap arm down c) (cp : W.cell? ⟨p, 0, none⟩ = some (.pointer (some ⟨dB, 0, none⟩))) (cq : W.cell? ⟨q, 0, none⟩ = some (.string s)) (hs : s.size ≤ 281474976710656) (hno : atF fl s = none) :
    Calls Try.prog 36 #[.pointer (some ⟨p, 0, none⟩), .pointer (some ⟨q, 0, none⟩)] W (Does W O dB mb cap arm down (setP (fl.map FE.pf) (s, [], 0)) c) := by
  have bA : Below W.heap.size W (W.alloc (.cells #[.slice none 0 0, .int .i64 0] 72)) := (Below.refl _ _).alloc (Nat.le_refl _) _
  have fA : FBox (W.alloc (.cells #[.slice none 0 0, .int .i64 0] 72)) W.heap.size (.slice none 0 0) 0 := FBox.new W _ 0
  have sA : (W.alloc (.cells #[.slice none 0 0, .int .i64 0] 72)).heap.size = W.heap.size + 1 := by simp
  obtain ⟨V, hV⟩ : ∃ V, V = W.alloc (.cells #[.slice none 0 0, .int .i64 0] 72) := ⟨_, rfl⟩
  rw [← hV] at bA fA sA
  have HC := Lib.hid (hold_dsk (O' := fun i => O i ∨ i = W.heap.size) (f := ⟨s, W.heap.size, .slice none 0 0, [], 0⟩) (hD.below bA) fA (OwnO.nil _ _) (.inr rfl) (fun i h => .inl h) (fun i h => by exact h.elim (fun h => by have := hD.lt i h; omega) (fun h => by omega)) (fun g hg _ => ⟨fun e => by have := hD.lt _ (hD.fil g hg).2.2; simp only at e; omega, fun k _ h => by cases h⟩) hs)
  have HB := Lib.hid bA
  have HV := Lib.hid hV
  have HD := Lib.hid hD
  clear bA fA sA hV hD hno
  go_enter Try.func36, Try.ntmps36
  go_wp2_with fail
  rw [← HV.out]
  refine HC.out.mono ?_
  rintro e w2 ⟨rfl, d2, g2⟩
  have HD2 := Lib.hid d2
  have HG2 := Lib.hid g2
  clear d2 g2
  go_wp2
  go_end0
  refine ⟨rfl, _, _, c, ⟨setF_pf _ _, rfl⟩, HD2.out, Go4.open2 HB.out (Nat.le_refl _) (HG2.out.wide (fun i h => .inl (by rw [h]; exact HD.out.omb)) (fun i h => .inr h))⟩
end Go.Proofs.Ytbheifelfeekmaa
