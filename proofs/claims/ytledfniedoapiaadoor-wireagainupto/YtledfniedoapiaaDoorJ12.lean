import Derived.Test.YtledfniedoapiaaDoorJ09
import Derived.Lib.Hide
import Derived.Deep.DeepCutAuto
import Derived.Deep.RegionHeld3
import Derived.Test.YtledfniedoapiaaDoorJ11
namespace Go.Proofs.YtledfniedoapiaaDoor
open Go.RowKit
set_option linter.unusedVariables false

set_option maxRecDepth 100000 in
set_option maxHeartbeats 4000000 in
theorem keep_any {w : World} {g B n m c : Nat} {a aL aW : Option Addr} {cL cW : Nat} {ls ws : List Value} {xs : List Nat} (hk : KBox w g (.slice aL n cL) (.slice aW n cW)) (rL : RowS w B (.slice aL n cL) n ls) (rW : RowS w B (.slice aW n cW) n ws) (hne : ∀ x, (Value.slice aL n cL).ownBlock = some x → (Value.slice aW n cW).ownBlock ≠ some x) (ho : Own w B (.slice a m c) m xs) (hby : Bys xs) (hl : xs.length ≤ 4194304) (hn : n ≤ 1000) (hB : B ≤ w.heap.size) :
    Calls Tryd.prog 19 #[.pointer (some ⟨g, 0, none⟩), .slice a m c] w fun r w' => r = .returned (.tuple #[]) ∧ ∃ aL' cL' aW' cW' va vm vc, KBox w' g (.slice aL' (n + 1) cL') (.slice aW' (n + 1) cW') ∧ RowS w' B (.slice aL' (n + 1) cL') (n + 1) (ls ++ [.slice a m c]) ∧ RowS w' B (.slice aW' (n + 1) cW') (n + 1) (ws ++ [.slice va vm vc]) ∧ Own w' w.heap.size (.slice va vm vc) vm xs ∧ (∀ x, (Value.slice aL' (n + 1) cL').ownBlock = some x → (Value.slice aW' (n + 1) cW').ownBlock ≠ some x) ∧ (∀ i, i < w.heap.size → i ≠ g → (Value.slice aL n cL).ownBlock ≠ some i → (Value.slice aW n cW).ownBlock ≠ some i → w'.heap[i]? = w.heap[i]?) ∧ w.heap.size ≤ w'.heap.size ∧ w'.os = w.os ∧ w'.tape = w.tape ∧ w'.output = w.output ∧ ((Value.slice aL' (n + 1) cL').ownBlock = (Value.slice aL n cL).ownBlock ∨ ∀ x, (Value.slice aL' (n + 1) cL').ownBlock = some x → w.heap.size ≤ x) ∧ ((Value.slice aW' (n + 1) cW').ownBlock = (Value.slice aW n cW).ownBlock ∨ ∀ x, (Value.slice aW' (n + 1) cW').ownBlock = some x → w.heap.size ≤ x) := by
  have hm : m ≤ 4194304 := by rw [ho.1]; exact hl
  have HKB := Lib.hid hk
  have HRL := Lib.hid rL
  have HRW := Lib.hid rW
  have HNE := Lib.hid hne
  have HO := Lib.hid ho
  have RD := ho.rd hby (by omega)
  clear hk rL rW hne ho
  go_enter Tryd.func19, Tryd.ntmps19
  go_upto_region 2 with (at_builtin; refine wpList_append_at rfl (.tmp 5) _ rfl w.heap.size none 0 0 [] rfl ⟨rfl, World.ownsRow_nil _ _ _ _⟩ a m c xs rfl RD (by omega) (Nat.le_refl _) ?_; intro va vm vc w0 own0 hb0)
  have HO0 : Hid (Own w0 w.heap.size (.slice va vm vc) vm xs) := by unfold Hid; simpa using own0
  have HB0 := Lib.hid hb0
  have K0 := Lib.hid (HKB.out.later hb0)
  have RL0 := HRL.out.later hb0
  have RW0 := Lib.hid (HRW.out.later hb0)
  have OB0 := Lib.hid (HO.out.later hb0)
  have k0 := K0.out.l
  have f0 := K0.out.fz 0
  have hB0 : B ≤ w0.heap.size := Nat.le_trans hB hb0.size
  clear own0 hb0 RD
  go_upto_region 3 with (at_builtin; refine wpList_append_one rfl _ _ rfl B aL n cL ls rfl RL0 (.slice a m c) rfl rfl (by omega) hB0 ?_; intro aL' cL' w1 r1 g1 b1; have K1 := Lib.hid (K0.out.far g1 (fun x hx => kbox_row K0.out RL0 hx)); have k1 := K1.out.l; have f1 := K1.out.fz 0; have R1 := Lib.hid r1; have G1 := Lib.hid g1; have E1 := Lib.hid b1; clear r1 g1 b1)
  obtain ⟨W1, hW1⟩ : ∃ W1, W1 = w1.setCell ⟨g, 0, none⟩ (.slice aL' (n + 1) cL') := ⟨_, rfl⟩
  have SG : w1.grownBy W1 (some g) := by rw [hW1]; exact set_grown _ _ _ _
  have KB1 : Hid (KBox W1 g (.slice aL' (n + 1) cL') (.slice aW n cW)) := by rw [hW1]; exact K1.out.setL _
  have RL1 : Hid (RowS W1 B (.slice aL' (n + 1) cL') (n + 1) (ls ++ [.slice a m c])) := R1.out.far SG (fun x hx e => by cases hx; exact kbox_row K1.out R1.out e rfl)
  have RWm := RW0.out.far G1.out (fun x hx => HNE.out x hx)
  have RW1 : RowS W1 B (.slice aW n cW) n ws := RWm.far SG (fun x hx e => by cases hx; exact kbox_row K1.out RWm e rfl)
  have Ov := HO0.out.far G1.out (fun x hx => row_own RL0 HO0.out hx)
  have OV1 : Hid (Own W1 w.heap.size (.slice va vm vc) vm xs) := Ov.far SG (fun x hx e => by cases hx; exact kbox_own K1.out Ov e rfl)
  have SZ : Hid (w.heap.size ≤ w0.heap.size ∧ w0.heap.size ≤ w1.heap.size ∧ W1.heap.size = w1.heap.size) := ⟨HB0.out.size, G1.out.size, by rw [hW1]; simp [World.setCell]⟩
  have hB1 : B ≤ W1.heap.size := by have := SZ.out; omega
  have kw := KB1.out.w
  have fw := KB1.out.fz 1
  have LLT : Hid (∀ x, (Value.slice aL n cL).ownBlock = some x → x < w.heap.size) := fun x hx => (HRL.out.2.2.lt x hx).2
  have WLT : Hid (∀ x, (Value.slice aW n cW).ownBlock = some x → x < w.heap.size) := fun x hx => (HRW.out.2.2.lt x hx).2
  have L1LT : Hid (∀ x, (Value.slice aL' (n + 1) cL').ownBlock = some x → x < w1.heap.size) := fun x hx => (R1.out.2.2.lt x hx).2
  have RLh := Lib.hid RL0
  rw [← hW1]
  clear hW1 k0 f0 k1 f1 RWm Ov RL0
  go_wp2_with (at_builtin; refine wpList_append_one rfl _ _ rfl B aW n cW ws rfl RW1 (.slice va vm vc) rfl rfl (by omega) hB1 ?_; intro aW' cW' w3 r3 g3 b3; have K3 := Lib.hid (KB1.out.far g3 (fun x hx => kbox_row KB1.out RW1 hx)); have k3 := K3.out.w; have f3 := K3.out.fz 1; have R3 := Lib.hid r3; have G3 := Lib.hid g3; have E3 := Lib.hid b3; clear r3 g3 b3)
  have SG2 := set_grown w3 g 1 (.slice aW' (n + 1) cW')
  have KB4 := K3.out.setW (.slice aW' (n + 1) cW')
  have NL : ∀ x, (Value.slice aL' (n + 1) cL').ownBlock = some x → (Value.slice aW n cW).ownBlock ≠ some x := fun x hx hy => by
    rcases E1.out with e | e
    · rw [e] at hx; exact HNE.out x hx hy
    · have := e x hx; have := WLT.out x hy; have := SZ.out; omega
  have RL3 := RL1.out.far G3.out (fun x hx hy => NL x hy hx)
  have RL4 := RL3.far SG2 (fun x hx e => by cases hx; exact kbox_row K3.out RL3 e rfl)
  have RW4 := R3.out.far SG2 (fun x hx e => by cases hx; exact kbox_row K3.out R3.out e rfl)
  have o3 := OV1.out.far G3.out (fun x hx => row_own RW1 OV1.out hx)
  have o4 := o3.far SG2 (fun x hx e => by cases hx; exact kbox_own K3.out o3 e rfl)
  have NLW : ∀ x, (Value.slice aL' (n + 1) cL').ownBlock = some x → (Value.slice aW' (n + 1) cW').ownBlock ≠ some x := fun x hx hy => by
    rcases E3.out with e | e
    · rw [e] at hy; exact NL x hx hy
    · have h1 := e x hy; have h2 := L1LT.out x hx; have := SZ.out; omega
  have BLK : ∀ i, i < w.heap.size → i ≠ g → (Value.slice aL n cL).ownBlock ≠ some i → (Value.slice aW n cW).ownBlock ≠ some i → (w3.setCell ⟨g, 1, none⟩ (.slice aW' (n + 1) cW')).heap[i]? = w.heap[i]? := fun i hi hg hL hW => by
    have hz := SZ.out
    rw [SG2.block i (by have := G3.out.size; omega) (fun e => by cases e; exact hg rfl), G3.out.block i (by omega) (fun e => hW e.symm), SG.block i (by omega) (fun e => by cases e; exact hg rfl), G1.out.block i (by omega) (fun e => hL e.symm), HB0.out.block i hi]
  have SZ4 : w.heap.size ≤ (w3.setCell ⟨g, 1, none⟩ (.slice aW' (n + 1) cW')).heap.size := by have := SG2.size; have := G3.out.size; have := SZ.out; omega
  have NB1 : (Value.slice aL' (n + 1) cL').ownBlock = (Value.slice aL n cL).ownBlock ∨ ∀ x, (Value.slice aL' (n + 1) cL').ownBlock = some x → w.heap.size ≤ x := by
    rcases E1.out with e | e
    · exact .inl e
    · exact .inr fun x hx => by have := e x hx; have := SZ.out; omega
  have NB3 : (Value.slice aW' (n + 1) cW').ownBlock = (Value.slice aW n cW).ownBlock ∨ ∀ x, (Value.slice aW' (n + 1) cW').ownBlock = some x → w.heap.size ≤ x := by
    rcases E3.out with e | e
    · exact .inl e
    · exact .inr fun x hx => by have := e x hx; have := SZ.out; omega
  refine bodyPost_end (v := .tuple #[]) (by first | rfl | kernel_rfl) rfl ?_
  exact ⟨rfl, aL', cL', aW', cW', va, vm, vc, KB4, RL4, RW4, o4, NLW, BLK, SZ4, SG2.os.trans (G3.out.os.trans (SG.os.trans (G1.out.os.trans HB0.out.os))), SG2.tape.trans (G3.out.tape.trans (SG.tape.trans (G1.out.tape.trans HB0.out.tape))), SG2.output.trans (G3.out.output.trans (SG.output.trans (G1.out.output.trans HB0.out.output))), NB1, NB3⟩

end Go.Proofs.YtledfniedoapiaaDoor

namespace Go.Proofs.YtledfniedoapiaaDoor
open Go.RowKit
set_option linter.unusedVariables false

/-- Two byte strings that lie apart. -/
def AP (u v : Value) : Prop := ∀ g, u.ownBlock = some g → v.ownBlock ≠ some g
theorem AP.symm {u v : Value} (h : AP u v) : AP v u := fun g hv hu => h g hu hv
/-- An item of the book: what was handed out, the copy, what they hold. -/
structure Item where
  l : Value
  k : Value
  xs : List Nat
/-- The book: each item and each copy owns its bytes, all apart. -/
structure Bk (w : World) (B g n : Nat) (its : List Item) : Prop where
  box : ∃ aL cL aW cW, KBox w g (.slice aL n cL) (.slice aW n cW) ∧ RowS w B (.slice aL n cL) n (its.map Item.l) ∧ RowS w B (.slice aW n cW) n (its.map Item.k) ∧ AP (.slice aL n cL) (.slice aW n cW)
  own : ∀ p ∈ its, Own w B p.l p.xs.length p.xs ∧ Own w B p.k p.xs.length p.xs ∧ Bys p.xs ∧ p.xs.length ≤ 4194304
  apart : (its.map Item.l ++ its.map Item.k).Pairwise AP
theorem Bk.later {w w' : World} {B g n : Nat} {its : List Item} (h : Bk w B g n its) (hb : Below w.heap.size w w') : Bk w' B g n its := by
  obtain ⟨⟨aL, cL, aW, cW, h1, h2, h3, h4⟩, h5, h6⟩ := h
  exact ⟨⟨aL, cL, aW, cW, h1.later hb, h2.later hb, h3.later hb, h4⟩, fun p hp => ⟨(h5 p hp).1.later hb, (h5 p hp).2.1.later hb, (h5 p hp).2.2⟩, h6⟩
theorem Own.same_block {w w' : World} {B m : Nat} {v : Value} {xs : List Nat} (h : Own w B v m xs) (k : ∀ g, v.ownBlock = some g → w'.heap[g]? = w.heap[g]?) : Own w' B v m xs := by
  refine ⟨h.1, h.2.1, ?_⟩
  rcases h.2.2 with h2 | ⟨g, cap, cur, h3, h4, h5, h6⟩
  · exact .inl h2
  · exact .inr ⟨g, cap, cur, h3, h4, by rw [k g (by rw [h3]; rfl)]; exact h5, h6⟩
/-- What Keep does to the rest of the memory: nothing but to the box and its rows. -/
def Still (w w' : World) (g : Nat) (vL vW : Value) : Prop := (∀ i, i < w.heap.size → i ≠ g → vL.ownBlock ≠ some i → vW.ownBlock ≠ some i → w'.heap[i]? = w.heap[i]?) ∧ w.heap.size ≤ w'.heap.size ∧ w'.os = w.os ∧ w'.tape = w.tape ∧ w'.output = w.output
theorem Own.still {w w' : World} {B g n : Nat} {v vL vW : Value} {vs us : List Value} {m n1 n2 : Nat} {xs : List Nat} (h : Own w B v m xs) (hk : KBox w g vL vW) (rL : RowS w n1 vL n vs) (rW : RowS w n2 vW n us) (s : Still w w' g vL vW) : Own w' B v m xs :=
  h.same_block (fun x hx => s.1 x (h.2.lt x hx).2 (fun e => kbox_own hk h hx e.symm) (fun e => row_own rL h e hx) (fun e => row_own rW h e hx))
/-- All blocks but those of books and of their rows are as they were. -/
def FrT (w w' : World) : Prop := ∀ (q : Nat) (cs : Array Value) (ty : TypeId) (fz : Nat × Nat), w.heap[q]? = some (Obj.cells cs ty fz) → ty ≠ 23 → ty ≠ 45 → w'.heap[q]? = w.heap[q]?
theorem FrT.of_below {w w' : World} (h : Below w.heap.size w w') : FrT w w' := fun q cs ty fz hq _ _ => h.block q (Array.getElem?_eq_some_iff.1 hq).1
theorem FrT.trans {a b c : World} (h : FrT a b) (k : FrT b c) : FrT a c := fun q cs ty fz hq h1 h2 => by
  have e := h q cs ty fz hq h1 h2
  rw [k q cs ty fz (by rw [e]; exact hq) h1 h2, e]
theorem row_not {w : World} {B m q : Nat} {u : Value} {vs : List Value} {cs : Array Value} {ty : TypeId} {fz : Nat × Nat} (h : RowS w B u m vs) (k : w.heap[q]? = some (.cells cs ty fz)) (hty : ty ≠ 23) : u.ownBlock ≠ some q := by
  intro hu
  rcases h.2.2.2 with ⟨h1, _⟩ | ⟨g2, cap, cur, h3, _, h5, _⟩
  · rw [h1] at hu; cases hu
  · rw [h3] at hu
    simp only [Value.ownBlock, Option.some.injEq] at hu
    subst hu
    rw [h5] at k
    simp at k
    exact hty k.2.1.symm
theorem kbox_not {w : World} {g q : Nat} {vL vW : Value} {cs : Array Value} {ty : TypeId} {fz : Nat × Nat} (h : KBox w g vL vW) (k : w.heap[q]? = some (.cells cs ty fz)) (hty : ty ≠ 45) : q ≠ g := by
  rintro rfl
  unfold KBox at h
  rw [h] at k
  simp at k
  exact hty k.2.1.symm
theorem kbox_one {w : World} {g : Nat} {vL vW vL' vW' : Value} (h : KBox w g vL vW) (k : KBox w g vL' vW') : vL = vL' ∧ vW = vW' := by
  unfold KBox at *
  rw [h] at k
  simpa using k
/-- A block that is none of the book's own. -/
def Off (w : World) (g q : Nat) : Prop := ∃ vL vW, KBox w g vL vW ∧ q ≠ g ∧ vL.ownBlock ≠ some q ∧ vW.ownBlock ≠ some q
theorem Off.later {w w' : World} {g q : Nat} (h : Off w g q) (hb : Below w.heap.size w w') : Off w' g q := by
  obtain ⟨vL, vW, h1, h2⟩ := h
  exact ⟨vL, vW, h1.later hb, h2⟩
theorem Off.new {w w' : World} {B g n q : Nat} {its : List Item} (h : Bk w B g n its) (hb : Below w.heap.size w w') (hq : w.heap.size ≤ q) : Off w' g q := by
  obtain ⟨aL, cL, aW, cW, h1, h2, h3, _⟩ := h.box
  refine ⟨_, _, h1.later hb, ?_, ?_, ?_⟩
  · have := (Array.getElem?_eq_some_iff.1 h1).1; omega
  · intro hx; have := (h2.2.2.lt q hx).2; omega
  · intro hx; have := (h3.2.2.lt q hx).2; omega
def FrO (w w' : World) (g : Nat) : Prop := ∀ q, q < w.heap.size → Off w g q → w'.heap[q]? = w.heap[q]? ∧ Off w' g q
/-- Below B all blocks but one are as they were. -/
structure Ex (B g : Nat) (w w' : World) : Prop where
  os : w'.os = w.os
  tape : w'.tape = w.tape
  output : w'.output = w.output
  size : w.heap.size ≤ w'.heap.size
  block : ∀ i, i < B → i ≠ g → w'.heap[i]? = w.heap[i]?
theorem Ex.trans {B g : Nat} {a b c : World} (h : Ex B g a b) (k : Ex B g b c) : Ex B g a c := ⟨k.os.trans h.os, k.tape.trans h.tape, k.output.trans h.output, Nat.le_trans h.size k.size, fun i hi hg => (k.block i hi hg).trans (h.block i hi hg)⟩
theorem Ex.of_below {B g : Nat} {a b : World} (h : Below B a b) : Ex B g a b := ⟨h.os, h.tape, h.output, h.size, fun i hi _ => h.block i hi⟩
theorem Ex.below {B g : Nat} {a b : World} (h : Ex B g a b) (hg : g ≤ B) : Below g a b := ⟨h.os, h.tape, h.output, h.size, fun i hi => h.block i (by omega) (by omega)⟩
theorem keep_bk {w : World} {g B n m c : Nat} {a : Option Addr} {its : List Item} {xs : List Nat} (hk : Bk w B g n its) (ho : Own w B (.slice a m c) m xs) (hap : ∀ p ∈ its, AP p.l (.slice a m c) ∧ AP p.k (.slice a m c)) (hby : Bys xs) (hl : xs.length ≤ 4194304) (hn : n ≤ 1000) (hB : B ≤ w.heap.size) :
    Calls Tryd.prog 19 #[.pointer (some ⟨g, 0, none⟩), .slice a m c] w fun r w' => r = .returned (.tuple #[]) ∧ ∃ u, Bk w' B g (n + 1) (its ++ [⟨.slice a m c, u, xs⟩]) ∧ (∀ x, u.ownBlock = some x → w.heap.size ≤ x) ∧ w.heap.size ≤ w'.heap.size ∧ w'.os = w.os ∧ w'.tape = w.tape ∧ w'.output = w.output ∧ (∀ v m' ys B', Own w B' v m' ys → Own w' B' v m' ys) ∧ (∀ i, i < w.heap.size → i < B → w'.heap[i]? = w.heap[i]? ∨ i = g) ∧ FrT w w' ∧ FrO w w' g := by
  obtain ⟨⟨aL, cL, aW, cW, h1, h2, h3, h4⟩, h5, h6⟩ := hk
  refine (keep_any h1 h2 h3 h4 ho hby hl hn hB).mono ?_
  rintro r w' ⟨rfl, aL', cL', aW', cW', va, vm, vc, k1, r1, r2, o1, ne, blk, sz, e1, e2, e3, nb1, nb2⟩
  have st : Still w w' g (.slice aL n cL) (.slice aW n cW) := ⟨blk, sz, e1, e2, e3⟩
  have OW : ∀ v m' ys B', Own w B' v m' ys → Own w' B' v m' ys := fun v m' ys B' h => h.still h1 h2 h3 st
  have hu : ∀ x, (Value.slice va vm vc).ownBlock = some x → w.heap.size ≤ x := fun x hx => (o1.2.lt x hx).1
  refine ⟨rfl, .slice va vm vc, ⟨⟨aL', cL', aW', cW', k1, by simpa using r1, by simpa using r2, ne⟩, fun p hp => ?_, ?_⟩, hu, sz, e1, e2, e3, OW, fun i hi hiB => ?_, fun q cs ty fz hq h7 h8 => blk q (Array.getElem?_eq_some_iff.1 hq).1 (kbox_not h1 hq h8) (row_not h2 hq h7) (row_not h3 hq h7), fun q hq ho => ?_⟩
  · rcases List.mem_append.1 hp with hp | hp
    · exact ⟨OW _ _ _ _ (h5 p hp).1, OW _ _ _ _ (h5 p hp).2.1, (h5 p hp).2.2⟩
    · simp at hp
      subst hp
      refine ⟨?_, ?_, hby, hl⟩
      · exact own_len (OW _ _ _ _ ho)
      · have := o1.mono hB
        exact own_len this
  · -- all apart
    have new_k : ∀ p ∈ its, AP p.l (.slice va vm vc) ∧ AP p.k (.slice va vm vc) := fun p hp => ⟨fun x hx hy => by have := ((h5 p hp).1.2.lt x hx).2; have := hu x hy; omega, fun x hx hy => by have := ((h5 p hp).2.1.2.lt x hx).2; have := hu x hy; omega⟩
    have new_l : AP (.slice a m c) (.slice va vm vc) := fun x hx hy => by have := (ho.2.lt x hx).2; have := hu x hy; omega
    rw [List.pairwise_append] at h6
    obtain ⟨p1, p2, p3⟩ := h6
    simp only [List.map_append, List.map_cons, List.map_nil]
    rw [List.pairwise_append]
    refine ⟨?_, ?_, ?_⟩
    · rw [List.pairwise_append]
      refine ⟨p1, by simp, fun u hu2 v hv => ?_⟩
      simp at hv
      subst hv
      obtain ⟨p, hp, rfl⟩ := List.mem_map.1 hu2
      exact (hap p hp).1
    · rw [List.pairwise_append]
      refine ⟨p2, by simp, fun u hu2 v hv => ?_⟩
      simp at hv
      subst hv
      obtain ⟨p, hp, rfl⟩ := List.mem_map.1 hu2
      exact (new_k p hp).2
    · intro u hu2 v hv
      rcases List.mem_append.1 hu2 with hu3 | hu3 <;> rcases List.mem_append.1 hv with hv3 | hv3
      · exact p3 u hu3 v hv3
      · simp at hv3
        subst hv3
        obtain ⟨p, hp, rfl⟩ := List.mem_map.1 hu3
        exact (new_k p hp).1
      · simp at hu3
        subst hu3
        obtain ⟨p, hp, rfl⟩ := List.mem_map.1 hv3
        exact (hap p hp).2.symm
      · simp at hu3 hv3
        subst hu3 hv3
        exact new_l
  · by_cases hg : i = g
    · exact .inr hg
    · refine .inl (blk i hi hg (fun e => ?_) (fun e => ?_))
      · have := (h2.2.2.lt i e).1; omega
      · have := (h3.2.2.lt i e).1; omega
  · obtain ⟨vL, vW, f1, f2, f3, f4⟩ := ho
    obtain ⟨rfl, rfl⟩ := kbox_one f1 h1
    refine ⟨blk q hq f2 f3 f4, _, _, k1, f2, ?_, ?_⟩
    · rcases nb1 with e | e
      · rw [e]; exact f3
      · intro hx; have := e q hx; omega
    · rcases nb2 with e | e
      · rw [e]; exact f4
      · intro hx; have := e q hx; omega
theorem RowS.at {w : World} {B n x : Nat} {a : Option Addr} {c : Nat} {vs : List Value} (h : RowS w B (.slice a n c) n vs) (hx : x < n) : ∃ g, a = some ⟨g, 0, none⟩ ∧ w.cell? ⟨g, x, none⟩ = vs[x]? := by
  rcases h.2.2.2 with ⟨h1, h2⟩ | ⟨g, cap, cur, h3, h4, h5, h6⟩
  · omega
  · simp only [Value.slice.injEq] at h3
    obtain ⟨rfl, _, _⟩ := h3
    refine ⟨g, rfl, ?_⟩
    exact h.2.2.cellAt x (by have := h.1; omega)
theorem Item.own_slice {w : World} {B : Nat} {v : Value} {xs : List Nat} (h : Own w B v xs.length xs) : ∃ a c, v = .slice a xs.length c := own_form h.2
set_option maxRecDepth 100000 in
set_option maxHeartbeats 4000000 in
/-- All hold what they held. -/
theorem untouched_any {w : World} {B g n : Nat} {its : List Item} (hk : Bk w B g n its) (hn : n ≤ 1000) :
    Calls Tryd.prog 42 #[.pointer (some ⟨g, 0, none⟩)] w fun r w' => r = .returned (.bool true) ∧ Below w.heap.size w w' := by
  have HK := Lib.hid hk
  obtain ⟨aL, cL, aW, cW, h1, h2, h3, h4⟩ := hk.box
  have HKB := Lib.hid h1
  have HRL := Lib.hid h2
  have HRW := Lib.hid h3
  have hlen : n = its.length := by have := h2.1; simpa using this
  have HLN := Lib.hid hlen
  clear hk h1 h2 h3 h4 hlen
  go_enter Tryd.func42, Tryd.ntmps42
  go_wp2
  go_loopw [3] (fun i wr => ∃ t : Nat, t ≤ n ∧ i = .int .i64 (t : Int) ∧ Hid (Below w.heap.size w wr)) (fun i _ => n - (intOf i).toNat)
  case atStart => exact ⟨0, by omega, rfl, Below.refl _ _⟩
  case round =>
    obtain ⟨t, ht, rfl, hb⟩ := hrel
    have kl := (HKB.out.later hb.out).l
    have kw := (HKB.out.later hb.out).w
    by_cases hlt : t < n
    · have hlt2 : (t : Int) < (n : Int) := by omega
      have ht0 : (0 : Int) ≤ (t : Int) := by omega
      have hti : t < its.length := by have := HLN.out; omega
      obtain ⟨gL, rfl, cl⟩ := (HRL.out.later hb.out).at hlt
      obtain ⟨gW, rfl, cw⟩ := (HRW.out.later hb.out).at hlt
      obtain ⟨ol, ok, hby, hl⟩ := HK.out.own its[t] (List.getElem_mem hti)
      have el : (its.map Item.l)[t]? = some its[t].l := by simp [hti]
      have ek : (its.map Item.k)[t]? = some its[t].k := by simp [hti]
      rw [el] at cl
      rw [ek] at cw
      have RL := (ol.rd hby (by omega)).later hb.out
      have RK := (ok.rd hby (by omega)).later hb.out
      obtain ⟨al, kl2, fl⟩ := own_form ol.2
      obtain ⟨ak, kk2, fk⟩ := own_form ok.2
      rw [fl] at cl RL
      rw [fk] at cw RK
      have HRR := Lib.hid (And.intro RL RK)
      clear RL RK ol ok hl el ek fl fk
      obtain ⟨nx, hnx⟩ : ∃ q, q = its[t].xs.length := ⟨_, rfl⟩
      rw [← hnx] at cl cw HRR
      have D0 : Below wr.heap.size wr wr.drew := (Below.refl _ _).drew
      have KS : Hid (∀ wx, Below wr.heap.size wr wx → wx.cell? ⟨g, 0, none⟩ = some (.slice (some ⟨gL, 0, none⟩) n cL) ∧ wx.cell? ⟨g, 1, none⟩ = some (.slice (some ⟨gW, 0, none⟩) n cW) ∧ wx.cell? ⟨gL, t, none⟩ = some (.slice al nx kl2) ∧ wx.cell? ⟨gW, t, none⟩ = some (.slice ak nx kk2)) := fun wx h => ⟨by rw [h.cell (World.block_lt_of_cell? _ _ kl)]; exact kl, by rw [h.cell (World.block_lt_of_cell? _ _ kw)]; exact kw, by rw [h.cell (World.block_lt_of_cell? _ _ cl)]; exact cl, by rw [h.cell (World.block_lt_of_cell? _ _ cw)]; exact cw⟩
      clear hnx
      go_wp2_with fail
      go_region_held3 (fun wx => wx.cell? ⟨g, 0, none⟩ = some (.slice (some ⟨gL, 0, none⟩) n cL) ∧ wx.cell? ⟨g, 1, none⟩ = some (.slice (some ⟨gW, 0, none⟩) n cW) ∧ wx.cell? ⟨gL, t, none⟩ = some (.slice al nx kl2) ∧ wx.cell? ⟨gW, t, none⟩ = some (.slice ak nx kk2)) (first | exact KS.out _ D0 | exact KS.out _ DD1)
        (first | (go_at_call 12; refine (alike_same (HRR.out.1.later D0) (HRR.out.2.later D0)).mono ?_; rintro e1 w1 ⟨rfl, hb1⟩; have DD1 := D0.trans (hb1.mono D0.size)))
      have HB1 := Lib.hid (hb.out.trans (DD1.mono hb.out.size))
      clear KS D0 DD1 hb1 HRR kl kw cl cw
      go_wp2
      go_roundw
      case rel => exact ⟨t + 1, by omega, by go_num, HB1⟩
      case measure => simp [intOf]; omega
    · have hge : (n : Int) ≤ (t : Int) := by omega
      go_wp2
      go_ret
      exact ⟨rfl, hb.out⟩
theorem FrT.own {w w' : World} {B m : Nat} {v : Value} {xs : List Nat} (h : FrT w w') (k : Own w B v m xs) : Own w' B v m xs := by
  refine ⟨k.1, k.2.1, ?_⟩
  rcases k.2.2 with h2 | ⟨g, cap, cur, h3, h4, h5, h6⟩
  · exact .inl h2
  · exact .inr ⟨g, cap, cur, h3, h4, by rw [h g _ _ _ h5 (by decide) (by decide)]; exact h5, h6⟩
theorem own_eq {w : World} {B m n c : Nat} {a : Option Addr} {xs : List Nat} (h : Own w B (.slice a m c) n xs) : m = n := by
  rcases h.2.2 with ⟨h1, h2⟩ | ⟨g, cap, cur, h1, _⟩
  · simp only [Value.slice.injEq] at h1
    omega
  · simp only [Value.slice.injEq] at h1
    exact h1.2.1
/-- No item shares its memory with v. -/
def Hap (its : List Item) (v : Value) : Prop := ∀ p ∈ its, AP p.l v ∧ AP p.k v
theorem Hap.new {w : World} {B g n : Nat} {its : List Item} {v : Value} (h : Bk w B g n its) (hv : ∀ x, v.ownBlock = some x → w.heap.size ≤ x) : Hap its v := fun p hp => ⟨fun x hx hy => by have := ((h.own p hp).1.2.lt x hx).2; have := hv x hy; omega, fun x hx hy => by have := ((h.own p hp).2.1.2.lt x hx).2; have := hv x hy; omega⟩
theorem Hap.add {its : List Item} {v a u : Value} {xs : List Nat} {h : Nat} (hp : Hap its v) (ha : AP a v) (hu : ∀ x, u.ownBlock = some x → h ≤ x) (hv : ∀ x, v.ownBlock = some x → x < h) : Hap (its ++ [⟨a, u, xs⟩]) v := fun p hq => by
  rcases List.mem_append.1 hq with hq | hq
  · exact hp p hq
  · simp at hq
    subst hq
    exact ⟨ha, fun x hx hy => by have := hu x hx; have := hv x hy; omega⟩
/-- What is yet to be kept: each owns its bytes, all apart, and apart from the items. -/
structure Pend (w : World) (B : Nat) (its : List Item) (vs : List (Value × List Nat)) : Prop where
  own : ∀ p ∈ vs, Own w B p.1 p.2.length p.2 ∧ Bys p.2 ∧ p.2.length ≤ 4194304
  ap : (vs.map Prod.fst).Pairwise AP
  hap : ∀ p ∈ vs, Hap its p.1
theorem Pend.nil (w : World) (B : Nat) (its : List Item) : Pend w B its [] := ⟨by simp, by simp, by simp⟩
theorem Pend.later {w w' : World} {B : Nat} {its : List Item} {vs : List (Value × List Nat)} (h : Pend w B its vs) (hb : Below w.heap.size w w') : Pend w' B its vs := ⟨fun p hp => ⟨(h.own p hp).1.later hb, (h.own p hp).2⟩, h.ap, h.hap⟩
theorem Pend.frt {w w' : World} {B : Nat} {its : List Item} {vs : List (Value × List Nat)} (h : Pend w B its vs) (hb : FrT w w') : Pend w' B its vs := ⟨fun p hp => ⟨hb.own (h.own p hp).1, (h.own p hp).2⟩, h.ap, h.hap⟩
theorem Pend.push {w w' : World} {B g n : Nat} {its : List Item} {vs : List (Value × List Nat)} {v : Value} {xs : List Nat} (h : Pend w B its vs) (hk : Bk w B g n its) (hb : Below w.heap.size w w') (ho : Own w' w.heap.size v xs.length xs) (hB : B ≤ w.heap.size) (hby : Bys xs) (hl : xs.length ≤ 4194304) : Pend w' B its (vs ++ [(v, xs)]) := by
  have hv : ∀ x, v.ownBlock = some x → w.heap.size ≤ x := fun x hx => (ho.2.lt x hx).1
  refine ⟨fun p hp => ?_, ?_, fun p hp => ?_⟩
  · rcases List.mem_append.1 hp with hp | hp
    · exact (h.later hb).own p hp
    · simp at hp
      subst hp
      exact ⟨ho.mono hB, hby, hl⟩
  · rw [List.map_append, List.pairwise_append]
    refine ⟨h.ap, by simp, fun u hu y hy => ?_⟩
    simp at hy
    subst hy
    obtain ⟨p, hp, rfl⟩ := List.mem_map.1 hu
    exact fun x hx hy => by have := ((h.own p hp).1.2.lt x hx).2; have := hv x hy; omega
  · rcases List.mem_append.1 hp with hp | hp
    · exact h.hap p hp
    · simp at hp
      subst hp
      exact Hap.new hk hv
theorem keep_pend {w : World} {g B n m c : Nat} {a : Option Addr} {its : List Item} {xs : List Nat} {vs : List (Value × List Nat)} (hk : Bk w B g n its) (hp : Pend w B its ((.slice a m c, xs) :: vs)) (hn : n ≤ 1000) (hB : B ≤ w.heap.size) :
    Calls Tryd.prog 19 #[.pointer (some ⟨g, 0, none⟩), .slice a m c] w fun r w' => r = .returned (.tuple #[]) ∧ ∃ js : List Item, js.map Item.xs = [xs] ∧ Bk w' B g (n + 1) (its ++ js) ∧ Pend w' B (its ++ js) vs ∧ Ex B g w w' ∧ FrT w w' ∧ FrO w w' g := by
  obtain ⟨o, hby, hl⟩ := hp.own (.slice a m c, xs) (by simp)
  simp only at o hby hl
  have hm := own_eq o
  subst hm
  refine (keep_bk hk o (hp.hap (.slice a xs.length c, xs) (by simp)) hby hl hn hB).mono ?_
  rintro r w' ⟨rfl, u, b, nu, sz, e1, e2, e3, OW, ib, T, FO⟩
  have pw := hp.ap
  simp only [List.map_cons, List.pairwise_cons] at pw
  refine ⟨rfl, [⟨.slice a xs.length c, u, xs⟩], rfl, b, ⟨fun p hq => ⟨T.own (hp.own p (by simp [hq])).1, (hp.own p (by simp [hq])).2⟩, pw.2, fun p hq => ?_⟩, ⟨e1, e2, e3, sz, fun i hi hg => ?_⟩, T, FO⟩
  · exact (hp.hap p (by simp [hq])).add (pw.1 _ (List.mem_map.2 ⟨p, hq, rfl⟩)) nu (fun x hx => ((hp.own p (by simp [hq])).1.2.lt x hx).2)
  · rcases ib i (by omega) hi with h | h
    · exact h
    · exact absurd h hg

end Go.Proofs.YtledfniedoapiaaDoor

namespace Go.Proofs.YtledfniedoapiaaDoor
open Go.RowKit
set_option linter.unusedVariables false

/-- A desk: its box, its room, how much is lent, what the room holds. -/
structure DeskS where
  g : Nat
  a : Option Addr
  m : Nat
  c : Nat
  n : Nat
  ys : List Nat
def DeskS.room (d : DeskS) : Value := .slice d.a d.m d.c
/-- One desk stands. -/
structure D1 (w : World) (B : Nat) (d : DeskS) : Prop where
  box : DBox w d.g d.room d.n
  own : Own w B d.room d.m d.ys
  bys : Bys d.ys
  fit : d.m ≤ 4194304
  hg : B ≤ d.g
/-- The desks stand, apart from one another. -/
structure Ds (w : World) (B : Nat) (l : List DeskS) : Prop where
  one : ∀ d ∈ l, D1 w B d
  bx : (l.map DeskS.g).Pairwise (· ≠ ·)
  rm : (l.map DeskS.room).Pairwise AP
theorem D1.later {w w' : World} {B : Nat} {d : DeskS} (h : D1 w B d) (hb : Below w.heap.size w w') : D1 w' B d := ⟨h.box.later hb, h.own.later hb, h.bys, h.fit, h.hg⟩
theorem Ds.later {w w' : World} {B : Nat} {l : List DeskS} (h : Ds w B l) (hb : Below w.heap.size w w') : Ds w' B l := ⟨fun d hd => (h.one d hd).later hb, h.bx, h.rm⟩
theorem pw_at {α : Type} {R : α → α → Prop} (hs : ∀ {x y}, R x y → R y x) {l : List α} (h : l.Pairwise R) {i j : Nat} {x y : α} (hi : l[i]? = some x) (hj : l[j]? = some y) (hne : i ≠ j) : R x y := by
  obtain ⟨h1, rfl⟩ := List.getElem?_eq_some_iff.1 hi
  obtain ⟨h2, rfl⟩ := List.getElem?_eq_some_iff.1 hj
  rw [List.pairwise_iff_getElem] at h
  rcases Nat.lt_or_gt_of_ne hne with k | k
  · exact h i j h1 h2 k
  · exact hs (h j i h2 h1 k)
/-- Another desk is not touched. -/
theorem D1.beside {w w' : World} {B g : Nat} {d e : DeskS} (h : D1 w B d) (he : D1 w B e) (hne : d.g ≠ e.g) (hap : AP d.room e.room) (f : Fd w w' e.g e.room.ownBlock) : D1 w' B d := by
  refine ⟨?_, h.own.same_block (fun x hx => f.block x (h.own.2.lt x hx).2 (fun e1 => dbox_own he.box h.own hx e1.symm) (fun e1 => hap x hx e1)), h.bys, h.fit, h.hg⟩
  have hb := h.box
  unfold DBox at *
  rw [f.block d.g (Array.getElem?_eq_some_iff.1 hb).1 hne (fun e1 => dbox_own h.box he.own e1 rfl)]
  exact hb
/-- A desk is used: the others stand as they stood. -/
theorem Ds.set {w w' : World} {B k : Nat} {l : List DeskS} {d d' : DeskS} (h : Ds w B l) (hk : l[k]? = some d) (f : Fd w w' d.g d.room.ownBlock) (hd : D1 w' B d') (hg : d'.g = d.g) (nr : d'.room.ownBlock = d.room.ownBlock ∨ ∀ x, d'.room.ownBlock = some x → w.heap.size ≤ x) : Ds w' B (l.set k d') := by
  obtain ⟨hkl, rfl⟩ := List.getElem?_eq_some_iff.1 hk
  have he := h.one _ (List.getElem_mem hkl)
  have gne : ∀ j (hj : j < l.length), j ≠ k → l[j].g ≠ l[k].g := fun j hj hne => pw_at (R := (· ≠ ·)) (fun h => Ne.symm h) h.bx (i := j) (j := k) (by simp [hj]) (by simp [hkl]) hne
  have apr : ∀ j (hj : j < l.length), j ≠ k → AP l[j].room l[k].room := fun j hj hne => pw_at (R := AP) AP.symm h.rm (i := j) (j := k) (by simp [hj]) (by simp [hkl]) hne
  have apn : ∀ j (hj : j < l.length), j ≠ k → AP l[j].room d'.room := fun j hj hne x hx hy => by
    rcases nr with e | e
    · rw [e] at hy; exact apr j hj hne x hx hy
    · have := e x hy
      have := ((h.one _ (List.getElem_mem hj)).own.2.lt x hx).2
      omega
  refine ⟨fun e hme => ?_, ?_, ?_⟩
  · obtain ⟨j, hj, rfl⟩ := List.getElem_of_mem hme
    rw [List.getElem_set]
    have hj2 : j < l.length := by simpa using hj
    split
    · exact hd
    · rename_i hne
      exact (h.one _ (List.getElem_mem hj2)).beside (g := 0) he (gne j hj2 (Ne.symm hne)) (apr j hj2 (Ne.symm hne)) f
  · have : (l.set k d').map DeskS.g = l.map DeskS.g := by
      rw [List.map_set, hg]
      have : (l.map DeskS.g)[k]'(by simpa using hkl) = l[k].g := by simp
      rw [← this]
      exact List.set_getElem_self _
    rw [this]
    exact h.bx
  · rw [List.pairwise_iff_getElem]
    intro i j hi hj hij
    have hi2 : i < l.length := by simpa using hi
    have hj2 : j < l.length := by simpa using hj
    simp only [List.getElem_map, List.getElem_set]
    split <;> split
    · omega
    · rename_i h1 h2
      exact (apn j hj2 (by omega)).symm
    · rename_i h1 h2
      exact apn i hi2 (by omega)
    · have := (List.pairwise_iff_getElem.1 h.rm) i j (by simpa using hi2) (by simpa using hj2) hij
      simpa using this
/-- A new desk. -/
theorem Ds.add {w : World} {B : Nat} {l : List DeskS} (h : Ds w B l) (hB : B ≤ w.heap.size) : Ds (w.alloc (.cells #[.slice none 0 0, .int .i64 0] 35)) B (l ++ [⟨w.heap.size, none, 0, 0, 0, []⟩]) := by
  have A := (Below.refl w.heap.size w).alloc (Nat.le_refl _) (.cells #[.slice none 0 0, .int .i64 0] 35)
  refine ⟨fun d hd => ?_, ?_, ?_⟩
  · rcases List.mem_append.1 hd with hd | hd
    · exact (h.one d hd).later A
    · simp at hd
      subst hd
      exact ⟨heap_new w _, own_nil _ _, fun x hx => by simp at hx, by simp, hB⟩
  · rw [List.map_append, List.pairwise_append]
    refine ⟨h.bx, by simp, fun x hx y hy => ?_⟩
    obtain ⟨d, hd, rfl⟩ := List.mem_map.1 hx
    simp at hy
    subst hy
    have := (Array.getElem?_eq_some_iff.1 (h.one d hd).box).1
    omega
  · rw [List.map_append, List.pairwise_append]
    refine ⟨h.rm, by simp, fun x hx y hy => ?_⟩
    simp [DeskS.room] at hy
    subst hy
    intro z hz hw
    cases hw
/-- A desk that lends these bytes. -/
def Lent (d : DeskS) (bs : List Nat) : Prop := d.ys = deskL bs d.m ∧ d.n = bs.length ∧ bs.length + 70 ≤ d.m ∧ ∃ gR, d.a = some ⟨gR, 0, none⟩
/-- Lend, among other desks. -/
theorem lend_ds {w : World} {B k nb cb : Nat} {ab : Option Addr} {bs : List Nat} {l : List DeskS} {d : DeskS} (h : Ds w B l) (hk : l[k]? = some d) (hb : Rd w (.slice ab nb cb) bs) (hl : nb ≤ 1048576) (hB : B ≤ w.heap.size) (far : bs ≠ [] → ∀ x, (Value.slice ab nb cb).ownBlock = some x → x < B) :
    Calls Tryd.prog 14 #[.pointer (some ⟨d.g, 0, none⟩), .slice ab nb cb] w fun e w' => ∃ d', e = .returned (.slice d'.a nb d'.c) ∧ Lent d' bs ∧ d'.g = d.g ∧ Ds w' B (l.set k d') ∧ Fd w w' d.g d.room.ownBlock := by
  have hd := h.one d (List.mem_of_getElem? hk)
  have hnb := (rd_lens hb).1
  refine (lend_any hd.box hd.own hd.bys hd.fit hb hl hB hd.hg far).mono ?_
  rintro e w' ⟨gR, m', c', rfl, b', o', h1, h2, f, nr⟩
  refine ⟨⟨d.g, some ⟨gR, 0, none⟩, m', c', nb, deskL bs m'⟩, rfl, ⟨rfl, hnb, by simp only; omega, gR, rfl⟩, rfl, ?_, f⟩
  refine h.set hk f ⟨b', o', deskL_bys hb.1 _, h2, hd.hg⟩ rfl ?_
  rcases nr with e | e
  · exact .inl (show some gR = d.room.ownBlock from e.symm)
  · refine .inr fun x hx => ?_
    simp [DeskS.room, Value.ownBlock] at hx
    omega
/-- Back, among other desks. -/
theorem back_ds {w : World} {B k nb cb : Nat} {ab : Option Addr} {bs : List Nat} {l : List DeskS} {d : DeskS} (h : Ds w B l) (hk : l[k]? = some d) (hL : Lent d bs) (hb : Rd w (.slice ab nb cb) bs) :
    Calls Tryd.prog 16 #[.pointer (some ⟨d.g, 0, none⟩), .slice ab nb cb] w fun e w' => e = .returned (.bool true) ∧ Below w.heap.size w w' := by
  have hd := h.one d (List.mem_of_getElem? hk)
  obtain ⟨h1, h2, h3, gR, h4⟩ := hL
  have hnb := (rd_lens hb).1
  have b := hd.box
  have o := hd.own
  unfold DeskS.room at b o
  rw [h4] at b o
  rw [h1] at o
  rw [h2, ← hnb] at b
  exact back_any b o hb (by omega) (by have := hd.fit; omega)
/-- Wipe, among other desks. -/
theorem wipe_ds {w : World} {B k : Nat} {bs : List Nat} {l : List DeskS} {d : DeskS} (h : Ds w B l) (hk : l[k]? = some d) (hL : Lent d bs) :
    Calls Tryd.prog 17 #[.pointer (some ⟨d.g, 0, none⟩)] w fun e w' => e = .returned (.tuple #[]) ∧ ∃ d', d'.g = d.g ∧ Ds w' B (l.set k d') ∧ Fd w w' d.g d.room.ownBlock := by
  have hd := h.one d (List.mem_of_getElem? hk)
  obtain ⟨h1, h2, h3, gR, h4⟩ := hL
  refine (wipe_any hd.box hd.own hd.bys (by omega) (by have := hd.fit; omega)).mono ?_
  rintro e w' ⟨rfl, ys', b', o', y', gr⟩
  have f : Fd w w' d.g d.room.ownBlock := (Fd.refl w d.g _).grow gr (fun x hx => .inr (.inl hx))
  exact ⟨rfl, { d with ys := ys' }, rfl, h.set hk f ⟨b', o', y', hd.fit, hd.hg⟩ rfl (.inl rfl), f⟩

end Go.Proofs.YtledfniedoapiaaDoor
