import Derived.Test.YtledfniedoapiaaDoorJ09
import Derived.Deep.RegionHeld3
import Derived.Lib.Hide
import Derived.Test.YtledfniedoapiaaDoorJ05
import Derived.Test.YtledfniedoapiaaDoorJ04
namespace Go.Proofs.YtledfniedoapiaaDoor
open Go.RowKit
set_option linter.unusedVariables false

/-- Two byte strings that lie apart. -/
def AP (u v : Value) : Prop := ∀ g, u.ownBlock = some g → v.ownBlock ≠ some g
theorem AP.symm {u v : Value} (h : AP u v) : AP v u := fun g hv hu => h g hu hv
/-- An item of the book: what was handed out, the copy, what they hold. -/
structure Item where
  l : Value
  k : Value
  xs : List Nat
/-- The book: each item and each copy owns its bytes, all apart. -/
structure Bk (w : World) (B g n : Nat) (its : List Item) : Prop where
  box : ∃ aL cL aW cW, KBox w g (.slice aL n cL) (.slice aW n cW) ∧ RowS w B (.slice aL n cL) n (its.map Item.l) ∧ RowS w B (.slice aW n cW) n (its.map Item.k) ∧ AP (.slice aL n cL) (.slice aW n cW)
  own : ∀ p ∈ its, Own w B p.l p.xs.length p.xs ∧ Own w B p.k p.xs.length p.xs ∧ Bys p.xs ∧ p.xs.length ≤ 4194304
  apart : (its.map Item.l ++ its.map Item.k).Pairwise AP
theorem Bk.later {w w' : World} {B g n : Nat} {its : List Item} (h : Bk w B g n its) (hb : Below w.heap.size w w') : Bk w' B g n its := by
  obtain ⟨⟨aL, cL, aW, cW, h1, h2, h3, h4⟩, h5, h6⟩ := h
  exact ⟨⟨aL, cL, aW, cW, h1.later hb, h2.later hb, h3.later hb, h4⟩, fun p hp => ⟨(h5 p hp).1.later hb, (h5 p hp).2.1.later hb, (h5 p hp).2.2⟩, h6⟩
theorem Own.same_block {w w' : World} {B m : Nat} {v : Value} {xs : List Nat} (h : Own w B v m xs) (k : ∀ g, v.ownBlock = some g → w'.heap[g]? = w.heap[g]?) : Own w' B v m xs := by
  refine ⟨h.1, h.2.1, ?_⟩
  rcases h.2.2 with h2 | ⟨g, cap, cur, h3, h4, h5, h6⟩
  · exact .inl h2
  · exact .inr ⟨g, cap, cur, h3, h4, by rw [k g (by rw [h3]; rfl)]; exact h5, h6⟩
/-- What Keep does to the rest of the memory: nothing but to the box and its rows. -/
def Still (w w' : World) (g : Nat) (vL vW : Value) : Prop := (∀ i, i < w.heap.size → i ≠ g → vL.ownBlock ≠ some i → vW.ownBlock ≠ some i → w'.heap[i]? = w.heap[i]?) ∧ w.heap.size ≤ w'.heap.size ∧ w'.os = w.os ∧ w'.tape = w.tape ∧ w'.output = w.output
theorem Own.still {w w' : World} {B g n : Nat} {v vL vW : Value} {vs us : List Value} {m n1 n2 : Nat} {xs : List Nat} (h : Own w B v m xs) (hk : KBox w g vL vW) (rL : RowS w n1 vL n vs) (rW : RowS w n2 vW n us) (s : Still w w' g vL vW) : Own w' B v m xs :=
  h.same_block (fun x hx => s.1 x (h.2.lt x hx).2 (fun e => kbox_own hk h hx e.symm) (fun e => row_own rL h e hx) (fun e => row_own rW h e hx))
/-- All blocks but those of books and of their rows are as they were. -/
def FrT (w w' : World) : Prop := ∀ (q : Nat) (cs : Array Value) (ty : TypeId) (fz : Nat × Nat), w.heap[q]? = some (Obj.cells cs ty fz) → ty ≠ 23 → ty ≠ 45 → w'.heap[q]? = w.heap[q]?
theorem FrT.of_below {w w' : World} (h : Below w.heap.size w w') : FrT w w' := fun q cs ty fz hq _ _ => h.block q (Array.getElem?_eq_some_iff.1 hq).1
theorem FrT.trans {a b c : World} (h : FrT a b) (k : FrT b c) : FrT a c := fun q cs ty fz hq h1 h2 => by
  have e := h q cs ty fz hq h1 h2
  rw [k q cs ty fz (by rw [e]; exact hq) h1 h2, e]
theorem row_not {w : World} {B m q : Nat} {u : Value} {vs : List Value} {cs : Array Value} {ty : TypeId} {fz : Nat × Nat} (h : RowS w B u m vs) (k : w.heap[q]? = some (.cells cs ty fz)) (hty : ty ≠ 23) : u.ownBlock ≠ some q := by
  intro hu
  rcases h.2.2.2 with ⟨h1, _⟩ | ⟨g2, cap, cur, h3, _, h5, _⟩
  · rw [h1] at hu; cases hu
  · rw [h3] at hu
    simp only [Value.ownBlock, Option.some.injEq] at hu
    subst hu
    rw [h5] at k
    simp at k
    exact hty k.2.1.symm
theorem kbox_not {w : World} {g q : Nat} {vL vW : Value} {cs : Array Value} {ty : TypeId} {fz : Nat × Nat} (h : KBox w g vL vW) (k : w.heap[q]? = some (.cells cs ty fz)) (hty : ty ≠ 45) : q ≠ g := by
  rintro rfl
  unfold KBox at h
  rw [h] at k
  simp at k
  exact hty k.2.1.symm
theorem kbox_one {w : World} {g : Nat} {vL vW vL' vW' : Value} (h : KBox w g vL vW) (k : KBox w g vL' vW') : vL = vL' ∧ vW = vW' := by
  unfold KBox at *
  rw [h] at k
  simpa using k
/-- A block that is none of the book's own. -/
def Off (w : World) (g q : Nat) : Prop := ∃ vL vW, KBox w g vL vW ∧ q ≠ g ∧ vL.ownBlock ≠ some q ∧ vW.ownBlock ≠ some q
theorem Off.later {w w' : World} {g q : Nat} (h : Off w g q) (hb : Below w.heap.size w w') : Off w' g q := by
  obtain ⟨vL, vW, h1, h2⟩ := h
  exact ⟨vL, vW, h1.later hb, h2⟩
theorem Off.new {w w' : World} {B g n q : Nat} {its : List Item} (h : Bk w B g n its) (hb : Below w.heap.size w w') (hq : w.heap.size ≤ q) : Off w' g q := by
  obtain ⟨aL, cL, aW, cW, h1, h2, h3, _⟩ := h.box
  refine ⟨_, _, h1.later hb, ?_, ?_, ?_⟩
  · have := (Array.getElem?_eq_some_iff.1 h1).1; omega
  · intro hx; have := (h2.2.2.lt q hx).2; omega
  · intro hx; have := (h3.2.2.lt q hx).2; omega
def FrO (w w' : World) (g : Nat) : Prop := ∀ q, q < w.heap.size → Off w g q → w'.heap[q]? = w.heap[q]? ∧ Off w' g q
/-- Below B all blocks but one are as they were. -/
structure Ex (B g : Nat) (w w' : World) : Prop where
  os : w'.os = w.os
  tape : w'.tape = w.tape
  output : w'.output = w.output
  size : w.heap.size ≤ w'.heap.size
  block : ∀ i, i < B → i ≠ g → w'.heap[i]? = w.heap[i]?
theorem Ex.trans {B g : Nat} {a b c : World} (h : Ex B g a b) (k : Ex B g b c) : Ex B g a c := ⟨k.os.trans h.os, k.tape.trans h.tape, k.output.trans h.output, Nat.le_trans h.size k.size, fun i hi hg => (k.block i hi hg).trans (h.block i hi hg)⟩
theorem Ex.of_below {B g : Nat} {a b : World} (h : Below B a b) : Ex B g a b := ⟨h.os, h.tape, h.output, h.size, fun i hi _ => h.block i hi⟩
theorem Ex.below {B g : Nat} {a b : World} (h : Ex B g a b) (hg : g ≤ B) : Below g a b := ⟨h.os, h.tape, h.output, h.size, fun i hi => h.block i (by omega) (by omega)⟩
theorem keep_bk {w : World} {g B n m c : Nat} {a : Option Addr} {its : List Item} {xs : List Nat} (hk : Bk w B g n its) (ho : Own w B (.slice a m c) m xs) (hap : ∀ p ∈ its, AP p.l (.slice a m c) ∧ AP p.k (.slice a m c)) (hby : Bys xs) (hl : xs.length ≤ 4194304) (hn : n ≤ 1000) (hB : B ≤ w.heap.size) :
    Calls Tryd.prog 19 #[.pointer (some ⟨g, 0, none⟩), .slice a m c] w fun r w' => r = .returned (.tuple #[]) ∧ ∃ u, Bk w' B g (n + 1) (its ++ [⟨.slice a m c, u, xs⟩]) ∧ (∀ x, u.ownBlock = some x → w.heap.size ≤ x) ∧ w.heap.size ≤ w'.heap.size ∧ w'.os = w.os ∧ w'.tape = w.tape ∧ w'.output = w.output ∧ (∀ v m' ys B', Own w B' v m' ys → Own w' B' v m' ys) ∧ (∀ i, i < w.heap.size → i < B → w'.heap[i]? = w.heap[i]? ∨ i = g) ∧ FrT w w' ∧ FrO w w' g := by
  obtain ⟨⟨aL, cL, aW, cW, h1, h2, h3, h4⟩, h5, h6⟩ := hk
  refine (keep_any h1 h2 h3 h4 ho hby hl hn hB).mono ?_
  rintro r w' ⟨rfl, aL', cL', aW', cW', va, vm, vc, k1, r1, r2, o1, ne, blk, sz, e1, e2, e3, nb1, nb2⟩
  have st : Still w w' g (.slice aL n cL) (.slice aW n cW) := ⟨blk, sz, e1, e2, e3⟩
  have OW : ∀ v m' ys B', Own w B' v m' ys → Own w' B' v m' ys := fun v m' ys B' h => h.still h1 h2 h3 st
  have hu : ∀ x, (Value.slice va vm vc).ownBlock = some x → w.heap.size ≤ x := fun x hx => (o1.2.lt x hx).1
  refine ⟨rfl, .slice va vm vc, ⟨⟨aL', cL', aW', cW', k1, by simpa using r1, by simpa using r2, ne⟩, fun p hp => ?_, ?_⟩, hu, sz, e1, e2, e3, OW, fun i hi hiB => ?_, fun q cs ty fz hq h7 h8 => blk q (Array.getElem?_eq_some_iff.1 hq).1 (kbox_not h1 hq h8) (row_not h2 hq h7) (row_not h3 hq h7), fun q hq ho => ?_⟩
  · rcases List.mem_append.1 hp with hp | hp
    · exact ⟨OW _ _ _ _ (h5 p hp).1, OW _ _ _ _ (h5 p hp).2.1, (h5 p hp).2.2⟩
    · simp at hp
      subst hp
      refine ⟨?_, ?_, hby, hl⟩
      · exact own_len (OW _ _ _ _ ho)
      · have := o1.mono hB
        exact own_len this
  · -- all apart
    have new_k : ∀ p ∈ its, AP p.l (.slice va vm vc) ∧ AP p.k (.slice va vm vc) := fun p hp => ⟨fun x hx hy => by have := ((h5 p hp).1.2.lt x hx).2; have := hu x hy; omega, fun x hx hy => by have := ((h5 p hp).2.1.2.lt x hx).2; have := hu x hy; omega⟩
    have new_l : AP (.slice a m c) (.slice va vm vc) := fun x hx hy => by have := (ho.2.lt x hx).2; have := hu x hy; omega
    rw [List.pairwise_append] at h6
    obtain ⟨p1, p2, p3⟩ := h6
    simp only [List.map_append, List.map_cons, List.map_nil]
    rw [List.pairwise_append]
    refine ⟨?_, ?_, ?_⟩
    · rw [List.pairwise_append]
      refine ⟨p1, by simp, fun u hu2 v hv => ?_⟩
      simp at hv
      subst hv
      obtain ⟨p, hp, rfl⟩ := List.mem_map.1 hu2
      exact (hap p hp).1
    · rw [List.pairwise_append]
      refine ⟨p2, by simp, fun u hu2 v hv => ?_⟩
      simp at hv
      subst hv
      obtain ⟨p, hp, rfl⟩ := List.mem_map.1 hu2
      exact (new_k p hp).2
    · intro u hu2 v hv
      rcases List.mem_append.1 hu2 with hu3 | hu3 <;> rcases List.mem_append.1 hv with hv3 | hv3
      · exact p3 u hu3 v hv3
      · simp at hv3
        subst hv3
        obtain ⟨p, hp, rfl⟩ := List.mem_map.1 hu3
        exact (new_k p hp).1
      · simp at hu3
        subst hu3
        obtain ⟨p, hp, rfl⟩ := List.mem_map.1 hv3
        exact (hap p hp).2.symm
      · simp at hu3 hv3
        subst hu3 hv3
        exact new_l
  · by_cases hg : i = g
    · exact .inr hg
    · refine .inl (blk i hi hg (fun e => ?_) (fun e => ?_))
      · have := (h2.2.2.lt i e).1; omega
      · have := (h3.2.2.lt i e).1; omega
  · obtain ⟨vL, vW, f1, f2, f3, f4⟩ := ho
    obtain ⟨rfl, rfl⟩ := kbox_one f1 h1
    refine ⟨blk q hq f2 f3 f4, _, _, k1, f2, ?_, ?_⟩
    · rcases nb1 with e | e
      · rw [e]; exact f3
      · intro hx; have := e q hx; omega
    · rcases nb2 with e | e
      · rw [e]; exact f4
      · intro hx; have := e q hx; omega
theorem RowS.at {w : World} {B n x : Nat} {a : Option Addr} {c : Nat} {vs : List Value} (h : RowS w B (.slice a n c) n vs) (hx : x < n) : ∃ g, a = some ⟨g, 0, none⟩ ∧ w.cell? ⟨g, x, none⟩ = vs[x]? := by
  rcases h.2.2.2 with ⟨h1, h2⟩ | ⟨g, cap, cur, h3, h4, h5, h6⟩
  · omega
  · simp only [Value.slice.injEq] at h3
    obtain ⟨rfl, _, _⟩ := h3
    refine ⟨g, rfl, ?_⟩
    exact h.2.2.cellAt x (by have := h.1; omega)
theorem Item.own_slice {w : World} {B : Nat} {v : Value} {xs : List Nat} (h : Own w B v xs.length xs) : ∃ a c, v = .slice a xs.length c := own_form h.2
set_option maxRecDepth 100000 in
set_option maxHeartbeats 4000000 in
/-- All hold what they held. -/
theorem untouched_any {w : World} {B g n : Nat} {its : List Item} (hk : Bk w B g n its) (hn : n ≤ 1000) :
    Calls Tryd.prog 42 #[.pointer (some ⟨g, 0, none⟩)] w fun r w' => r = .returned (.bool true) ∧ Below w.heap.size w w' := by
  have HK := Lib.hid hk
  obtain ⟨aL, cL, aW, cW, h1, h2, h3, h4⟩ := hk.box
  have HKB := Lib.hid h1
  have HRL := Lib.hid h2
  have HRW := Lib.hid h3
  have hlen : n = its.length := by have := h2.1; simpa using this
  have HLN := Lib.hid hlen
  clear hk h1 h2 h3 h4 hlen
  go_enter Tryd.func42, Tryd.ntmps42
  go_wp2
  go_loopw [3] (fun i wr => ∃ t : Nat, t ≤ n ∧ i = .int .i64 (t : Int) ∧ Hid (Below w.heap.size w wr)) (fun i _ => n - (intOf i).toNat)
  case atStart => exact ⟨0, by omega, rfl, Below.refl _ _⟩
  case round =>
    obtain ⟨t, ht, rfl, hb⟩ := hrel
    have kl := (HKB.out.later hb.out).l
    have kw := (HKB.out.later hb.out).w
    by_cases hlt : t < n
    · have hlt2 : (t : Int) < (n : Int) := by omega
      have ht0 : (0 : Int) ≤ (t : Int) := by omega
      have hti : t < its.length := by have := HLN.out; omega
      obtain ⟨gL, rfl, cl⟩ := (HRL.out.later hb.out).at hlt
      obtain ⟨gW, rfl, cw⟩ := (HRW.out.later hb.out).at hlt
      obtain ⟨ol, ok, hby, hl⟩ := HK.out.own its[t] (List.getElem_mem hti)
      have el : (its.map Item.l)[t]? = some its[t].l := by simp [hti]
      have ek : (its.map Item.k)[t]? = some its[t].k := by simp [hti]
      rw [el] at cl
      rw [ek] at cw
      have RL := (ol.rd hby (by omega)).later hb.out
      have RK := (ok.rd hby (by omega)).later hb.out
      obtain ⟨al, kl2, fl⟩ := own_form ol.2
      obtain ⟨ak, kk2, fk⟩ := own_form ok.2
      rw [fl] at cl RL
      rw [fk] at cw RK
      have HRR := Lib.hid (And.intro RL RK)
      clear RL RK ol ok hl el ek fl fk
      obtain ⟨nx, hnx⟩ : ∃ q, q = its[t].xs.length := ⟨_, rfl⟩
      rw [← hnx] at cl cw HRR
      have D0 : Below wr.heap.size wr wr.drew := (Below.refl _ _).drew
      have KS : Hid (∀ wx, Below wr.heap.size wr wx → wx.cell? ⟨g, 0, none⟩ = some (.slice (some ⟨gL, 0, none⟩) n cL) ∧ wx.cell? ⟨g, 1, none⟩ = some (.slice (some ⟨gW, 0, none⟩) n cW) ∧ wx.cell? ⟨gL, t, none⟩ = some (.slice al nx kl2) ∧ wx.cell? ⟨gW, t, none⟩ = some (.slice ak nx kk2)) := fun wx h => ⟨by rw [h.cell (World.block_lt_of_cell? _ _ kl)]; exact kl, by rw [h.cell (World.block_lt_of_cell? _ _ kw)]; exact kw, by rw [h.cell (World.block_lt_of_cell? _ _ cl)]; exact cl, by rw [h.cell (World.block_lt_of_cell? _ _ cw)]; exact cw⟩
      clear hnx
      go_wp2_with fail
      go_region_held3 (fun wx => wx.cell? ⟨g, 0, none⟩ = some (.slice (some ⟨gL, 0, none⟩) n cL) ∧ wx.cell? ⟨g, 1, none⟩ = some (.slice (some ⟨gW, 0, none⟩) n cW) ∧ wx.cell? ⟨gL, t, none⟩ = some (.slice al nx kl2) ∧ wx.cell? ⟨gW, t, none⟩ = some (.slice ak nx kk2)) (first | exact KS.out _ D0 | exact KS.out _ DD1)
        (first | (go_at_call 12; refine (alike_same (HRR.out.1.later D0) (HRR.out.2.later D0)).mono ?_; rintro e1 w1 ⟨rfl, hb1⟩; have DD1 := D0.trans (hb1.mono D0.size)))
      have HB1 := Lib.hid (hb.out.trans (DD1.mono hb.out.size))
      clear KS D0 DD1 hb1 HRR kl kw cl cw
      go_wp2
      go_roundw
      case rel => exact ⟨t + 1, by omega, by go_num, HB1⟩
      case measure => simp [intOf]; omega
    · have hge : (n : Int) ≤ (t : Int) := by omega
      go_wp2
      go_ret
      exact ⟨rfl, hb.out⟩
theorem FrT.own {w w' : World} {B m : Nat} {v : Value} {xs : List Nat} (h : FrT w w') (k : Own w B v m xs) : Own w' B v m xs := by
  refine ⟨k.1, k.2.1, ?_⟩
  rcases k.2.2 with h2 | ⟨g, cap, cur, h3, h4, h5, h6⟩
  · exact .inl h2
  · exact .inr ⟨g, cap, cur, h3, h4, by rw [h g _ _ _ h5 (by decide) (by decide)]; exact h5, h6⟩
theorem own_eq {w : World} {B m n c : Nat} {a : Option Addr} {xs : List Nat} (h : Own w B (.slice a m c) n xs) : m = n := by
  rcases h.2.2 with ⟨h1, h2⟩ | ⟨g, cap, cur, h1, _⟩
  · simp only [Value.slice.injEq] at h1
    omega
  · simp only [Value.slice.injEq] at h1
    exact h1.2.1
/-- No item shares its memory with v. -/
def Hap (its : List Item) (v : Value) : Prop := ∀ p ∈ its, AP p.l v ∧ AP p.k v
theorem Hap.new {w : World} {B g n : Nat} {its : List Item} {v : Value} (h : Bk w B g n its) (hv : ∀ x, v.ownBlock = some x → w.heap.size ≤ x) : Hap its v := fun p hp => ⟨fun x hx hy => by have := ((h.own p hp).1.2.lt x hx).2; have := hv x hy; omega, fun x hx hy => by have := ((h.own p hp).2.1.2.lt x hx).2; have := hv x hy; omega⟩
theorem Hap.add {its : List Item} {v a u : Value} {xs : List Nat} {h : Nat} (hp : Hap its v) (ha : AP a v) (hu : ∀ x, u.ownBlock = some x → h ≤ x) (hv : ∀ x, v.ownBlock = some x → x < h) : Hap (its ++ [⟨a, u, xs⟩]) v := fun p hq => by
  rcases List.mem_append.1 hq with hq | hq
  · exact hp p hq
  · simp at hq
    subst hq
    exact ⟨ha, fun x hx hy => by have := hu x hx; have := hv x hy; omega⟩
/-- What is yet to be kept: each owns its bytes, all apart, and apart from the items. -/
structure Pend (w : World) (B : Nat) (its : List Item) (vs : List (Value × List Nat)) : Prop where
  own : ∀ p ∈ vs, Own w B p.1 p.2.length p.2 ∧ Bys p.2 ∧ p.2.length ≤ 4194304
  ap : (vs.map Prod.fst).Pairwise AP
  hap : ∀ p ∈ vs, Hap its p.1
theorem Pend.nil (w : World) (B : Nat) (its : List Item) : Pend w B its [] := ⟨by simp, by simp, by simp⟩
theorem Pend.later {w w' : World} {B : Nat} {its : List Item} {vs : List (Value × List Nat)} (h : Pend w B its vs) (hb : Below w.heap.size w w') : Pend w' B its vs := ⟨fun p hp => ⟨(h.own p hp).1.later hb, (h.own p hp).2⟩, h.ap, h.hap⟩
theorem Pend.frt {w w' : World} {B : Nat} {its : List Item} {vs : List (Value × List Nat)} (h : Pend w B its vs) (hb : FrT w w') : Pend w' B its vs := ⟨fun p hp => ⟨hb.own (h.own p hp).1, (h.own p hp).2⟩, h.ap, h.hap⟩
theorem Pend.push {w w' : World} {B g n : Nat} {its : List Item} {vs : List (Value × List Nat)} {v : Value} {xs : List Nat} (h : Pend w B its vs) (hk : Bk w B g n its) (hb : Below w.heap.size w w') (ho : Own w' w.heap.size v xs.length xs) (hB : B ≤ w.heap.size) (hby : Bys xs) (hl : xs.length ≤ 4194304) : Pend w' B its (vs ++ [(v, xs)]) := by
  have hv : ∀ x, v.ownBlock = some x → w.heap.size ≤ x := fun x hx => (ho.2.lt x hx).1
  refine ⟨fun p hp => ?_, ?_, fun p hp => ?_⟩
  · rcases List.mem_append.1 hp with hp | hp
    · exact (h.later hb).own p hp
    · simp at hp
      subst hp
      exact ⟨ho.mono hB, hby, hl⟩
  · rw [List.map_append, List.pairwise_append]
    refine ⟨h.ap, by simp, fun u hu y hy => ?_⟩
    simp at hy
    subst hy
    obtain ⟨p, hp, rfl⟩ := List.mem_map.1 hu
    exact fun x hx hy => by have := ((h.own p hp).1.2.lt x hx).2; have := hv x hy; omega
  · rcases List.mem_append.1 hp with hp | hp
    · exact h.hap p hp
    · simp at hp
      subst hp
      exact Hap.new hk hv
theorem keep_pend {w : World} {g B n m c : Nat} {a : Option Addr} {its : List Item} {xs : List Nat} {vs : List (Value × List Nat)} (hk : Bk w B g n its) (hp : Pend w B its ((.slice a m c, xs) :: vs)) (hn : n ≤ 1000) (hB : B ≤ w.heap.size) :
    Calls Tryd.prog 19 #[.pointer (some ⟨g, 0, none⟩), .slice a m c] w fun r w' => r = .returned (.tuple #[]) ∧ ∃ js : List Item, js.map Item.xs = [xs] ∧ Bk w' B g (n + 1) (its ++ js) ∧ Pend w' B (its ++ js) vs ∧ Ex B g w w' ∧ FrT w w' ∧ FrO w w' g := by
  obtain ⟨o, hby, hl⟩ := hp.own (.slice a m c, xs) (by simp)
  simp only at o hby hl
  have hm := own_eq o
  subst hm
  refine (keep_bk hk o (hp.hap (.slice a xs.length c, xs) (by simp)) hby hl hn hB).mono ?_
  rintro r w' ⟨rfl, u, b, nu, sz, e1, e2, e3, OW, ib, T, FO⟩
  have pw := hp.ap
  simp only [List.map_cons, List.pairwise_cons] at pw
  refine ⟨rfl, [⟨.slice a xs.length c, u, xs⟩], rfl, b, ⟨fun p hq => ⟨T.own (hp.own p (by simp [hq])).1, (hp.own p (by simp [hq])).2⟩, pw.2, fun p hq => ?_⟩, ⟨e1, e2, e3, sz, fun i hi hg => ?_⟩, T, FO⟩
  · exact (hp.hap p (by simp [hq])).add (pw.1 _ (List.mem_map.2 ⟨p, hq, rfl⟩)) nu (fun x hx => ((hp.own p (by simp [hq])).1.2.lt x hx).2)
  · rcases ib i (by omega) hi with h | h
    · exact h
    · exact absurd h hg

end Go.Proofs.YtledfniedoapiaaDoor

namespace Go.Proofs.YtledfniedoapiaaDoor
open Go.RowKit
set_option linter.unusedVariables false

theorem ruint_uintF : ∀ (f u i q : Nat) (rest : List Nat), i + f = 9 → u < 128 ^ (f + 1) → (0 < i → 0 < u) → q < 128 ^ i → q + u * 128 ^ i < 18446744073709551616 → ruint f (uintF f u ++ rest) i q = (q + u * 128 ^ i, i + (uintF f u).length, 0) := by
  intro f
  induction f with
  | zero =>
    intro u i q rest hi hu hp hq ht
    have hi9 : i = 9 := by omega
    subst hi9
    have hu1 : u ≤ 1 := by
      have e : (128 : Nat) ^ 9 = 9223372036854775808 := by decide
      rw [e] at ht
      omega
    show ruint 0 (u :: rest) 9 q = _
    unfold ruint
    rw [if_neg (by omega), if_neg (by omega), if_neg (by omega)]
    rw [Nat.mod_eq_of_lt (by omega)]
    rfl
  | succ f ih =>
    intro u i q rest hi hu hp hq ht
    by_cases h127 : 127 < u
    · rw [uintF_go f u h127, List.cons_append]
      unfold ruint
      rw [if_neg (by omega), if_pos (by omega)]
      have e1 : (u % 128 + 128) % 128 = u % 128 := by omega
      rw [e1]
      have e2 : q + u % 128 * 128 ^ i + u / 128 * 128 ^ (i + 1) = q + u * 128 ^ i := by
        have : u * 128 ^ i = (128 * (u / 128) + u % 128) * 128 ^ i := by rw [Nat.div_add_mod]
        rw [this, Nat.add_mul, Nat.pow_succ]
        have : u / 128 * (128 ^ i * 128) = 128 * (u / 128) * 128 ^ i := by rw [Nat.mul_comm (128 ^ i) 128, ← Nat.mul_assoc, Nat.mul_comm (u / 128) 128]
        omega
      rw [ih (u / 128) (i + 1) _ rest (by omega) (by rw [Nat.pow_succ] at hu; exact Nat.div_lt_of_lt_mul (by rw [Nat.mul_comm]; exact hu)) (by omega) (next_lt q u i hq) (by rw [e2]; exact ht), e2]
      simp
      omega
    · rw [uintF_stop (f + 1) u (by omega)]
      show ruint (f + 1) (u :: rest) i q = _
      unfold ruint
      rw [if_neg (by omega), if_neg (by omega), if_neg (by omega), Nat.mod_eq_of_lt (by omega)]
      rfl

/-- What Uint writes, ReadUint reads, wherever it stands. -/
theorem uint_trip (v : Nat) (hv : v < 18446744073709551616) (pre rest : List Nat) : uintR (pre ++ (uintL v ++ rest)) pre.length = (v, pre.length + (uintL v).length, 0) := by
  unfold uintR
  rw [List.drop_left]
  have := ruint_uintF 9 v 0 0 rest rfl (Nat.lt_of_lt_of_le hv (by decide)) (by omega) (by simp) (by simpa using hv)
  rw [uintL, this]
  simp
/-- What Bytes writes, ReadBytes reads, wherever it stands. -/
theorem bytes_trip (bs : List Nat) (hl : bs.length < 18446744073709551616) (most : Nat) (hm : bs.length ≤ most) (pre rest : List Nat) :
    bytesR (pre ++ (bytesL bs ++ rest)) pre.length most = (bs, pre.length + (bytesL bs).length, 0) := by
  unfold bytesR bytesL
  rw [List.append_assoc (uintL bs.length) bs rest, uint_trip bs.length hl pre (bs ++ rest)]
  have h1 : ¬ most < bs.length := by omega
  have h2 : ¬ (pre ++ (uintL bs.length ++ (bs ++ rest))).length < pre.length + (uintL bs.length).length + bs.length := by simp; omega
  simp only [ne_eq, not_true_eq_false, if_false, h1, h2]
  have e : pre ++ (uintL bs.length ++ (bs ++ rest)) = (pre ++ uintL bs.length) ++ (bs ++ rest) := by simp
  rw [e, show pre.length + (uintL bs.length).length = (pre ++ uintL bs.length).length by simp, List.drop_left, List.take_left]
  simp
  omega

end Go.Proofs.YtledfniedoapiaaDoor

namespace Go.Proofs.YtledfniedoapiaaDoor
open Go.RowKit
set_option linter.unusedVariables false

theorem und_ws : Tryd.prog.underlying 48 = some (.slice 51) := by kernel_rfl
theorem info_w : (Tryd.prog.info? 51).map (fun i => (i.zero, i.size, i.bytes)) = some (some (.agg #[.slice none 0 0, .int .i64 0]), 2, 32) := by kernel_rfl

theorem rising_atL (z : Int) (n : Nat) (hz : z = (n : Int)) (hn : n < 9223372036854775808) (w : World) {L : List Nat} (hL : be8 n = L) :
    Calls Tryd.prog 44 #[.int .i64 z] w fun e w' => ∃ a m c, e = .returned (.tuple #[.slice a m c, .int .i64 0]) ∧ Own w' w.heap.size (.slice a m c) m L ∧ Below w.heap.size w w' := by
  subst hz hL; exact rising_any n hn w

theorem falling_atL (z : Int) (n : Nat) (hz : z = (n : Int)) (hn : n < 9223372036854775808) (w : World) {L : List Nat} (hL : be8 (9223372036854775807 - n) = L) :
    Calls Tryd.prog 45 #[.int .i64 z] w fun e w' => ∃ a m c, e = .returned (.tuple #[.slice a m c, .int .i64 0]) ∧ Own w' w.heap.size (.slice a m c) m L ∧ Below w.heap.size w w' := by
  subst hz hL; exact falling_any n hn w

theorem owns_later {w w' : World} {B e size n : Nat} {v : Value} {xs : List Value} (h : w.ownsRow B e size v n xs) (hb : Below w.heap.size w w') : w'.ownsRow B e size v n xs := by
  refine ⟨h.1, ?_⟩
  rcases h.2 with h2 | ⟨g, cap, cur, h3, h4, h5, h6⟩
  · exact .inl h2
  · exact .inr ⟨g, cap, cur, h3, h4, by rw [hb.block g (Array.getElem?_eq_some_iff.1 h5).1]; exact h5, h6⟩

/-- What 'written' hands out: six values, each with the number of its Read. -/
def Six (w : World) (g : Nat) (v : Nat) (bs : List Nat) : Prop :=
  ∃ u0 u1 u2 u3 u4 u5 : Value, (∀ j x, [u0, .int .i64 2, u1, .int .i64 6, u2, .int .i64 8, u3, .int .i64 4, u4, .int .i64 10, u5, .int .i64 13][j]? = some x → w.cell? ⟨g, j, none⟩ = some x) ∧
    Rd w u0 (uintL v) ∧ Rd w u1 (be8 (v / 2)) ∧ Rd w u2 (be8 (9223372036854775807 - v / 2)) ∧ Rd w u3 (bytesL bs) ∧ Rd w u4 (ordL bs) ∧ Rd w u5 (frameL bs)

set_option maxRecDepth 100000 in
set_option maxHeartbeats 2000000 in
theorem written_any (v : Nat) (hv : v < 18446744073709551616) {vb : Value} {bs : List Nat} {w : World} (hb : Rd w vb bs) (ht : Tab w) (hl : bs.length ≤ 1048576) :
    Calls Tryd.prog 21 #[.int .u64 (v : Int), vb] w fun e w' => ∃ g c, e = .returned (.slice (some ⟨g, 0, none⟩) 6 c) ∧ Six w' g v bs ∧ Below w.heap.size w w' := by
  obtain ⟨i0, hi, hz0, hz1, hz2⟩ := info_parts info_w
  obtain ⟨a, n, cap, rfl⟩ := rd_slice hb
  obtain ⟨hn, _, _, _⟩ := rd_lens hb
  rw [← hn] at hl
  have HN : Hid (n = bs.length) := hn
  clear hn
  have hbys := hb.1
  obtain ⟨LR, hLR⟩ : ∃ L, be8 (v / 2) = L := ⟨_, rfl⟩
  obtain ⟨LF, hLF⟩ : ∃ L, be8 (9223372036854775807 - v / 2) = L := ⟨_, rfl⟩
  have HLR : Hid (be8 (v / 2) = LR) := hLR
  have HLF : Hid (be8 (9223372036854775807 - v / 2) = LF) := hLF
  have HV2 : Hid (v / 2 < 9223372036854775808) := by unfold Hid; omega
  have HLRB : Hid (Bys LR ∧ LR.length = 8) := by unfold Hid; rw [← hLR]; exact ⟨be8_bys _, rfl⟩
  have HLFB : Hid (Bys LF ∧ LF.length = 8) := by unfold Hid; rw [← hLF]; exact ⟨be8_bys _, rfl⟩
  clear hLR hLF
  have HDIV : Hid (((v : Int) / 2) = ((v / 2 : Nat) : Int)) := by unfold Hid; omega
  have HORD : Hid ((ordL bs).length ≤ 4194304) := by
    unfold Hid
    have h1 := ordL_len bs
    have h2 : bs.count 0 ≤ bs.length := List.count_le_length
    have := HN.out
    omega
  have hln : (n : Int) ≤ 1048576 := by omega
  go_enter Tryd.func21, Tryd.ntmps21
  go_wp2_with fail
  refine (rising_atL _ (v / 2) HDIV.out HV2.out _ HLR.out).mono ?_
  rintro e w1 ⟨a1, m1, c1, rfl, own1, hb1⟩
  have r1 := own1.rd HLRB.out.1 (by rw [own1.1, HLRB.out.2]; omega)
  have hs1 := hb1.size
  clear own1
  go_wp2_with fail
  refine (falling_atL _ (v / 2) HDIV.out HV2.out _ HLF.out).mono ?_
  rintro e w2 ⟨a2, m2, c2, rfl, own2, hb2⟩
  have r2 := own2.rd HLFB.out.1 (by rw [own2.1, HLFB.out.2]; omega)
  have r1 := r1.later hb2
  have hb2' := hb1.trans (hb2.mono hs1)
  have hs2 := hb2'.size
  clear own2 hb2 hb1 hs1
  go_wp2_with fail
  refine (uint_at _ v rfl hv _ rfl).mono ?_
  rintro e w3 ⟨a3, m3, c3, rfl, own3, hb3⟩
  have r0 := own3.rd (uintL_bys v hv) (by rw [own3.1]; have := (uintL_len v).2; omega)
  have r1 := r1.later hb3
  have r2 := r2.later hb3
  have hb3' := hb2'.trans (hb3.mono hs2)
  have hs3 := hb3'.size
  clear own3 hb3 hb2' hs2
  go_wp2_with fail
  refine (bytes_any (hb.later hb3') (by rw [← HN.out]; omega)).mono ?_
  rintro e w4 ⟨a4, m4, c4, rfl, own4, hb4⟩
  have hm4 : m4 ≤ 2097152 := by
    have h1 := own4.1
    have h2 := uintL_len bs.length
    unfold bytesL at h1
    rw [List.length_append, ← HN.out] at h1
    rw [← HN.out] at h2
    omega
  have r3 := own4.rd ((uintL_bys _ (by rw [← HN.out]; omega)).app hbys) (by omega)
  have r0 := r0.later hb4
  have r1 := r1.later hb4
  have r2 := r2.later hb4
  have hb4' := hb3'.trans (hb4.mono hs3)
  have hs4 := hb4'.size
  clear own4 hb4 hb3' hs3
  go_wp2_with fail
  refine (ordered_any (hb.later hb4') (by have := HORD.out; omega)).mono ?_
  rintro e w5 ⟨a5, m5, c5, rfl, own5, hb5⟩
  have r4 := own5.rd (ordL_bys bs hbys) (by rw [own5.1]; have := HORD.out; omega)
  have r0 := r0.later hb5
  have r1 := r1.later hb5
  have r2 := r2.later hb5
  have r3 := r3.later hb5
  have hb5' := hb4'.trans (hb5.mono hs4)
  have hs5 := hb5'.size
  clear own5 hb5 hb4' hs4
  go_wp2_with fail
  have A6 := (Below.refl w5.heap.size w5).alloc (Nat.le_refl _) (.cells #[.slice a3 m3 c3, .int .i64 2, .slice a1 m1 c1, .int .i64 6, .slice a2 m2 c2, .int .i64 8, .slice a4 m4 c4, .int .i64 4, .slice a5 m5 c5, .int .i64 10] 51)
  have hown : (w5.alloc (.cells #[.slice a3 m3 c3, .int .i64 2, .slice a1 m1 c1, .int .i64 6, .slice a2 m2 c2, .int .i64 8, .slice a4 m4 c4, .int .i64 4, .slice a5 m5 c5, .int .i64 10] 51)).ownsRow w.heap.size 51 2 (.slice (some ⟨w5.heap.size, 0, none⟩) 5 5) 5 [.slice a3 m3 c3, .int .i64 2, .slice a1 m1 c1, .int .i64 6, .slice a2 m2 c2, .int .i64 8, .slice a4 m4 c4, .int .i64 4, .slice a5 m5 c5, .int .i64 10] :=
    ⟨rfl, .inr ⟨w5.heap.size, 5, _, rfl, hs5, heap_alloc_new w5 _, Nat.le_refl _, by unfold maxLen; omega, rfl, rfl⟩⟩
  have hb6 := hb5'.trans (A6.mono hs5)
  refine (frame_ok (hb.later hb6) (ht.later hb6) (by rw [← HN.out]; exact hl)).mono ?_
  rintro e w6 ⟨a6, m6, c6, rfl, own6, hb6f⟩
  have hown6 := owns_later hown hb6f
  have B5 := A6.trans (hb6f.mono A6.size)
  have hb7 := hb6.trans (hb6f.mono hb6.size)
  have hs7 := hb7.size
  have hs6 := hb6f.size
  have hm6 : m6 ≤ 2097152 := by rw [own6.1]; simp [frameL, be4, le4]; rw [← HN.out]; omega
  clear hb6f hb6 hown A6
  go_wp2_with (at_builtin; refine wpList_append_own _ rfl _ _ 48 rfl w.heap.size 51 i0 (.agg #[.slice none 0 0, .int .i64 0]) 2 32 und_ws hi hz0 hz1 hz2 rfl (by decide) _ 5 _ rfl (hown6.alloc _) ⟨w6.heap.size, 0, none⟩ 1 1 [.slice a6 m6 c6, .int .i64 13] rfl rfl (news_new _ _ _) ?c2 ?c3 ?c4 ?c5 ?_)
  case c2 => intro u hu; simp at hu; rcases hu with rfl | rfl <;> rfl
  case c3 => unfold maxLen; omega
  case c4 => omega
  case c5 => simp; omega
  intro v' w8 hown8 hgrow _
  have hsz : w5.heap.size + 1 ≤ w6.heap.size := by simpa using hs6
  have B8 : Below w5.heap.size w5 w8 := (B5.alloc B5.size _).grown hgrow (by simp; omega) (fun k hk => by simp [Value.ownBlock] at hk; omega)
  have hb8 := hb5'.trans (B8.mono hs5)
  have o6 := (own6.2.alloc (.cells #[.slice a6 m6 c6, .int .i64 13] 51)).kept hgrow (by
    by_cases hnb : (Value.slice a6 m6 c6).ownBlock = none
    · exact .inl hnb
    · right
      intro he
      have h1 := own6.2.lt w5.heap.size (by rw [he]; rfl)
      have h2 := h1.1
      simp at h2
      omega)
  have own8 : Own w8 (w5.heap.size + 1) (.slice a6 m6 c6) m6 (frameL bs) := ⟨own6.1, by simpa using o6⟩
  have r5 := own8.rd (frameL_bys bs hbys (by rw [← HN.out]; exact hl)) (by omega)
  have r0 := r0.later B8
  have r1 := r1.later B8
  have r2 := r2.later B8
  have r3 := r3.later B8
  have r4 := r4.later B8
  obtain ⟨g8, c8, hv8⟩ : ∃ g c, v' = .slice (some ⟨g, 0, none⟩) 6 c := by
    rcases hown8.2 with ⟨_, h⟩ | ⟨g, c, cur, h, _⟩
    · omega
    · exact ⟨g, c, h⟩
  rw [hv8] at hown8 ⊢
  have hsix : Six w8 g8 v bs := by
    refine ⟨_, _, _, _, _, _, fun j x hj => ?_, r0, by rw [HLR.out]; exact r1, by rw [HLF.out]; exact r2, r3, r4, r5⟩
    have hjl : j < 12 := by
      have := (List.getElem?_eq_some_iff.1 hj).1
      simpa using this
    rw [hown8.cellAt j (by omega)]
    exact hj
  have HSIX : Hid (Six w8 g8 v bs) := hsix
  clear hown8 hgrow own6 own8 o6 r0 r1 r2 r3 r4 r5 B5 B8 hown6 hsix
  go_wp2
  go_ret
  exact ⟨g8, c8, rfl, HSIX.out, hb8⟩

end Go.Proofs.YtledfniedoapiaaDoor
