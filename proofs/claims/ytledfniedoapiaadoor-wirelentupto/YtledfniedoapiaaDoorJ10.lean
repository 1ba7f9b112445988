import Derived.Test.YtledfniedoapiaaDoorJ09
import Derived.Deep.RegionHeld3
import Derived.Lib.Hide
namespace Go.Proofs.YtledfniedoapiaaDoor
open Go.RowKit
set_option linter.unusedVariables false

/-- Two byte strings that lie apart. -/
def AP (u v : Value) : Prop := ∀ g, u.ownBlock = some g → v.ownBlock ≠ some g
theorem AP.symm {u v : Value} (h : AP u v) : AP v u := fun g hv hu => h g hu hv
/-- An item of the book: what was handed out, the copy, what they hold. -/
structure Item where
  l : Value
  k : Value
  xs : List Nat
/-- The book: each item and each copy owns its bytes, all apart. -/
structure Bk (w : World) (B g n : Nat) (its : List Item) : Prop where
  box : ∃ aL cL aW cW, KBox w g (.slice aL n cL) (.slice aW n cW) ∧ RowS w B (.slice aL n cL) n (its.map Item.l) ∧ RowS w B (.slice aW n cW) n (its.map Item.k) ∧ AP (.slice aL n cL) (.slice aW n cW)
  own : ∀ p ∈ its, Own w B p.l p.xs.length p.xs ∧ Own w B p.k p.xs.length p.xs ∧ Bys p.xs ∧ p.xs.length ≤ 4194304
  apart : (its.map Item.l ++ its.map Item.k).Pairwise AP
theorem Bk.later {w w' : World} {B g n : Nat} {its : List Item} (h : Bk w B g n its) (hb : Below w.heap.size w w') : Bk w' B g n its := by
  obtain ⟨⟨aL, cL, aW, cW, h1, h2, h3, h4⟩, h5, h6⟩ := h
  exact ⟨⟨aL, cL, aW, cW, h1.later hb, h2.later hb, h3.later hb, h4⟩, fun p hp => ⟨(h5 p hp).1.later hb, (h5 p hp).2.1.later hb, (h5 p hp).2.2⟩, h6⟩
theorem Own.same_block {w w' : World} {B m : Nat} {v : Value} {xs : List Nat} (h : Own w B v m xs) (k : ∀ g, v.ownBlock = some g → w'.heap[g]? = w.heap[g]?) : Own w' B v m xs := by
  refine ⟨h.1, h.2.1, ?_⟩
  rcases h.2.2 with h2 | ⟨g, cap, cur, h3, h4, h5, h6⟩
  · exact .inl h2
  · exact .inr ⟨g, cap, cur, h3, h4, by rw [k g (by rw [h3]; rfl)]; exact h5, h6⟩
/-- What Keep does to the rest of the memory: nothing but to the box and its rows. -/
def Still (w w' : World) (g : Nat) (vL vW : Value) : Prop := (∀ i, i < w.heap.size → i ≠ g → vL.ownBlock ≠ some i → vW.ownBlock ≠ some i → w'.heap[i]? = w.heap[i]?) ∧ w.heap.size ≤ w'.heap.size ∧ w'.os = w.os ∧ w'.tape = w.tape ∧ w'.output = w.output
theorem Own.still {w w' : World} {B g n : Nat} {v vL vW : Value} {vs us : List Value} {m n1 n2 : Nat} {xs : List Nat} (h : Own w B v m xs) (hk : KBox w g vL vW) (rL : RowS w n1 vL n vs) (rW : RowS w n2 vW n us) (s : Still w w' g vL vW) : Own w' B v m xs :=
  h.same_block (fun x hx => s.1 x (h.2.lt x hx).2 (fun e => kbox_own hk h hx e.symm) (fun e => row_own rL h e hx) (fun e => row_own rW h e hx))
/-- All blocks but those of books and of their rows are as they were. -/
def FrT (w w' : World) : Prop := ∀ (q : Nat) (cs : Array Value) (ty : TypeId) (fz : Nat × Nat), w.heap[q]? = some (Obj.cells cs ty fz) → ty ≠ 23 → ty ≠ 45 → w'.heap[q]? = w.heap[q]?
theorem FrT.of_below {w w' : World} (h : Below w.heap.size w w') : FrT w w' := fun q cs ty fz hq _ _ => h.block q (Array.getElem?_eq_some_iff.1 hq).1
theorem FrT.trans {a b c : World} (h : FrT a b) (k : FrT b c) : FrT a c := fun q cs ty fz hq h1 h2 => by
  have e := h q cs ty fz hq h1 h2
  rw [k q cs ty fz (by rw [e]; exact hq) h1 h2, e]
theorem row_not {w : World} {B m q : Nat} {u : Value} {vs : List Value} {cs : Array Value} {ty : TypeId} {fz : Nat × Nat} (h : RowS w B u m vs) (k : w.heap[q]? = some (.cells cs ty fz)) (hty : ty ≠ 23) : u.ownBlock ≠ some q := by
  intro hu
  rcases h.2.2.2 with ⟨h1, _⟩ | ⟨g2, cap, cur, h3, _, h5, _⟩
  · rw [h1] at hu; cases hu
  · rw [h3] at hu
    simp only [Value.ownBlock, Option.some.injEq] at hu
    subst hu
    rw [h5] at k
    simp at k
    exact hty k.2.1.symm
theorem kbox_not {w : World} {g q : Nat} {vL vW : Value} {cs : Array Value} {ty : TypeId} {fz : Nat × Nat} (h : KBox w g vL vW) (k : w.heap[q]? = some (.cells cs ty fz)) (hty : ty ≠ 45) : q ≠ g := by
  rintro rfl
  unfold KBox at h
  rw [h] at k
  simp at k
  exact hty k.2.1.symm
theorem kbox_one {w : World} {g : Nat} {vL vW vL' vW' : Value} (h : KBox w g vL vW) (k : KBox w g vL' vW') : vL = vL' ∧ vW = vW' := by
  unfold KBox at *
  rw [h] at k
  simpa using k
/-- A block that is none of the book's own. -/
def Off (w : World) (g q : Nat) : Prop := ∃ vL vW, KBox w g vL vW ∧ q ≠ g ∧ vL.ownBlock ≠ some q ∧ vW.ownBlock ≠ some q
theorem Off.later {w w' : World} {g q : Nat} (h : Off w g q) (hb : Below w.heap.size w w') : Off w' g q := by
  obtain ⟨vL, vW, h1, h2⟩ := h
  exact ⟨vL, vW, h1.later hb, h2⟩
theorem Off.new {w w' : World} {B g n q : Nat} {its : List Item} (h : Bk w B g n its) (hb : Below w.heap.size w w') (hq : w.heap.size ≤ q) : Off w' g q := by
  obtain ⟨aL, cL, aW, cW, h1, h2, h3, _⟩ := h.box
  refine ⟨_, _, h1.later hb, ?_, ?_, ?_⟩
  · have := (Array.getElem?_eq_some_iff.1 h1).1; omega
  · intro hx; have := (h2.2.2.lt q hx).2; omega
  · intro hx; have := (h3.2.2.lt q hx).2; omega
def FrO (w w' : World) (g : Nat) : Prop := ∀ q, q < w.heap.size → Off w g q → w'.heap[q]? = w.heap[q]? ∧ Off w' g q
/-- Below B all blocks but one are as they were. -/
structure Ex (B g : Nat) (w w' : World) : Prop where
  os : w'.os = w.os
  tape : w'.tape = w.tape
  output : w'.output = w.output
  size : w.heap.size ≤ w'.heap.size
  block : ∀ i, i < B → i ≠ g → w'.heap[i]? = w.heap[i]?
theorem Ex.trans {B g : Nat} {a b c : World} (h : Ex B g a b) (k : Ex B g b c) : Ex B g a c := ⟨k.os.trans h.os, k.tape.trans h.tape, k.output.trans h.output, Nat.le_trans h.size k.size, fun i hi hg => (k.block i hi hg).trans (h.block i hi hg)⟩
theorem Ex.of_below {B g : Nat} {a b : World} (h : Below B a b) : Ex B g a b := ⟨h.os, h.tape, h.output, h.size, fun i hi _ => h.block i hi⟩
theorem Ex.below {B g : Nat} {a b : World} (h : Ex B g a b) (hg : g ≤ B) : Below g a b := ⟨h.os, h.tape, h.output, h.size, fun i hi => h.block i (by omega) (by omega)⟩
theorem keep_bk {w : World} {g B n m c : Nat} {a : Option Addr} {its : List Item} {xs : List Nat} (hk : Bk w B g n its) (ho : Own w B (.slice a m c) m xs) (hap : ∀ p ∈ its, AP p.l (.slice a m c) ∧ AP p.k (.slice a m c)) (hby : Bys xs) (hl : xs.length ≤ 4194304) (hn : n ≤ 1000) (hB : B ≤ w.heap.size) :
    Calls Tryd.prog 19 #[.pointer (some ⟨g, 0, none⟩), .slice a m c] w fun r w' => r = .returned (.tuple #[]) ∧ ∃ u, Bk w' B g (n + 1) (its ++ [⟨.slice a m c, u, xs⟩]) ∧ (∀ x, u.ownBlock = some x → w.heap.size ≤ x) ∧ w.heap.size ≤ w'.heap.size ∧ w'.os = w.os ∧ w'.tape = w.tape ∧ w'.output = w.output ∧ (∀ v m' ys B', Own w B' v m' ys → Own w' B' v m' ys) ∧ (∀ i, i < w.heap.size → i < B → w'.heap[i]? = w.heap[i]? ∨ i = g) ∧ FrT w w' ∧ FrO w w' g := by
  obtain ⟨⟨aL, cL, aW, cW, h1, h2, h3, h4⟩, h5, h6⟩ := hk
  refine (keep_any h1 h2 h3 h4 ho hby hl hn hB).mono ?_
  rintro r w' ⟨rfl, aL', cL', aW', cW', va, vm, vc, k1, r1, r2, o1, ne, blk, sz, e1, e2, e3, nb1, nb2⟩
  have st : Still w w' g (.slice aL n cL) (.slice aW n cW) := ⟨blk, sz, e1, e2, e3⟩
  have OW : ∀ v m' ys B', Own w B' v m' ys → Own w' B' v m' ys := fun v m' ys B' h => h.still h1 h2 h3 st
  have hu : ∀ x, (Value.slice va vm vc).ownBlock = some x → w.heap.size ≤ x := fun x hx => (o1.2.lt x hx).1
  refine ⟨rfl, .slice va vm vc, ⟨⟨aL', cL', aW', cW', k1, by simpa using r1, by simpa using r2, ne⟩, fun p hp => ?_, ?_⟩, hu, sz, e1, e2, e3, OW, fun i hi hiB => ?_, fun q cs ty fz hq h7 h8 => blk q (Array.getElem?_eq_some_iff.1 hq).1 (kbox_not h1 hq h8) (row_not h2 hq h7) (row_not h3 hq h7), fun q hq ho => ?_⟩
  · rcases List.mem_append.1 hp with hp | hp
    · exact ⟨OW _ _ _ _ (h5 p hp).1, OW _ _ _ _ (h5 p hp).2.1, (h5 p hp).2.2⟩
    · simp at hp
      subst hp
      refine ⟨?_, ?_, hby, hl⟩
      · exact own_len (OW _ _ _ _ ho)
      · have := o1.mono hB
        exact own_len this
  · -- all apart
    have new_k : ∀ p ∈ its, AP p.l (.slice va vm vc) ∧ AP p.k (.slice va vm vc) := fun p hp => ⟨fun x hx hy => by have := ((h5 p hp).1.2.lt x hx).2; have := hu x hy; omega, fun x hx hy => by have := ((h5 p hp).2.1.2.lt x hx).2; have := hu x hy; omega⟩
    have new_l : AP (.slice a m c) (.slice va vm vc) := fun x hx hy => by have := (ho.2.lt x hx).2; have := hu x hy; omega
    rw [List.pairwise_append] at h6
    obtain ⟨p1, p2, p3⟩ := h6
    simp only [List.map_append, List.map_cons, List.map_nil]
    rw [List.pairwise_append]
    refine ⟨?_, ?_, ?_⟩
    · rw [List.pairwise_append]
      refine ⟨p1, by simp, fun u hu2 v hv => ?_⟩
      simp at hv
      subst hv
      obtain ⟨p, hp, rfl⟩ := List.mem_map.1 hu2
      exact (hap p hp).1
    · rw [List.pairwise_append]
      refine ⟨p2, by simp, fun u hu2 v hv => ?_⟩
      simp at hv
      subst hv
      obtain ⟨p, hp, rfl⟩ := List.mem_map.1 hu2
      exact (new_k p hp).2
    · intro u hu2 v hv
      rcases List.mem_append.1 hu2 with hu3 | hu3 <;> rcases List.mem_append.1 hv with hv3 | hv3
      · exact p3 u hu3 v hv3
      · simp at hv3
        subst hv3
        obtain ⟨p, hp, rfl⟩ := List.mem_map.1 hu3
        exact (new_k p hp).1
      · simp at hu3
        subst hu3
        obtain ⟨p, hp, rfl⟩ := List.mem_map.1 hv3
        exact (hap p hp).2.symm
      · simp at hu3 hv3
        subst hu3 hv3
        exact new_l
  · by_cases hg : i = g
    · exact .inr hg
    · refine .inl (blk i hi hg (fun e => ?_) (fun e => ?_))
      · have := (h2.2.2.lt i e).1; omega
      · have := (h3.2.2.lt i e).1; omega
  · obtain ⟨vL, vW, f1, f2, f3, f4⟩ := ho
    obtain ⟨rfl, rfl⟩ := kbox_one f1 h1
    refine ⟨blk q hq f2 f3 f4, _, _, k1, f2, ?_, ?_⟩
    · rcases nb1 with e | e
      · rw [e]; exact f3
      · intro hx; have := e q hx; omega
    · rcases nb2 with e | e
      · rw [e]; exact f4
      · intro hx; have := e q hx; omega
theorem RowS.at {w : World} {B n x : Nat} {a : Option Addr} {c : Nat} {vs : List Value} (h : RowS w B (.slice a n c) n vs) (hx : x < n) : ∃ g, a = some ⟨g, 0, none⟩ ∧ w.cell? ⟨g, x, none⟩ = vs[x]? := by
  rcases h.2.2.2 with ⟨h1, h2⟩ | ⟨g, cap, cur, h3, h4, h5, h6⟩
  · omega
  · simp only [Value.slice.injEq] at h3
    obtain ⟨rfl, _, _⟩ := h3
    refine ⟨g, rfl, ?_⟩
    exact h.2.2.cellAt x (by have := h.1; omega)
theorem Item.own_slice {w : World} {B : Nat} {v : Value} {xs : List Nat} (h : Own w B v xs.length xs) : ∃ a c, v = .slice a xs.length c := own_form h.2
set_option maxRecDepth 100000 in
set_option maxHeartbeats 4000000 in
/-- All hold what they held. -/
theorem untouched_any {w : World} {B g n : Nat} {its : List Item} (hk : Bk w B g n its) (hn : n ≤ 1000) :
    Calls Tryd.prog 42 #[.pointer (some ⟨g, 0, none⟩)] w fun r w' => r = .returned (.bool true) ∧ Below w.heap.size w w' := by
  have HK := Lib.hid hk
  obtain ⟨aL, cL, aW, cW, h1, h2, h3, h4⟩ := hk.box
  have HKB := Lib.hid h1
  have HRL := Lib.hid h2
  have HRW := Lib.hid h3
  have hlen : n = its.length := by have := h2.1; simpa using this
  have HLN := Lib.hid hlen
  clear hk h1 h2 h3 h4 hlen
  go_enter Tryd.func42, Tryd.ntmps42
  go_wp2
  go_loopw [3] (fun i wr => ∃ t : Nat, t ≤ n ∧ i = .int .i64 (t : Int) ∧ Hid (Below w.heap.size w wr)) (fun i _ => n - (intOf i).toNat)
  case atStart => exact ⟨0, by omega, rfl, Below.refl _ _⟩
  case round =>
    obtain ⟨t, ht, rfl, hb⟩ := hrel
    have kl := (HKB.out.later hb.out).l
    have kw := (HKB.out.later hb.out).w
    by_cases hlt : t < n
    · have hlt2 : (t : Int) < (n : Int) := by omega
      have ht0 : (0 : Int) ≤ (t : Int) := by omega
      have hti : t < its.length := by have := HLN.out; omega
      obtain ⟨gL, rfl, cl⟩ := (HRL.out.later hb.out).at hlt
      obtain ⟨gW, rfl, cw⟩ := (HRW.out.later hb.out).at hlt
      obtain ⟨ol, ok, hby, hl⟩ := HK.out.own its[t] (List.getElem_mem hti)
      have el : (its.map Item.l)[t]? = some its[t].l := by simp [hti]
      have ek : (its.map Item.k)[t]? = some its[t].k := by simp [hti]
      rw [el] at cl
      rw [ek] at cw
      have RL := (ol.rd hby (by omega)).later hb.out
      have RK := (ok.rd hby (by omega)).later hb.out
      obtain ⟨al, kl2, fl⟩ := own_form ol.2
      obtain ⟨ak, kk2, fk⟩ := own_form ok.2
      rw [fl] at cl RL
      rw [fk] at cw RK
      have HRR := Lib.hid (And.intro RL RK)
      clear RL RK ol ok hl el ek fl fk
      obtain ⟨nx, hnx⟩ : ∃ q, q = its[t].xs.length := ⟨_, rfl⟩
      rw [← hnx] at cl cw HRR
      have D0 : Below wr.heap.size wr wr.drew := (Below.refl _ _).drew
      have KS : Hid (∀ wx, Below wr.heap.size wr wx → wx.cell? ⟨g, 0, none⟩ = some (.slice (some ⟨gL, 0, none⟩) n cL) ∧ wx.cell? ⟨g, 1, none⟩ = some (.slice (some ⟨gW, 0, none⟩) n cW) ∧ wx.cell? ⟨gL, t, none⟩ = some (.slice al nx kl2) ∧ wx.cell? ⟨gW, t, none⟩ = some (.slice ak nx kk2)) := fun wx h => ⟨by rw [h.cell (World.block_lt_of_cell? _ _ kl)]; exact kl, by rw [h.cell (World.block_lt_of_cell? _ _ kw)]; exact kw, by rw [h.cell (World.block_lt_of_cell? _ _ cl)]; exact cl, by rw [h.cell (World.block_lt_of_cell? _ _ cw)]; exact cw⟩
      clear hnx
      go_wp2_with fail
      go_region_held3 (fun wx => wx.cell? ⟨g, 0, none⟩ = some (.slice (some ⟨gL, 0, none⟩) n cL) ∧ wx.cell? ⟨g, 1, none⟩ = some (.slice (some ⟨gW, 0, none⟩) n cW) ∧ wx.cell? ⟨gL, t, none⟩ = some (.slice al nx kl2) ∧ wx.cell? ⟨gW, t, none⟩ = some (.slice ak nx kk2)) (first | exact KS.out _ D0 | exact KS.out _ DD1)
        (first | (go_at_call 12; refine (alike_same (HRR.out.1.later D0) (HRR.out.2.later D0)).mono ?_; rintro e1 w1 ⟨rfl, hb1⟩; have DD1 := D0.trans (hb1.mono D0.size)))
      have HB1 := Lib.hid (hb.out.trans (DD1.mono hb.out.size))
      clear KS D0 DD1 hb1 HRR kl kw cl cw
      go_wp2
      go_roundw
      case rel => exact ⟨t + 1, by omega, by go_num, HB1⟩
      case measure => simp [intOf]; omega
    · have hge : (n : Int) ≤ (t : Int) := by omega
      go_wp2
      go_ret
      exact ⟨rfl, hb.out⟩
theorem FrT.own {w w' : World} {B m : Nat} {v : Value} {xs : List Nat} (h : FrT w w') (k : Own w B v m xs) : Own w' B v m xs := by
  refine ⟨k.1, k.2.1, ?_⟩
  rcases k.2.2 with h2 | ⟨g, cap, cur, h3, h4, h5, h6⟩
  · exact .inl h2
  · exact .inr ⟨g, cap, cur, h3, h4, by rw [h g _ _ _ h5 (by decide) (by decide)]; exact h5, h6⟩
theorem own_eq {w : World} {B m n c : Nat} {a : Option Addr} {xs : List Nat} (h : Own w B (.slice a m c) n xs) : m = n := by
  rcases h.2.2 with ⟨h1, h2⟩ | ⟨g, cap, cur, h1, _⟩
  · simp only [Value.slice.injEq] at h1
    omega
  · simp only [Value.slice.injEq] at h1
    exact h1.2.1
/-- No item shares its memory with v. -/
def Hap (its : List Item) (v : Value) : Prop := ∀ p ∈ its, AP p.l v ∧ AP p.k v
theorem Hap.new {w : World} {B g n : Nat} {its : List Item} {v : Value} (h : Bk w B g n its) (hv : ∀ x, v.ownBlock = some x → w.heap.size ≤ x) : Hap its v := fun p hp => ⟨fun x hx hy => by have := ((h.own p hp).1.2.lt x hx).2; have := hv x hy; omega, fun x hx hy => by have := ((h.own p hp).2.1.2.lt x hx).2; have := hv x hy; omega⟩
theorem Hap.add {its : List Item} {v a u : Value} {xs : List Nat} {h : Nat} (hp : Hap its v) (ha : AP a v) (hu : ∀ x, u.ownBlock = some x → h ≤ x) (hv : ∀ x, v.ownBlock = some x → x < h) : Hap (its ++ [⟨a, u, xs⟩]) v := fun p hq => by
  rcases List.mem_append.1 hq with hq | hq
  · exact hp p hq
  · simp at hq
    subst hq
    exact ⟨ha, fun x hx hy => by have := hu x hx; have := hv x hy; omega⟩
/-- What is yet to be kept: each owns its bytes, all apart, and apart from the items. -/
structure Pend (w : World) (B : Nat) (its : List Item) (vs : List (Value × List Nat)) : Prop where
  own : ∀ p ∈ vs, Own w B p.1 p.2.length p.2 ∧ Bys p.2 ∧ p.2.length ≤ 4194304
  ap : (vs.map Prod.fst).Pairwise AP
  hap : ∀ p ∈ vs, Hap its p.1
theorem Pend.nil (w : World) (B : Nat) (its : List Item) : Pend w B its [] := ⟨by simp, by simp, by simp⟩
theorem Pend.later {w w' : World} {B : Nat} {its : List Item} {vs : List (Value × List Nat)} (h : Pend w B its vs) (hb : Below w.heap.size w w') : Pend w' B its vs := ⟨fun p hp => ⟨(h.own p hp).1.later hb, (h.own p hp).2⟩, h.ap, h.hap⟩
theorem Pend.frt {w w' : World} {B : Nat} {its : List Item} {vs : List (Value × List Nat)} (h : Pend w B its vs) (hb : FrT w w') : Pend w' B its vs := ⟨fun p hp => ⟨hb.own (h.own p hp).1, (h.own p hp).2⟩, h.ap, h.hap⟩
theorem Pend.push {w w' : World} {B g n : Nat} {its : List Item} {vs : List (Value × List Nat)} {v : Value} {xs : List Nat} (h : Pend w B its vs) (hk : Bk w B g n its) (hb : Below w.heap.size w w') (ho : Own w' w.heap.size v xs.length xs) (hB : B ≤ w.heap.size) (hby : Bys xs) (hl : xs.length ≤ 4194304) : Pend w' B its (vs ++ [(v, xs)]) := by
  have hv : ∀ x, v.ownBlock = some x → w.heap.size ≤ x := fun x hx => (ho.2.lt x hx).1
  refine ⟨fun p hp => ?_, ?_, fun p hp => ?_⟩
  · rcases List.mem_append.1 hp with hp | hp
    · exact (h.later hb).own p hp
    · simp at hp
      subst hp
      exact ⟨ho.mono hB, hby, hl⟩
  · rw [List.map_append, List.pairwise_append]
    refine ⟨h.ap, by simp, fun u hu y hy => ?_⟩
    simp at hy
    subst hy
    obtain ⟨p, hp, rfl⟩ := List.mem_map.1 hu
    exact fun x hx hy => by have := ((h.own p hp).1.2.lt x hx).2; have := hv x hy; omega
  · rcases List.mem_append.1 hp with hp | hp
    · exact h.hap p hp
    · simp at hp
      subst hp
      exact Hap.new hk hv
theorem keep_pend {w : World} {g B n m c : Nat} {a : Option Addr} {its : List Item} {xs : List Nat} {vs : List (Value × List Nat)} (hk : Bk w B g n its) (hp : Pend w B its ((.slice a m c, xs) :: vs)) (hn : n ≤ 1000) (hB : B ≤ w.heap.size) :
    Calls Tryd.prog 19 #[.pointer (some ⟨g, 0, none⟩), .slice a m c] w fun r w' => r = .returned (.tuple #[]) ∧ ∃ js : List Item, js.map Item.xs = [xs] ∧ Bk w' B g (n + 1) (its ++ js) ∧ Pend w' B (its ++ js) vs ∧ Ex B g w w' ∧ FrT w w' ∧ FrO w w' g := by
  obtain ⟨o, hby, hl⟩ := hp.own (.slice a m c, xs) (by simp)
  simp only at o hby hl
  have hm := own_eq o
  subst hm
  refine (keep_bk hk o (hp.hap (.slice a xs.length c, xs) (by simp)) hby hl hn hB).mono ?_
  rintro r w' ⟨rfl, u, b, nu, sz, e1, e2, e3, OW, ib, T, FO⟩
  have pw := hp.ap
  simp only [List.map_cons, List.pairwise_cons] at pw
  refine ⟨rfl, [⟨.slice a xs.length c, u, xs⟩], rfl, b, ⟨fun p hq => ⟨T.own (hp.own p (by simp [hq])).1, (hp.own p (by simp [hq])).2⟩, pw.2, fun p hq => ?_⟩, ⟨e1, e2, e3, sz, fun i hi hg => ?_⟩, T, FO⟩
  · exact (hp.hap p (by simp [hq])).add (pw.1 _ (List.mem_map.2 ⟨p, hq, rfl⟩)) nu (fun x hx => ((hp.own p (by simp [hq])).1.2.lt x hx).2)
  · rcases ib i (by omega) hi with h | h
    · exact h
    · exact absurd h hg

end Go.Proofs.YtledfniedoapiaaDoor

namespace Go.Proofs.YtledfniedoapiaaDoor
open Go.RowKit
set_option linter.unusedVariables false

/-- The mark of the item of that number. -/
def mkOf (j : Nat) : Nat := 1 + j % 251
theorem mkOf_lt (j : Nat) : mkOf j < 256 := by unfold mkOf; omega
/-- What the items hold now. -/
def Now (w : World) (B : Nat) (its : List Item) (cur : Nat → List Nat) : Prop := ∀ j p, its[j]? = some p → Own w B p.l p.xs.length (cur j)
theorem ap_ne {its : List Item} {i j : Nat} {p q : Item} (h : (its.map Item.l).Pairwise AP) (hne : i ≠ j) (hp : its[i]? = some p) (hq : its[j]? = some q) : AP p.l q.l := by
  obtain ⟨hi, rfl⟩ := List.getElem?_eq_some_iff.1 hp
  obtain ⟨hj, rfl⟩ := List.getElem?_eq_some_iff.1 hq
  rw [List.pairwise_iff_getElem] at h
  rcases Nat.lt_or_gt_of_ne hne with k | k
  · have := h i j (by simpa using hi) (by simpa using hj) k
    simpa using this
  · have := h j i (by simpa using hj) (by simpa using hi) k
    simpa using this.symm
theorem Now.store {w : World} {B : Nat} {its : List Item} {cur : Nat → List Nat} (h : Now w B its cur) (ap : (its.map Item.l).Pairwise AP) {t q g0 c0 mk : Nat} {p : Item} (hp : its[t]? = some p) (hl : p.l = .slice (some ⟨g0, 0, none⟩) p.xs.length c0) :
    Now (w.setCell ⟨g0, q, none⟩ (.int .u8 (mk : Int))) B its (fun j => if j = t then (cur t).set q mk else cur j) := by
  intro j x hx
  by_cases e : j = t
  · subst e
    rw [hp] at hx
    obtain rfl : p = x := by simpa using hx
    have o := h j p hp
    rw [hl] at o ⊢
    have st := o.2.stored q (.int .u8 (mk : Int))
    refine ⟨by simpa using o.1, ?_⟩
    have e : bv ((cur j).set q mk) = (bv (cur j)).set q (.int .u8 (mk : Int)) := by simp [bv, List.map_set]
    simp only [if_true, e]
    exact st.1
  · simp only [if_neg e]
    refine (h j x hx).far (set_grown w g0 q _) (fun g hg hy => ?_)
    cases hg
    exact ap_ne ap e hx hp g0 hy (by rw [hl]; rfl)
/-- Nothing has changed but what the items lie in. -/
structure Fr (w w' : World) (its : List Item) : Prop where
  os : w'.os = w.os
  tape : w'.tape = w.tape
  output : w'.output = w.output
  size : w.heap.size ≤ w'.heap.size
  block : ∀ i, i < w.heap.size → (∀ p ∈ its, p.l.ownBlock ≠ some i) → w'.heap[i]? = w.heap[i]?
theorem Fr.refl (w : World) (its : List Item) : Fr w w its := ⟨rfl, rfl, rfl, Nat.le_refl _, fun _ _ _ => rfl⟩
theorem Fr.grow {w w1 w2 : World} {its : List Item} {o : Option Nat} (h : Fr w w1 its) (k : w1.grownBy w2 o) (ho : ∀ g, o = some g → w.heap.size ≤ g ∨ ∃ p ∈ its, p.l.ownBlock = some g) : Fr w w2 its :=
  ⟨k.os.trans h.os, k.tape.trans h.tape, k.output.trans h.output, Nat.le_trans h.size k.size, fun i hi hne => by
    rw [k.block i (Nat.lt_of_lt_of_le hi h.size) ?_, h.block i hi hne]
    intro e
    rcases ho i e.symm with h1 | ⟨p, hp, h1⟩
    · omega
    · exact hne p hp h1⟩
theorem Fr.later {w w1 w2 : World} {its : List Item} (h : Fr w w1 its) (k : Below w1.heap.size w1 w2) : Fr w w2 its := h.grow (grown_below k none) (fun _ e => by cases e)
theorem Fr.below {w w' : World} {its : List Item} {B : Nat} (h : Fr w w' its) (ho : ∀ p ∈ its, ∀ g, p.l.ownBlock = some g → B ≤ g) (hB : B ≤ w.heap.size) : Below B w w' :=
  ⟨h.os, h.tape, h.output, h.size, fun i hi => h.block i (by omega) (fun p hp e => by have := ho p hp i e; omega)⟩
theorem Fr.kbox {w w' : World} {its : List Item} {B g : Nat} {vL vW : Value} {ys : Item → List Nat} (h : Fr w w' its) (k : KBox w g vL vW) (ho : ∀ p ∈ its, Own w B p.l (ys p).length (ys p)) : KBox w' g vL vW := by
  unfold KBox at *
  rw [h.block g (Array.getElem?_eq_some_iff.1 k).1 (fun p hp e => kbox_own k (ho p hp) e rfl)]
  exact k
theorem Fr.rows {w w' : World} {its : List Item} {B B' n : Nat} {v : Value} {vs : List Value} {ys : Item → List Nat} (h : Fr w w' its) (k : RowS w B v n vs) (ho : ∀ p ∈ its, Own w B' p.l (ys p).length (ys p)) : RowS w' B v n vs := by
  refine ⟨k.1, k.2.1, k.2.2.1, ?_⟩
  rcases k.2.2.2 with h2 | ⟨g, cap, cur, h3, h4, h5, h6⟩
  · exact .inl h2
  · refine .inr ⟨g, cap, cur, h3, h4, ?_, h6⟩
    rw [h.block g (Array.getElem?_eq_some_iff.1 h5).1 (fun p hp e => row_own k (ho p hp) (by rw [h3]; rfl) e)]
    exact h5
theorem Fr.own {w w' : World} {its : List Item} {B m : Nat} {v : Value} {xs : List Nat} (h : Fr w w' its) (k : Own w B v m xs) (ho : ∀ p ∈ its, AP p.l v) : Own w' B v m xs :=
  k.same_block (fun g hg => h.block g (k.2.lt g hg).2 (fun p hp e => ho p hp g e hg))
theorem Rd.far {w w' : World} {v : Value} {xs : List Nat} {o : Option Nat} (h : Rd w v xs) (k : w.grownBy w' o) (hne : ∀ g, o = some g → v.ownBlock ≠ some g) : Rd w' v xs := by
  obtain ⟨h1, a, cap, rfl, h3, h4, h5, h6, h7⟩ := h
  refine ⟨h1, a, cap, rfl, h3, h4, h5, h6, ?_⟩
  rcases h7 with h7 | ⟨b, off, rfl, hc⟩
  · exact .inl h7
  · refine .inr ⟨b, off, rfl, fun i hi => k.cell (hc i hi) (fun e => hne b e.symm rfl)⟩
/-- A settled book: the items hold their marks, the copies what they held. -/
structure Bs (w : World) (B g n : Nat) (its : List Item) : Prop where
  box : ∃ aL cL aW cW, KBox w g (.slice aL n cL) (.slice aW n cW) ∧ RowS w B (.slice aL n cL) n (its.map Item.l) ∧ RowS w B (.slice aW n cW) n (its.map Item.k)
  own : ∀ p ∈ its, Own w B p.k p.xs.length p.xs ∧ Bys p.xs ∧ p.xs.length ≤ 4194304
  marks : ∀ j p, its[j]? = some p → Rd w p.l (List.replicate p.xs.length (mkOf j))
theorem Bs.later {w w' : World} {B g n : Nat} {its : List Item} (h : Bs w B g n its) (hb : Below w.heap.size w w') : Bs w' B g n its := by
  obtain ⟨⟨aL, cL, aW, cW, h1, h2, h3⟩, h5, h6⟩ := h
  exact ⟨⟨aL, cL, aW, cW, h1.later hb, h2.later hb, h3.later hb⟩, fun p hp => ⟨(h5 p hp).1.later hb, (h5 p hp).2⟩, fun j p hp => (h6 j p hp).later hb⟩
def xsAt (its : List Item) (j : Nat) : List Nat := (its[j]?.map Item.xs).getD []
theorem xsAt_eq {its : List Item} {j : Nat} {p : Item} (h : its[j]? = some p) : xsAt its j = p.xs := by simp [xsAt, h]
theorem Now.congr {w : World} {B : Nat} {its : List Item} {f f' : Nat → List Nat} (h : Now w B its f) (e : ∀ j, f j = f' j) : Now w B its f' := fun j p hp => by rw [← e j]; exact h j p hp
/-- All ahead of t are written full. -/
def fillTo (its : List Item) (t : Nat) (j : Nat) : List Nat := if j < t then List.replicate (xsAt its j).length (mkOf j) else xsAt its j
/-- .. and q bytes of that of number t. -/
def fillIn (its : List Item) (t q : Nat) (j : Nat) : List Nat := if j = t then List.replicate q (mkOf t) ++ (xsAt its t).drop q else fillTo its t j
theorem fillIn_zero (its : List Item) (t j : Nat) : fillTo its t j = fillIn its t 0 j := by
  unfold fillIn fillTo
  by_cases h : j = t
  · subst h; simp
  · simp [h]
theorem fillIn_next {its : List Item} {t q : Nat} (hq : q < (xsAt its t).length) (j : Nat) : (if j = t then (fillIn its t q t).set q (mkOf t) else fillIn its t q j) = fillIn its t (q + 1) j := by
  unfold fillIn
  by_cases h : j = t
  · subst h
    simp only [if_true]
    exact fill_set hq
  · simp [h]
theorem fillIn_end (its : List Item) (t j : Nat) : fillIn its t (xsAt its t).length j = fillTo its (t + 1) j := by
  unfold fillIn fillTo
  by_cases h : j = t
  · subst h; simp
  · by_cases h2 : j < t
    · simp [h, h2, Nat.lt_succ_of_lt h2]
    · have h3 : ¬ j < t + 1 := by omega
      simp [h, h2, h3]
theorem fillTo_all {its : List Item} {n j : Nat} (hn : n = its.length) {p : Item} (hp : its[j]? = some p) : fillTo its n j = List.replicate p.xs.length (mkOf j) := by
  obtain ⟨hj, _⟩ := List.getElem?_eq_some_iff.1 hp
  unfold fillTo
  rw [if_pos (by omega), xsAt_eq hp]
theorem Now.start {w : World} {B g n : Nat} {its : List Item} (h : Bk w B g n its) : Now w B its (fillTo its 0) := fun j p hp => by
  have o := (h.own p (List.mem_of_getElem? hp)).1
  have e : fillTo its 0 j = p.xs := by unfold fillTo; simp [xsAt_eq hp]
  rw [e]
  exact o
theorem Now.later {w w' : World} {B : Nat} {its : List Item} {f : Nat → List Nat} (h : Now w B its f) (hb : Below w.heap.size w w') : Now w' B its f := fun j p hp => (h j p hp).later hb
/-- What Settle finds of the book, whatever its items hold. -/
structure Sb (w : World) (B g n : Nat) (aL aW : Option Addr) (cL cW : Nat) (its : List Item) : Prop where
  box : KBox w g (.slice aL n cL) (.slice aW n cW)
  rl : RowS w B (.slice aL n cL) n (its.map Item.l)
  rw : RowS w B (.slice aW n cW) n (its.map Item.k)
  own : ∀ p ∈ its, Own w B p.l p.xs.length p.xs ∧ Own w B p.k p.xs.length p.xs ∧ Bys p.xs ∧ p.xs.length ≤ 4194304
  apart : (its.map Item.l).Pairwise AP
  apk : ∀ p ∈ its, ∀ q ∈ its, AP p.l q.k
  len : n = its.length
theorem Bk.sb {w : World} {B g n : Nat} {its : List Item} (h : Bk w B g n its) : ∃ aL cL aW cW, Sb w B g n aL aW cL cW its := by
  obtain ⟨⟨aL, cL, aW, cW, h1, h2, h3, h4⟩, h5, h6⟩ := h
  rw [List.pairwise_append] at h6
  exact ⟨aL, cL, aW, cW, h1, h2, h3, h5, h6.1, fun p hp q hq => h6.2.2 _ (List.mem_map.2 ⟨p, hp, rfl⟩) _ (List.mem_map.2 ⟨q, hq, rfl⟩), by have := h2.1; simpa using this⟩
theorem Sb.kbox {w w' : World} {B g n : Nat} {aL aW : Option Addr} {cL cW : Nat} {its : List Item} (h : Sb w B g n aL aW cL cW its) (f : Fr w w' its) : KBox w' g (.slice aL n cL) (.slice aW n cW) := f.kbox (ys := Item.xs) h.box (fun p hp => (h.own p hp).1)
theorem Sb.row {w w' : World} {B g n : Nat} {aL aW : Option Addr} {cL cW : Nat} {its : List Item} (h : Sb w B g n aL aW cL cW its) (f : Fr w w' its) : RowS w' B (.slice aL n cL) n (its.map Item.l) := f.rows (ys := Item.xs) h.rl (fun p hp => (h.own p hp).1)
/-- The item of number t: where the row has it. -/
theorem Sb.item {w w' : World} {B g n t : Nat} {aL aW : Option Addr} {cL cW : Nat} {its : List Item} (h : Sb w B g n aL aW cL cW its) (f : Fr w w' its) (ht : t < n) : ∃ p gL al cl, its[t]? = some p ∧ p.l = .slice al p.xs.length cl ∧ p.xs.length ≤ 4194304 ∧ aL = some ⟨gL, 0, none⟩ ∧ w'.cell? ⟨gL, t, none⟩ = some (.slice al p.xs.length cl) := by
  have hti : t < its.length := by have := h.len; omega
  obtain ⟨gL, rfl, c1⟩ := (h.row f).at ht
  have o := h.own its[t] (List.getElem_mem hti)
  obtain ⟨al, cl, e⟩ := own_form o.1.2
  refine ⟨its[t], gL, al, cl, by simp [hti], e, o.2.2.2, rfl, ?_⟩
  rw [c1]
  simp [hti, e]
/-- What stands at a round of the lengthening: t lists are longer. -/
structure Lg (w wr : World) (B t : Nat) (its : List Item) (vM : Value) (ms : List Value) : Prop where
  fr : Fr w wr its
  row : RowS wr w.heap.size vM t ms
  old : ∀ j p, its[j]? = some p → Rd wr p.l (List.replicate p.xs.length (mkOf j))
  rest : ∀ j p, t ≤ j → its[j]? = some p → Own wr B p.l p.xs.length (List.replicate p.xs.length (mkOf j))
  new : ∀ j p m, its[j]? = some p → ms[j]? = some m → Own wr B m (2 * p.xs.length + 70) (List.replicate (2 * p.xs.length + 70) (mkOf j)) ∧ Near w p.l m
theorem Lg.start {w wr : World} {B g n : Nat} {aL aW : Option Addr} {cL cW : Nat} {its : List Item} (h : Sb w B g n aL aW cL cW its) (f : Fr w wr its) (k : Now wr B its (fillTo its n)) : Lg w wr B 0 its (.slice none 0 0) [] := by
  have o : ∀ j p, its[j]? = some p → Own wr B p.l p.xs.length (List.replicate p.xs.length (mkOf j)) := fun j p hp => by
    have := k j p hp
    rw [fillTo_all h.len hp] at this
    exact this
  refine ⟨f, ⟨rfl, by simp, World.ownsRow_nil _ _ _ _⟩, fun j p hp => ?_, fun j p _ hp => o j p hp, fun j p m _ hm => by simp at hm⟩
  have := (h.own p (List.mem_of_getElem? hp)).2.2.2
  exact (o j p hp).rd (rep_bys _ _ (mkOf_lt j)) (by omega)
theorem Lg.step {w wr w2 w3 : World} {B g n t c' : Nat} {aL aW a' : Option Addr} {cL cW : Nat} {its : List Item} {vM vM' : Value} {ms : List Value} {p : Item} (hs : Sb w B g n aL aW cL cW its) (h : Lg w wr B t its vM ms) (hp : its[t]? = some p) (o2 : Own w2 B (.slice a' (2 * p.xs.length + 70) c') (2 * p.xs.length + 70) (List.replicate (2 * p.xs.length + 70) (mkOf t))) (nr : Near wr p.l (.slice a' (2 * p.xs.length + 70) c')) (kp : Keeps (mkOf t) wr w2) (g2 : wr.grownBy w2 p.l.ownBlock)
    (r3 : RowS w3 w.heap.size vM' (t + 1) (ms ++ [.slice a' (2 * p.xs.length + 70) c'])) (g3 : w2.grownBy w3 vM.ownBlock) : Lg w w3 B (t + 1) its vM' (ms ++ [.slice a' (2 * p.xs.length + 70) c']) := by
  have lt : ∀ q ∈ its, ∀ x, q.l.ownBlock = some x → x < w.heap.size := fun q hq x hx => ((hs.own q hq).1.2.lt x hx).2
  have pm := List.mem_of_getElem? hp
  have mlt : ∀ x, vM.ownBlock = some x → w.heap.size ≤ x := fun x hx => (h.row.2.2.lt x hx).1
  have R2 : RowS w2 w.heap.size vM t ms := h.row.far g2 (fun x hx hy => by have := lt p pm x hx; have := mlt x hy; omega)
  have far3 : ∀ q ∈ its, ∀ x, vM.ownBlock = some x → q.l.ownBlock ≠ some x := fun q hq x hx hy => by have := lt q hq x hy; have := mlt x hx; omega
  have lm : ms.length = t := h.row.1.symm
  refine ⟨(h.fr.grow g2 (fun x hx => .inr ⟨p, pm, hx⟩)).grow g3 (fun x hx => .inl (mlt x hx)), r3, fun j q hq => ?_, fun j q hj hq => ?_, fun j q m hq hm => ?_⟩
  · have qm := List.mem_of_getElem? hq
    by_cases e : j = t
    · subst e
      obtain rfl : p = q := by rw [hp] at hq; simpa using hq
      exact (kp.rd (h.old j p hp)).far g3 (far3 p pm)
    · exact ((h.old j q hq).far g2 (fun x hx hy => ap_ne hs.apart e hq hp x hy hx)).far g3 (far3 q qm)
  · have qm := List.mem_of_getElem? hq
    exact ((h.rest j q (by omega) hq).far g2 (fun x hx hy => ap_ne hs.apart (by omega : j ≠ t) hq hp x hy hx)).far g3 (far3 q qm)
  · have qm := List.mem_of_getElem? hq
    by_cases e : j < t
    · rw [List.getElem?_append_left (by omega)] at hm
      obtain ⟨o, k⟩ := h.new j q m hq hm
      have o4 := o.far g2 (fun x hx hy => by
        rcases k with k | k
        · rw [k] at hy
          exact ap_ne hs.apart (by omega : j ≠ t) hq hp x hy hx
        · have := k x hy
          have := lt p pm x hx
          omega)
      exact ⟨o4.far g3 (fun x hx => row_own R2 o4 hx), k⟩
    · obtain rfl : j = t := by
        have := (List.getElem?_eq_some_iff.1 hm).1
        simp at this
        omega
      obtain rfl : p = q := by rw [hp] at hq; simpa using hq
      rw [List.getElem?_append_right (by omega), lm] at hm
      simp at hm
      subst hm
      refine ⟨o2.far g3 (fun x hx => row_own R2 o2 hx), ?_⟩
      rcases nr with k | k
      · exact .inl k
      · exact .inr fun x hx => Nat.le_trans h.fr.size (k x hx)
theorem KBox.keepH {w w' : World} {g H : Nat} {vL vW : Value} (h : KBox w g vL vW) (k : Below H w w') (hg : g < H) : KBox w' g vL vW := by
  unfold KBox at *
  rw [k.block g hg]; exact h
theorem RowS.keepH {w w' : World} {B n H : Nat} {v : Value} {vs : List Value} (h : RowS w B v n vs) (k : Below H w w') (hv : ∀ x, v.ownBlock = some x → x < H) : RowS w' B v n vs := by
  refine ⟨h.1, h.2.1, h.2.2.1, ?_⟩
  rcases h.2.2.2 with h2 | ⟨g, cap, cur, h3, h4, h5, h6⟩
  · exact .inl h2
  · exact .inr ⟨g, cap, cur, h3, h4, by rw [k.block g (hv g (by rw [h3]; rfl))]; exact h5, h6⟩
theorem Rd.keepH {w w' : World} {H : Nat} {v : Value} {xs : List Nat} (h : Rd w v xs) (k : Below H w w') (hv : ∀ x, v.ownBlock = some x → x < H) : Rd w' v xs := by
  obtain ⟨h1, a, cap, rfl, h3, h4, h5, h6, h7⟩ := h
  refine ⟨h1, a, cap, rfl, h3, h4, h5, h6, ?_⟩
  rcases h7 with h7 | ⟨b, off, rfl, hc⟩
  · exact .inl h7
  · refine .inr ⟨b, off, rfl, fun i hi => ?_⟩
    rw [k.cell (p := ⟨b, off + i, none⟩) (hv b rfl)]
    exact hc i hi
theorem Sb.later {w w' : World} {B g n : Nat} {aL aW : Option Addr} {cL cW : Nat} {its : List Item} (h : Sb w B g n aL aW cL cW its) (hb : Below w.heap.size w w') : Sb w' B g n aL aW cL cW its :=
  ⟨h.box.later hb, h.rl.later hb, h.rw.later hb, fun p hp => ⟨(h.own p hp).1.later hb, (h.own p hp).2.1.later hb, (h.own p hp).2.2⟩, h.apart, h.apk, h.len⟩
theorem Lg.bs {w0 w wr wx : World} {B g n t : Nat} {aL aW : Option Addr} {cL cW : Nat} {its : List Item} {vM : Value} {ms : List Value} (h0 : Sb w0 B g n aL aW cL cW its) (hs : Sb w B g n aL aW cL cW its) (h : Lg w wr B t its vM ms) (k : Below w0.heap.size wr wx) : Bs wx B g n its := by
  refine ⟨⟨aL, cL, aW, cW, (hs.kbox h.fr).keepH k ((Array.getElem?_eq_some_iff.1 h0.box).1), (hs.row h.fr).keepH k (fun x hx => (h0.rl.2.2.lt x hx).2), ?_⟩, fun p hp => ⟨?_, (hs.own p hp).2.2⟩, fun j p hp => ?_⟩
  · exact (h.fr.rows (ys := Item.xs) hs.rw (fun p hp => (hs.own p hp).1)).keepH k (fun x hx => (h0.rw.2.2.lt x hx).2)
  · exact (h.fr.own (hs.own p hp).2.1 (fun q hq => hs.apk q hq p hp)).same_block (fun x hx => k.block x ((h0.own p hp).2.1.2.lt x hx).2)
  · exact (h.old j p hp).keepH k (fun x hx => ((h0.own p (List.mem_of_getElem? hp)).1.2.lt x hx).2)

end Go.Proofs.YtledfniedoapiaaDoor
