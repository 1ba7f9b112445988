import Derived.Test.YtchebhafabhabaaGreatDoorK06
namespace Go.Proofs.YtchebhafabhabaaGreatDoor
open Go.RowKit
set_option linter.unusedVariables false

set_option maxRecDepth 100000 in
set_option maxHeartbeats 4000000 in
theorem keep_any {w : World} {g B n m c : Nat} {a aL aW : Option Addr} {cL cW : Nat} {ls ws : List Value} {xs : List Nat} (hk : KBox w g (.slice aL n cL) (.slice aW n cW)) (rL : RowS w B (.slice aL n cL) n ls) (rW : RowS w B (.slice aW n cW) n ws) (hne : ∀ x, (Value.slice aL n cL).ownBlock = some x → (Value.slice aW n cW).ownBlock ≠ some x) (ho : Own w B (.slice a m c) m xs) (hby : Bys xs) (hl : xs.length ≤ 140000) (hn : n ≤ 1000) (hB : B ≤ w.heap.size) :
  Calls Tryz.prog 42 #[.pointer (some ⟨g, 0, none⟩), .slice a m c] w fun r w' => r = .returned (.tuple #[]) ∧ ∃ aL' cL' aW' cW' va vm vc, KBox w' g (.slice aL' (n + 1) cL') (.slice aW' (n + 1) cW') ∧ RowS w' B (.slice aL' (n + 1) cL') (n + 1) (ls ++ [.slice a m c]) ∧ RowS w' B (.slice aW' (n + 1) cW') (n + 1) (ws ++ [.slice va vm vc]) ∧ Own w' w.heap.size (.slice va vm vc) vm xs ∧ (∀ x, (Value.slice aL' (n + 1) cL').ownBlock = some x → (Value.slice aW' (n + 1) cW').ownBlock ≠ some x) ∧ (∀ i, i < w.heap.size → i ≠ g → (Value.slice aL n cL).ownBlock ≠ some i → (Value.slice aW n cW).ownBlock ≠ some i → w'.heap[i]? = w.heap[i]?) ∧ w.heap.size ≤ w'.heap.size ∧ w'.os = w.os ∧ w'.tape = w.tape ∧ w'.output = w.output ∧ (∀ x, (Value.slice aL' (n + 1) cL').ownBlock = some x → (Value.slice aL n cL).ownBlock = some x ∨ w.heap.size ≤ x) ∧ (∀ x, (Value.slice aW' (n + 1) cW').ownBlock = some x → (Value.slice aW n cW).ownBlock = some x ∨ w.heap.size ≤ x) := by
 have k0 := hk.l
 have f0 := hk.fz 0
 have HKB := Lib.hid hk
 have HRL := Lib.hid rL
 have HRW := Lib.hid rW
 have HNE := Lib.hid hne
 have HO := Lib.hid ho
 clear hk rW hne ho
 go_enter Tryz.func42, Tryz.ntmps42
 go_wp2_with (at_builtin; refine wpList_append_one rfl _ _ rfl B aL n cL ls rfl rL (.slice a m c) rfl rfl (by omega) hB ?_; intro aL' cL' w1 r1 g1 b1; have K1 := Lib.hid (HKB.out.far g1 (fun x hx => kbox_row HKB.out rL hx)); have k1 := K1.out.l; have f1 := K1.out.fz 0; have R1 := Lib.hid r1; have G1 := Lib.hid g1; have E1 := Lib.hid b1; clear r1 g1 b1)
 obtain ⟨W1, hW1⟩ : ∃ W1, W1 = w1.setCell ⟨g, 0, none⟩ (.slice aL' (n + 1) cL') := ⟨_, rfl⟩
 have SG : w1.grownBy W1 (some g) := by rw [hW1]; exact set_grown _ _ _ _
 have KB1 : Hid (KBox W1 g (.slice aL' (n + 1) cL') (.slice aW n cW)) := by rw [hW1]; exact K1.out.setL _
 have RL1 : Hid (RowS W1 B (.slice aL' (n + 1) cL') (n + 1) (ls ++ [.slice a m c])) := R1.out.far SG (fun x hx e => by cases hx; exact kbox_row K1.out R1.out e rfl)
 have RWm := HRW.out.far G1.out (fun x hx => HNE.out x hx)
 have RW1 : Hid (RowS W1 B (.slice aW n cW) n ws) := RWm.far SG (fun x hx e => by cases hx; exact kbox_row K1.out RWm e rfl)
 have Om := HO.out.far G1.out (fun x hx => row_own HRL.out HO.out hx)
 have O1 : Hid (Own W1 B (.slice a m c) m xs) := Om.far SG (fun x hx e => by cases hx; exact kbox_own K1.out Om e rfl)
 have SZ : Hid (w.heap.size ≤ w1.heap.size ∧ W1.heap.size = w1.heap.size) := ⟨G1.out.size, by rw [hW1]; simp [World.setCell]⟩
 have hm : m ≤ 281474976710656 := by rw [HO.out.1]; omega
 have D0 : Below W1.heap.size W1 W1.drew := (Below.refl _ _).drew
 have kw := KB1.out.w
 have LLT : Hid (∀ x, (Value.slice aL n cL).ownBlock = some x → x < w.heap.size) := fun x hx => (HRL.out.2.2.lt x hx).2
 have WLT : Hid (∀ x, (Value.slice aW n cW).ownBlock = some x → x < w.heap.size) := fun x hx => (HRW.out.2.2.lt x hx).2
 have L1LT : Hid (∀ x, (Value.slice aL' (n + 1) cL').ownBlock = some x → x < w1.heap.size) := fun x hx => (R1.out.2.2.lt x hx).2
 rw [← hW1]
 clear hW1 k0 f0 k1 f1 RWm Om rL
 refine keep2_region kw (copied_any ((O1.out.rd hby hm).later D0) (by omega)) (fun r w2 h => by obtain ⟨a2, m2, c2, rfl, _⟩ := h; exact ⟨_, _, _, rfl⟩) _ (fun va vm vc w2 hr => ?_)
 obtain ⟨a2, m2, c2, he, own2, hb2⟩ := hr
 simp only [Ending.returned.injEq, Value.slice.injEq] at he
 obtain ⟨rfl, rfl, rfl⟩ := he
 have hb12 := D0.trans (hb2.mono D0.size)
 have KB2 := KB1.out.later hb12
 have RW2 := RW1.out.later hb12
 have RL2 := RL1.out.later hb12
 have hs2 : W1.heap.size ≤ w2.heap.size := hb12.size
 refine ⟨KB2.w, B, ws, RW2, by have := SZ.out; omega, by omega, fun aW' cW' w3 r3 g3 b3 => ?_⟩
 have KB3 := KB2.far g3 (fun x hx => kbox_row KB2 RW2 hx)
 refine ⟨⟨_, KB3.w⟩, KB3.fz 1, ?_⟩
 have SG2 := set_grown w3 g 1 (.slice aW' (n + 1) cW')
 have KB4 := KB3.setW (.slice aW' (n + 1) cW')
 have NL : ∀ x, (Value.slice aL' (n + 1) cL').ownBlock = some x → (Value.slice aW n cW).ownBlock ≠ some x := fun x hx hy => by
  rcases E1.out with e | e
  ·rw [e] at hx; exact HNE.out x hx hy
  ·have := e x hx; have := WLT.out x hy; omega
 have RL3 := RL2.far g3 (fun x hx hy => NL x hy hx)
 have RL4 := RL3.far SG2 (fun x hx e => by cases hx; exact kbox_row KB3 RL3 e rfl)
 have RW4 := r3.far SG2 (fun x hx e => by cases hx; exact kbox_row KB3 r3 e rfl)
 have o2' : Own w2 w.heap.size (.slice va vm vc) vm xs := own2.mono (by have := SZ.out; simp; omega)
 have o3 := o2'.far g3 (fun x hx => row_own RW2 o2' hx)
 have o4 := o3.far SG2 (fun x hx e => by cases hx; exact kbox_own KB3 o3 e rfl)
 have NLW : ∀ x, (Value.slice aL' (n + 1) cL').ownBlock = some x → (Value.slice aW' (n + 1) cW').ownBlock ≠ some x := fun x hx hy => by
  rcases b3 with e | e
  ·rw [e] at hy; exact NL x hx hy
  ·have h1 := e x hy; have h2 := L1LT.out x hx; have := SZ.out; omega
 have BLK : ∀ i, i < w.heap.size → i ≠ g → (Value.slice aL n cL).ownBlock ≠ some i → (Value.slice aW n cW).ownBlock ≠ some i → (w3.setCell ⟨g, 1, none⟩ (.slice aW' (n + 1) cW')).heap[i]? = w.heap[i]? := fun i hi hg hL hW => by
  have hz := SZ.out
  rw [SG2.block i (by have := g3.size; omega) (fun e => by cases e; exact hg rfl), g3.block i (by omega) (fun e => hW e.symm), hb12.block i (by omega), SG.block i (by omega) (fun e => by cases e; exact hg rfl), G1.out.block i hi (fun e => hL e.symm)]
 have SZ4 : w.heap.size ≤ (w3.setCell ⟨g, 1, none⟩ (.slice aW' (n + 1) cW')).heap.size := by have := SG2.size; have := g3.size; have := SZ.out; omega
 unfold keep2Act
 refine bodyPost_end (v := .tuple #[]) (by first | rfl | kernel_rfl) rfl ?_
 exact ⟨rfl, aL', cL', aW', cW', va, vm, vc, KB4, RL4, RW4, o4, NLW, BLK, SZ4, SG2.os.trans (g3.os.trans (hb12.os.trans (SG.os.trans G1.out.os))), SG2.tape.trans (g3.tape.trans (hb12.tape.trans (SG.tape.trans G1.out.tape))), SG2.output.trans (g3.output.trans (hb12.output.trans (SG.output.trans G1.out.output))), fun x hx => E1.out.elim (fun e => .inl (e ▸ hx)) (fun e => .inr (e x hx)), fun x hx => b3.elim (fun e => .inl (e ▸ hx)) (fun e => .inr (by have := e x hx; have := SZ.out; omega))⟩

end Go.Proofs.YtchebhafabhabaaGreatDoor

namespace Go.Proofs.YtchebhafabhabaaGreatDoor
open Go.RowKit
set_option linter.unusedVariables false

def AP (u v : Value) : Prop := ∀ g, u.ownBlock = some g → v.ownBlock ≠ some g
theorem AP.symm {u v : Value} (h : AP u v) : AP v u := fun g hv hu => h g hu hv
structure Item where
 l : Value
 k : Value
 xs : List Nat
structure Bk (w : World) (B g n : Nat) (its : List Item) : Prop where
 box : ∃ aL cL aW cW, KBox w g (.slice aL n cL) (.slice aW n cW) ∧ RowS w B (.slice aL n cL) n (its.map Item.l) ∧ RowS w B (.slice aW n cW) n (its.map Item.k) ∧ AP (.slice aL n cL) (.slice aW n cW)
 own : ∀ p ∈ its, Own w B p.l p.xs.length p.xs ∧ Own w B p.k p.xs.length p.xs ∧ Bys p.xs ∧ p.xs.length ≤ 140000
 apart : (its.map Item.l ++ its.map Item.k).Pairwise AP
theorem Bk.later {w w' : World} {B g n : Nat} {its : List Item} (h : Bk w B g n its) (hb : Below w.heap.size w w') : Bk w' B g n its := by
 obtain ⟨⟨aL, cL, aW, cW, h1, h2, h3, h4⟩, h5, h6⟩ := h
 exact ⟨⟨aL, cL, aW, cW, h1.later hb, h2.later hb, h3.later hb, h4⟩, fun p hp => ⟨(h5 p hp).1.later hb, (h5 p hp).2.1.later hb, (h5 p hp).2.2⟩, h6⟩
theorem Own.same_block {w w' : World} {B m : Nat} {v : Value} {xs : List Nat} (h : Own w B v m xs) (k : ∀ g, v.ownBlock = some g → w'.heap[g]? = w.heap[g]?) : Own w' B v m xs := by
 refine ⟨h.1, h.2.1, ?_⟩
 rcases h.2.2 with h2 | ⟨g, cap, cur, h3, h4, h5, h6⟩
 ·exact .inl h2
 ·exact .inr ⟨g, cap, cur, h3, h4, by rw [k g (by rw [h3]; rfl)]; exact h5, h6⟩
def Still (w w' : World) (g : Nat) (vL vW : Value) : Prop := (∀ i, i < w.heap.size → i ≠ g → vL.ownBlock ≠ some i → vW.ownBlock ≠ some i → w'.heap[i]? = w.heap[i]?) ∧ w.heap.size ≤ w'.heap.size ∧ w'.os = w.os ∧ w'.tape = w.tape ∧ w'.output = w.output
theorem Own.still {w w' : World} {B g n : Nat} {v vL vW : Value} {vs us : List Value} {m n1 n2 : Nat} {xs : List Nat} (h : Own w B v m xs) (hk : KBox w g vL vW) (rL : RowS w n1 vL n vs) (rW : RowS w n2 vW n us) (s : Still w w' g vL vW) : Own w' B v m xs :=
 h.same_block (fun x hx => s.1 x (h.2.lt x hx).2 (fun e => kbox_own hk h hx e.symm) (fun e => row_own rL h e hx) (fun e => row_own rW h e hx))

def FrT (w w' : World) : Prop := ∀ (q : Nat) (cs : Array Value) (ty : TypeId) (fz : Nat × Nat), w.heap[q]? = some (Obj.cells cs ty fz) → ty ≠ 36 → ty ≠ 83 → w'.heap[q]? = w.heap[q]?
end Go.Proofs.YtchebhafabhabaaGreatDoor

namespace Go.Proofs.YtchebhafabhabaaGreatDoor
open Go.RowKit
set_option linter.unusedVariables false

theorem RowS.at {w : World} {B n x : Nat} {a : Option Addr} {c : Nat} {vs : List Value} (h : RowS w B (.slice a n c) n vs) (hx : x < n) : ∃ g, a = some ⟨g, 0, none⟩ ∧ w.cell? ⟨g, x, none⟩ = vs[x]? := by
 rcases h.2.2.2 with ⟨h1, h2⟩ | ⟨g, cap, cur, h3, h4, h5, h6⟩
 ·omega
 ·simp only [Value.slice.injEq] at h3
  obtain ⟨rfl, _, _⟩ := h3
  refine ⟨g, rfl, ?_⟩
  exact h.2.2.cellAt x (by have := h.1; omega)
set_option maxRecDepth 100000 in
set_option maxHeartbeats 4000000 in
theorem untouched_any {w : World} {B g n : Nat} {its : List Item} (hk : Bk w B g n its) (hn : n ≤ 1000) :
  Calls Tryz.prog 82 #[.pointer (some ⟨g, 0, none⟩)] w fun r w' => r = .returned (.bool true) ∧ Below w.heap.size w w' := by
 have HK := Lib.hid hk
 obtain ⟨aL, cL, aW, cW, h1, h2, h3, h4⟩ := hk.box
 have HKB := Lib.hid h1
 have HRL := Lib.hid h2
 have HRW := Lib.hid h3
 have hlen : n = its.length := by have := h2.1; simpa using this
 have HLN := Lib.hid hlen
 clear hk h1 h2 h3 h4 hlen
 go_enter Tryz.func82, Tryz.ntmps82
 go_wp2
 go_loopw [3] (fun i wr => ∃ t : Nat, t ≤ n ∧ i = .int .i64 (t : Int) ∧ Hid (Below w.heap.size w wr)) (fun i _ => n - (intOf i).toNat)
 case atStart => exact ⟨0, by omega, rfl, Below.refl _ _⟩
 case round =>
  obtain ⟨t, ht, rfl, hb⟩ := hrel
  have kl := (HKB.out.later hb.out).l
  have kw := (HKB.out.later hb.out).w
  by_cases hlt : t < n
  ·have hlt2 : (t : Int) < (n : Int) := by omega
   have ht0 : (0 : Int) ≤ (t : Int) := by omega
   have hti : t < its.length := by have := HLN.out; omega
   obtain ⟨gL, rfl, cl⟩ := (HRL.out.later hb.out).at hlt
   obtain ⟨gW, rfl, cw⟩ := (HRW.out.later hb.out).at hlt
   obtain ⟨ol, ok, hby, hl⟩ := HK.out.own its[t] (List.getElem_mem hti)
   have el : (its.map Item.l)[t]? = some its[t].l := by simp [hti]
   have ek : (its.map Item.k)[t]? = some its[t].k := by simp [hti]
   rw [el] at cl
   rw [ek] at cw
   have RL := (ol.rd hby (by omega)).later hb.out
   have RK := (ok.rd hby (by omega)).later hb.out
   obtain ⟨al, kl2, fl⟩ := own_form ol.2
   obtain ⟨ak, kk2, fk⟩ := own_form ok.2
   rw [fl] at cl RL
   rw [fk] at cw RK
   have HRR := Lib.hid (And.intro RL RK)
   clear RL RK ol ok hl el ek fl fk
   obtain ⟨nx, hnx⟩ : ∃ q, q = its[t].xs.length := ⟨_, rfl⟩
   rw [← hnx] at cl cw HRR
   have D0 : Below wr.heap.size wr wr.drew := (Below.refl _ _).drew
   have KS : Hid (∀ wx, Below wr.heap.size wr wx → wx.cell? ⟨g, 0, none⟩ = some (.slice (some ⟨gL, 0, none⟩) n cL) ∧ wx.cell? ⟨g, 1, none⟩ = some (.slice (some ⟨gW, 0, none⟩) n cW) ∧ wx.cell? ⟨gL, t, none⟩ = some (.slice al nx kl2) ∧ wx.cell? ⟨gW, t, none⟩ = some (.slice ak nx kk2)) := fun wx h => ⟨by rw [h.cell (World.block_lt_of_cell? _ _ kl)]; exact kl, by rw [h.cell (World.block_lt_of_cell? _ _ kw)]; exact kw, by rw [h.cell (World.block_lt_of_cell? _ _ cl)]; exact cl, by rw [h.cell (World.block_lt_of_cell? _ _ cw)]; exact cw⟩
   clear hnx
   go_wp2_with fail
   go_region_held3 (fun wx => wx.cell? ⟨g, 0, none⟩ = some (.slice (some ⟨gL, 0, none⟩) n cL) ∧ wx.cell? ⟨g, 1, none⟩ = some (.slice (some ⟨gW, 0, none⟩) n cW) ∧ wx.cell? ⟨gL, t, none⟩ = some (.slice al nx kl2) ∧ wx.cell? ⟨gW, t, none⟩ = some (.slice ak nx kk2)) (first | exact KS.out _ D0 | exact KS.out _ DD1)
    (first | (go_at_call 107; refine (alike_same (HRR.out.1.later D0) (HRR.out.2.later D0)).mono ?_; rintro e1 w1 ⟨rfl, hb1⟩; have DD1 := D0.trans (hb1.mono D0.size)))
   have HB1 := Lib.hid (hb.out.trans (DD1.mono hb.out.size))
   clear KS D0 DD1 hb1 HRR kl kw cl cw
   go_wp2
   go_roundw
   case rel => exact ⟨t + 1, by omega, by go_num, HB1⟩
   case measure => simp [intOf]; omega
  ·have hge : (n : Int) ≤ (t : Int) := by omega
   go_wp2
   go_ret
   exact ⟨rfl, hb.out⟩

end Go.Proofs.YtchebhafabhabaaGreatDoor

namespace Go.Proofs.YtchebhafabhabaaGreatDoor
open Go.RowKit
set_option linter.unusedVariables false

def mkOf (j : Nat) : Nat := 1 + j % 250
theorem mkOf_lt (j : Nat) : mkOf j < 256 := by unfold mkOf; omega
def Now (w : World) (B : Nat) (its : List Item) (cur : Nat → List Nat) : Prop := ∀ j p, its[j]? = some p → Own w B p.l p.xs.length (cur j)
theorem ap_ne {its : List Item} {i j : Nat} {p q : Item} (h : (its.map Item.l).Pairwise AP) (hne : i ≠ j) (hp : its[i]? = some p) (hq : its[j]? = some q) : AP p.l q.l := by
 obtain ⟨hi, rfl⟩ := List.getElem?_eq_some_iff.1 hp
 obtain ⟨hj, rfl⟩ := List.getElem?_eq_some_iff.1 hq
 rw [List.pairwise_iff_getElem] at h
 rcases Nat.lt_or_gt_of_ne hne with k | k
 ·have := h i j (by simpa using hi) (by simpa using hj) k
  simpa using this
 ·have := h j i (by simpa using hj) (by simpa using hi) k
  simpa using this.symm
theorem Now.store {w : World} {B : Nat} {its : List Item} {cur : Nat → List Nat} (h : Now w B its cur) (ap : (its.map Item.l).Pairwise AP) {t q g0 c0 mk : Nat} {p : Item} (hp : its[t]? = some p) (hl : p.l = .slice (some ⟨g0, 0, none⟩) p.xs.length c0) :
  Now (w.setCell ⟨g0, q, none⟩ (.int .u8 (mk : Int))) B its (fun j => if j = t then (cur t).set q mk else cur j) := by
 intro j x hx
 by_cases e : j = t
 ·subst e
  rw [hp] at hx
  obtain rfl : p = x := by simpa using hx
  have o := h j p hp
  rw [hl] at o ⊢
  have st := o.2.stored q (.int .u8 (mk : Int))
  refine ⟨by simpa using o.1, ?_⟩
  have e : bv ((cur j).set q mk) = (bv (cur j)).set q (.int .u8 (mk : Int)) := by simp [bv, List.map_set]
  simp only [if_true, e]
  exact st.1
 ·simp only [if_neg e]
  refine (h j x hx).far (set_grown w g0 q _) (fun g hg hy => ?_)
  cases hg
  exact ap_ne ap e hx hp g0 hy (by rw [hl]; rfl)
structure Fr (w w' : World) (its : List Item) : Prop where
 os : w'.os = w.os
 tape : w'.tape = w.tape
 output : w'.output = w.output
 size : w.heap.size ≤ w'.heap.size
 block : ∀ i, i < w.heap.size → (∀ p ∈ its, p.l.ownBlock ≠ some i) → w'.heap[i]? = w.heap[i]?
theorem Fr.refl (w : World) (its : List Item) : Fr w w its := ⟨rfl, rfl, rfl, Nat.le_refl _, fun _ _ _ => rfl⟩
theorem Fr.grow {w w1 w2 : World} {its : List Item} {o : Option Nat} (h : Fr w w1 its) (k : w1.grownBy w2 o) (ho : ∀ g, o = some g → w.heap.size ≤ g ∨ ∃ p ∈ its, p.l.ownBlock = some g) : Fr w w2 its :=
 ⟨k.os.trans h.os, k.tape.trans h.tape, k.output.trans h.output, Nat.le_trans h.size k.size, fun i hi hne => by
  rw [k.block i (Nat.lt_of_lt_of_le hi h.size) ?_, h.block i hi hne]
  intro e
  rcases ho i e.symm with h1 | ⟨p, hp, h1⟩
  ·omega
  ·exact hne p hp h1⟩
theorem Fr.later {w w1 w2 : World} {its : List Item} (h : Fr w w1 its) (k : Below w1.heap.size w1 w2) : Fr w w2 its := h.grow (grown_below k none) (fun _ e => by cases e)
theorem Fr.below {w w' : World} {its : List Item} {B : Nat} (h : Fr w w' its) (ho : ∀ p ∈ its, ∀ g, p.l.ownBlock = some g → B ≤ g) (hB : B ≤ w.heap.size) : Below B w w' :=
 ⟨h.os, h.tape, h.output, h.size, fun i hi => h.block i (by omega) (fun p hp e => by have := ho p hp i e; omega)⟩
theorem Fr.kbox {w w' : World} {its : List Item} {B g : Nat} {vL vW : Value} {ys : Item → List Nat} (h : Fr w w' its) (k : KBox w g vL vW) (ho : ∀ p ∈ its, Own w B p.l (ys p).length (ys p)) : KBox w' g vL vW := by
 unfold KBox at *
 rw [h.block g (Array.getElem?_eq_some_iff.1 k).1 (fun p hp e => kbox_own k (ho p hp) e rfl)]
 exact k
theorem Fr.rows {w w' : World} {its : List Item} {B B' n : Nat} {v : Value} {vs : List Value} {ys : Item → List Nat} (h : Fr w w' its) (k : RowS w B v n vs) (ho : ∀ p ∈ its, Own w B' p.l (ys p).length (ys p)) : RowS w' B v n vs := by
 refine ⟨k.1, k.2.1, k.2.2.1, ?_⟩
 rcases k.2.2.2 with h2 | ⟨g, cap, cur, h3, h4, h5, h6⟩
 ·exact .inl h2
 ·refine .inr ⟨g, cap, cur, h3, h4, ?_, h6⟩
  rw [h.block g (Array.getElem?_eq_some_iff.1 h5).1 (fun p hp e => row_own k (ho p hp) (by rw [h3]; rfl) e)]
  exact h5
theorem Fr.own {w w' : World} {its : List Item} {B m : Nat} {v : Value} {xs : List Nat} (h : Fr w w' its) (k : Own w B v m xs) (ho : ∀ p ∈ its, AP p.l v) : Own w' B v m xs :=
 k.same_block (fun g hg => h.block g (k.2.lt g hg).2 (fun p hp e => ho p hp g e hg))
theorem Rd.far {w w' : World} {v : Value} {xs : List Nat} {o : Option Nat} (h : Rd w v xs) (k : w.grownBy w' o) (hne : ∀ g, o = some g → v.ownBlock ≠ some g) : Rd w' v xs := by
 obtain ⟨h1, a, cap, rfl, h3, h4, h5, h6, h7⟩ := h
 refine ⟨h1, a, cap, rfl, h3, h4, h5, h6, ?_⟩
 rcases h7 with h7 | ⟨b, off, rfl, hc⟩
 ·exact .inl h7
 ·refine .inr ⟨b, off, rfl, fun i hi => k.cell (hc i hi) (fun e => hne b e.symm rfl)⟩
structure Bsd (w : World) (B g n : Nat) (its : List Item) : Prop where
 box : ∃ aL cL aW cW, KBox w g (.slice aL n cL) (.slice aW n cW) ∧ RowS w B (.slice aL n cL) n (its.map Item.l) ∧ RowS w B (.slice aW n cW) n (its.map Item.k)
 own : ∀ p ∈ its, Own w B p.k p.xs.length p.xs ∧ Bys p.xs ∧ p.xs.length ≤ 140000
 marks : ∀ j p, its[j]? = some p → Rd w p.l (List.replicate p.xs.length (mkOf j))
def xsAt (its : List Item) (j : Nat) : List Nat := (its[j]?.map Item.xs).getD []
theorem xsAt_eq {its : List Item} {j : Nat} {p : Item} (h : its[j]? = some p) : xsAt its j = p.xs := by simp [xsAt, h]
theorem Now.congr {w : World} {B : Nat} {its : List Item} {f f' : Nat → List Nat} (h : Now w B its f) (e : ∀ j, f j = f' j) : Now w B its f' := fun j p hp => by rw [← e j]; exact h j p hp
def fillTo (its : List Item) (t : Nat) (j : Nat) : List Nat := if j < t then List.replicate (xsAt its j).length (mkOf j) else xsAt its j
def fillIn (its : List Item) (t q : Nat) (j : Nat) : List Nat := if j = t then List.replicate q (mkOf t) ++ (xsAt its t).drop q else fillTo its t j
theorem fillIn_zero (its : List Item) (t j : Nat) : fillTo its t j = fillIn its t 0 j := by
 unfold fillIn fillTo
 by_cases h : j = t
 ·subst h; simp
 ·simp [h]
theorem fillIn_next {its : List Item} {t q : Nat} (hq : q < (xsAt its t).length) (j : Nat) : (if j = t then (fillIn its t q t).set q (mkOf t) else fillIn its t q j) = fillIn its t (q + 1) j := by
 unfold fillIn
 by_cases h : j = t
 ·subst h
  simp only [if_true]
  exact fill_set hq
 ·simp [h]
theorem fillIn_end (its : List Item) (t j : Nat) : fillIn its t (xsAt its t).length j = fillTo its (t + 1) j := by
 unfold fillIn fillTo
 by_cases h : j = t
 ·subst h; simp
 ·by_cases h2 : j < t
  ·simp [h, h2, Nat.lt_succ_of_lt h2]
  ·have h3 : ¬ j < t + 1 := by omega
   simp [h, h2, h3]
theorem fillTo_all {its : List Item} {n j : Nat} (hn : n = its.length) {p : Item} (hp : its[j]? = some p) : fillTo its n j = List.replicate p.xs.length (mkOf j) := by
 obtain ⟨hj, _⟩ := List.getElem?_eq_some_iff.1 hp
 unfold fillTo
 rw [if_pos (by omega), xsAt_eq hp]
theorem Now.start {w : World} {B g n : Nat} {its : List Item} (h : Bk w B g n its) : Now w B its (fillTo its 0) := fun j p hp => by
 have o := (h.own p (List.mem_of_getElem? hp)).1
 have e : fillTo its 0 j = p.xs := by unfold fillTo; simp [xsAt_eq hp]
 rw [e]
 exact o
theorem Now.later {w w' : World} {B : Nat} {its : List Item} {f : Nat → List Nat} (h : Now w B its f) (hb : Below w.heap.size w w') : Now w' B its f := fun j p hp => (h j p hp).later hb
end Go.Proofs.YtchebhafabhabaaGreatDoor

namespace Go.Proofs.YtchebhafabhabaaGreatDoor
open Go.RowKit
set_option linter.unusedVariables false

structure Sb (w : World) (B g n : Nat) (aL aW : Option Addr) (cL cW : Nat) (its : List Item) : Prop where
 box : KBox w g (.slice aL n cL) (.slice aW n cW)
 rl : RowS w B (.slice aL n cL) n (its.map Item.l)
 rw : RowS w B (.slice aW n cW) n (its.map Item.k)
 own : ∀ p ∈ its, Own w B p.l p.xs.length p.xs ∧ Own w B p.k p.xs.length p.xs ∧ Bys p.xs ∧ p.xs.length ≤ 140000
 apart : (its.map Item.l).Pairwise AP
 apk : ∀ p ∈ its, ∀ q ∈ its, AP p.l q.k
 len : n = its.length
theorem Bk.sb {w : World} {B g n : Nat} {its : List Item} (h : Bk w B g n its) : ∃ aL cL aW cW, Sb w B g n aL aW cL cW its := by
 obtain ⟨⟨aL, cL, aW, cW, h1, h2, h3, h4⟩, h5, h6⟩ := h
 rw [List.pairwise_append] at h6
 exact ⟨aL, cL, aW, cW, h1, h2, h3, h5, h6.1, fun p hp q hq => h6.2.2 _ (List.mem_map.2 ⟨p, hp, rfl⟩) _ (List.mem_map.2 ⟨q, hq, rfl⟩), by have := h2.1; simpa using this⟩
theorem Sb.kbox {w w' : World} {B g n : Nat} {aL aW : Option Addr} {cL cW : Nat} {its : List Item} (h : Sb w B g n aL aW cL cW its) (f : Fr w w' its) : KBox w' g (.slice aL n cL) (.slice aW n cW) := f.kbox (ys := Item.xs) h.box (fun p hp => (h.own p hp).1)
theorem Sb.row {w w' : World} {B g n : Nat} {aL aW : Option Addr} {cL cW : Nat} {its : List Item} (h : Sb w B g n aL aW cL cW its) (f : Fr w w' its) : RowS w' B (.slice aL n cL) n (its.map Item.l) := f.rows (ys := Item.xs) h.rl (fun p hp => (h.own p hp).1)
theorem Sb.item {w w' : World} {B g n t : Nat} {aL aW : Option Addr} {cL cW : Nat} {its : List Item} (h : Sb w B g n aL aW cL cW its) (f : Fr w w' its) (ht : t < n) : ∃ p gL al cl, its[t]? = some p ∧ p.l = .slice al p.xs.length cl ∧ p.xs.length ≤ 140000 ∧ aL = some ⟨gL, 0, none⟩ ∧ w'.cell? ⟨gL, t, none⟩ = some (.slice al p.xs.length cl) := by
 have hti : t < its.length := by have := h.len; omega
 obtain ⟨gL, rfl, c1⟩ := (h.row f).at ht
 have o := h.own its[t] (List.getElem_mem hti)
 obtain ⟨al, cl, e⟩ := own_form o.1.2
 refine ⟨its[t], gL, al, cl, by simp [hti], e, o.2.2.2, rfl, ?_⟩
 rw [c1]
 simp [hti, e]

structure Lg (w wr : World) (B t : Nat) (its : List Item) (vM : Value) (ms : List Value) : Prop where
 fr : Fr w wr its
 row : RowS wr w.heap.size vM t ms
 old : ∀ j p, its[j]? = some p → Rd wr p.l (List.replicate p.xs.length (mkOf j))
 rest : ∀ j p, t ≤ j → its[j]? = some p → Own wr B p.l p.xs.length (List.replicate p.xs.length (mkOf j))
 new : ∀ j p m, its[j]? = some p → ms[j]? = some m → Own wr B m (p.xs.length + 70) (List.replicate (p.xs.length + 70) (mkOf j)) ∧ Near w p.l m
theorem Lg.start {w wr : World} {B g n : Nat} {aL aW : Option Addr} {cL cW : Nat} {its : List Item} (h : Sb w B g n aL aW cL cW its) (f : Fr w wr its) (k : Now wr B its (fillTo its n)) : Lg w wr B 0 its (.slice none 0 0) [] := by
 have o : ∀ j p, its[j]? = some p → Own wr B p.l p.xs.length (List.replicate p.xs.length (mkOf j)) := fun j p hp => by
  have := k j p hp
  rw [fillTo_all h.len hp] at this
  exact this
 refine ⟨f, ⟨rfl, by simp, World.ownsRow_nil _ _ _ _⟩, fun j p hp => ?_, fun j p _ hp => o j p hp, fun j p m _ hm => by simp at hm⟩
 have := (h.own p (List.mem_of_getElem? hp)).2.2.2
 exact (o j p hp).rd (rep_bys _ _ (mkOf_lt j)) (by omega)
theorem Lg.step {w wr w2 w3 : World} {B g n t c' : Nat} {aL aW a' : Option Addr} {cL cW : Nat} {its : List Item} {vM vM' : Value} {ms : List Value} {p : Item} (hs : Sb w B g n aL aW cL cW its) (h : Lg w wr B t its vM ms) (hp : its[t]? = some p) (o2 : Own w2 B (.slice a' (p.xs.length + 70) c') (p.xs.length + 70) (List.replicate (p.xs.length + 70) (mkOf t))) (nr : Near wr p.l (.slice a' (p.xs.length + 70) c')) (kp : Keeps (mkOf t) wr w2) (g2 : wr.grownBy w2 p.l.ownBlock)
  (r3 : RowS w3 w.heap.size vM' (t + 1) (ms ++ [.slice a' (p.xs.length + 70) c'])) (g3 : w2.grownBy w3 vM.ownBlock) : Lg w w3 B (t + 1) its vM' (ms ++ [.slice a' (p.xs.length + 70) c']) := by
 have lt : ∀ q ∈ its, ∀ x, q.l.ownBlock = some x → x < w.heap.size := fun q hq x hx => ((hs.own q hq).1.2.lt x hx).2
 have pm := List.mem_of_getElem? hp
 have mlt : ∀ x, vM.ownBlock = some x → w.heap.size ≤ x := fun x hx => (h.row.2.2.lt x hx).1
 have R2 : RowS w2 w.heap.size vM t ms := h.row.far g2 (fun x hx hy => by have := lt p pm x hx; have := mlt x hy; omega)
 have far3 : ∀ q ∈ its, ∀ x, vM.ownBlock = some x → q.l.ownBlock ≠ some x := fun q hq x hx hy => by have := lt q hq x hy; have := mlt x hx; omega
 have lm : ms.length = t := h.row.1.symm
 refine ⟨(h.fr.grow g2 (fun x hx => .inr ⟨p, pm, hx⟩)).grow g3 (fun x hx => .inl (mlt x hx)), r3, fun j q hq => ?_, fun j q hj hq => ?_, fun j q m hq hm => ?_⟩
 ·have qm := List.mem_of_getElem? hq
  by_cases e : j = t
  ·subst e
   obtain rfl : p = q := by rw [hp] at hq; simpa using hq
   exact (kp.rd (h.old j p hp)).far g3 (far3 p pm)
  ·exact ((h.old j q hq).far g2 (fun x hx hy => ap_ne hs.apart e hq hp x hy hx)).far g3 (far3 q qm)
 ·have qm := List.mem_of_getElem? hq
  exact ((h.rest j q (by omega) hq).far g2 (fun x hx hy => ap_ne hs.apart (by omega : j ≠ t) hq hp x hy hx)).far g3 (far3 q qm)
 ·have qm := List.mem_of_getElem? hq
  by_cases e : j < t
  ·rw [List.getElem?_append_left (by omega)] at hm
   obtain ⟨o, k⟩ := h.new j q m hq hm
   have o4 := o.far g2 (fun x hx hy => by
    rcases k with k | k
    ·rw [k] at hy
     exact ap_ne hs.apart (by omega : j ≠ t) hq hp x hy hx
    ·have := k x hy
     have := lt p pm x hx
     omega)
   exact ⟨o4.far g3 (fun x hx => row_own R2 o4 hx), k⟩
  ·obtain rfl : j = t := by
    have := (List.getElem?_eq_some_iff.1 hm).1
    simp at this
    omega
   obtain rfl : p = q := by rw [hp] at hq; simpa using hq
   rw [List.getElem?_append_right (by omega), lm] at hm
   simp at hm
   subst hm
   refine ⟨o2.far g3 (fun x hx => row_own R2 o2 hx), ?_⟩
   rcases nr with k | k
   ·exact .inl k
   ·exact .inr fun x hx => Nat.le_trans h.fr.size (k x hx)

theorem KBox.keepH {w w' : World} {g H : Nat} {vL vW : Value} (h : KBox w g vL vW) (k : Below H w w') (hg : g < H) : KBox w' g vL vW := by
 unfold KBox at *
 rw [k.block g hg]; exact h
theorem RowS.keepH {w w' : World} {B n H : Nat} {v : Value} {vs : List Value} (h : RowS w B v n vs) (k : Below H w w') (hv : ∀ x, v.ownBlock = some x → x < H) : RowS w' B v n vs := by
 refine ⟨h.1, h.2.1, h.2.2.1, ?_⟩
 rcases h.2.2.2 with h2 | ⟨g, cap, cur, h3, h4, h5, h6⟩
 ·exact .inl h2
 ·exact .inr ⟨g, cap, cur, h3, h4, by rw [k.block g (hv g (by rw [h3]; rfl))]; exact h5, h6⟩
theorem Rd.keepH {w w' : World} {H : Nat} {v : Value} {xs : List Nat} (h : Rd w v xs) (k : Below H w w') (hv : ∀ x, v.ownBlock = some x → x < H) : Rd w' v xs := by
 obtain ⟨h1, a, cap, rfl, h3, h4, h5, h6, h7⟩ := h
 refine ⟨h1, a, cap, rfl, h3, h4, h5, h6, ?_⟩
 rcases h7 with h7 | ⟨b, off, rfl, hc⟩
 ·exact .inl h7
 ·refine .inr ⟨b, off, rfl, fun i hi => ?_⟩
  rw [k.cell (p := ⟨b, off + i, none⟩) (hv b rfl)]
  exact hc i hi
theorem Sb.later {w w' : World} {B g n : Nat} {aL aW : Option Addr} {cL cW : Nat} {its : List Item} (h : Sb w B g n aL aW cL cW its) (hb : Below w.heap.size w w') : Sb w' B g n aL aW cL cW its :=
 ⟨h.box.later hb, h.rl.later hb, h.rw.later hb, fun p hp => ⟨(h.own p hp).1.later hb, (h.own p hp).2.1.later hb, (h.own p hp).2.2⟩, h.apart, h.apk, h.len⟩
theorem Lg.bs {w0 w wr wx : World} {B g n t : Nat} {aL aW : Option Addr} {cL cW : Nat} {its : List Item} {vM : Value} {ms : List Value} (h0 : Sb w0 B g n aL aW cL cW its) (hs : Sb w B g n aL aW cL cW its) (h : Lg w wr B t its vM ms) (k : Below w0.heap.size wr wx) : Bsd wx B g n its := by
 refine ⟨⟨aL, cL, aW, cW, (hs.kbox h.fr).keepH k ((Array.getElem?_eq_some_iff.1 h0.box).1), (hs.row h.fr).keepH k (fun x hx => (h0.rl.2.2.lt x hx).2), ?_⟩, fun p hp => ⟨?_, (hs.own p hp).2.2⟩, fun j p hp => ?_⟩
 ·exact (h.fr.rows (ys := Item.xs) hs.rw (fun p hp => (hs.own p hp).1)).keepH k (fun x hx => (h0.rw.2.2.lt x hx).2)
 ·exact (h.fr.own (hs.own p hp).2.1 (fun q hq => hs.apk q hq p hp)).same_block (fun x hx => k.block x ((h0.own p hp).2.1.2.lt x hx).2)
 ·exact (h.old j p hp).keepH k (fun x hx => ((h0.own p (List.mem_of_getElem? hp)).1.2.lt x hx).2)

end Go.Proofs.YtchebhafabhabaaGreatDoor

namespace Go.Proofs.YtchebhafabhabaaGreatDoor
open Go.RowKit
set_option linter.unusedVariables false

theorem mkOf_int (t : Nat) : ((mkOf t : Nat) : Int) = 1 + (t : Int) % 250 := by unfold mkOf; omega
set_option maxRecDepth 100000 in
set_option maxHeartbeats 8000000 in
theorem settle_any {w0 w : World} {B g n : Nat} {its : List Item} (hk0 : Bk w0 B g n its) (h0 : Below w0.heap.size w0 w) (hn : n ≤ 1000) (hB : B ≤ w.heap.size) :
  Calls Tryz.prog 44 #[.pointer (some ⟨g, 0, none⟩)] w fun r w' => r = .returned (.bool true) ∧ Below B w w' ∧ Fr w w' its ∧ ∀ wx, Below w0.heap.size w' wx → Bsd wx B g n its := by
 obtain ⟨aL, cL, aW, cW, sb⟩ := hk0.sb
 have HS0 := Lib.hid sb
 have HS := Lib.hid (sb.later h0)
 have HK := Lib.hid (hk0.later h0)
 clear hk0 sb h0
 go_enter Tryz.func44, Tryz.ntmps44
 go_wp2_with fail
 refine (untouched_any HK.out hn).mono ?_
 rintro r w1 ⟨rfl, hb0⟩
 have F0 : Hid (Fr w w1 its) := (Fr.refl w its).later hb0
 have N0 : Hid (Now w1 B its (fillTo its 0)) := (Now.start HK.out).later hb0
 clear hb0
 go_wp2
 go_loopw [3, 4] (fun i c wr => ∃ t : Nat, t ≤ n ∧ i = .int .i64 (t : Int) ∧ Hid (Fr w wr its ∧ Now wr B its (fillTo its t))) (fun i _ _ => n - (intOf i).toNat)
 case atStart => exact ⟨0, by omega, rfl, F0.out, N0.out⟩
 case round =>
  obtain ⟨t, ht, rfl, HR⟩ := hrel
  have kl := (HS.out.kbox HR.out.1).l
  by_cases hlt : t < n
  ·have hlt2 : (t : Int) < (n : Int) := by omega
   have ht0 : (0 : Int) ≤ (t : Int) := by omega
   obtain ⟨p, gL, al, cl, hp, hpl, hx, rfl, c1⟩ := HS.out.item HR.out.1 hlt
   obtain ⟨nx, hnx⟩ : ∃ nx, nx = p.xs.length := ⟨_, rfl⟩
   have HP := Lib.hid (And.intro hp (And.intro hpl hnx))
   rw [← hnx] at c1 hx
   clear hp hpl hnx
   go_wp2
   go_loopw [4] (fun c wr2 => ∃ q : Nat, q ≤ nx ∧ c = .int .i64 (q : Int) ∧ Hid (Fr w wr2 its ∧ Now wr2 B its (fillIn its t q))) (fun c _ => nx - (intOf c).toNat)
   case atStart => exact ⟨0, by omega, rfl, HR.out.1, HR.out.2.congr (fillIn_zero its t)⟩
   case round =>
    obtain ⟨q, hq, rfl, HR2⟩ := hrel
    have kl2 := (HS.out.kbox HR2.out.1).l
    clear kl c1
    obtain ⟨p', gL', al', cl', hp', hpl', _, eL, c2⟩ := HS.out.item HR2.out.1 hlt
    obtain rfl : p = p' := by have := HP.out.1; rw [hp'] at this; simpa using this.symm
    obtain rfl : gL = gL' := by simpa using eL
    rw [HP.out.2.1] at hpl'
    simp only [Value.slice.injEq] at hpl'
    obtain ⟨rfl, _, rfl⟩ := hpl'
    rw [← HP.out.2.2] at c2
    clear eL hp'
    by_cases hlq : q < nx
    ·have hlq2 : (q : Int) < (nx : Int) := by omega
     have hq0 : (0 : Int) ≤ (q : Int) := by omega
     have own := HR2.out.2 t p HP.out.1
     rw [HP.out.2.1, ← HP.out.2.2] at own
     obtain ⟨gi, rfl⟩ : ∃ gi, al = some ⟨gi, 0, none⟩ := by
      rcases own.2.2 with ⟨h1, h2⟩ | ⟨gi, cap, cur, h1, _⟩
      ·omega
      ·simp only [Value.slice.injEq] at h1
       exact ⟨gi, h1.1⟩
     have hfz := own.2.frozenAt q
     have hcell : ∃ y : Nat, wr.cell? ⟨gi, q, none⟩ = some (.int .u8 (y : Int)) := by
      refine ⟨(fillIn its t q t).getD q 0, ?_⟩
      rw [own.2.cellAt q (by omega)]
      exact bv_at _ _ (by have := own.1; omega)
     obtain ⟨y, hcell⟩ := hcell
     clear own
     go_wp2
     go_roundw
     case rel =>
      have st := HR2.out.2.store HS.out.apart HP.out.1 (q := q) (mk := mkOf t) (by rw [HP.out.2.1])
      rw [mkOf_int] at st
      exact ⟨q + 1, by omega, by go_num, HR2.out.1.grow (set_grown _ gi q _) (fun x hx => .inr ⟨p, List.mem_of_getElem? HP.out.1, by cases hx; rw [HP.out.2.1]; rfl⟩), st.congr (fillIn_next (by rw [xsAt_eq HP.out.1, ← HP.out.2.2]; exact hlq))⟩
     case measure => simp [intOf]; omega
    ·have hge : (nx : Int) ≤ (q : Int) := by omega
     obtain rfl : q = nx := by omega
     go_wp2
     go_roundw
     case rel =>
      refine ⟨t + 1, by omega, by go_num, HR2.out.1, HR2.out.2.congr (fun j => ?_)⟩
      have e := fillIn_end its t j
      rw [xsAt_eq HP.out.1, ← HP.out.2.2] at e
      exact e
     case measure => simp [intOf]; omega
  ·have hge : (n : Int) ≤ (t : Int) := by omega
   obtain rfl : t = n := by omega
   have L0 : Hid (Lg w wr B 0 its (.slice none 0 0) []) := Lg.start HS.out HR.out.1 HR.out.2
   clear HR F0 N0
   go_wp2
   go_loopw [5, 6, 7, 8] (fun m i s c wr2 => ∃ u : Nat, u ≤ t ∧ i = .int .i64 (u : Int) ∧ ∃ am cm ms, m = .slice am u cm ∧ Hid (Lg w wr2 B u its (.slice am u cm) ms)) (fun _ i _ _ _ => t - (intOf i).toNat)
   case atStart => exact ⟨0, by omega, rfl, none, 0, [], rfl, L0⟩
   case round =>
    clear L0 kl
    obtain ⟨u, hu, rfl, am, cm, ms, rfl, HL⟩ := hrel
    have kl := (HS.out.kbox HL.out.fr).l
    by_cases hlu : u < t
    ·have hlu2 : (u : Int) < (t : Int) := by omega
     have hu0 : (0 : Int) ≤ (u : Int) := by omega
     obtain ⟨p, gL, al, cl, hp, hpl, hx, rfl, c1⟩ := HS.out.item HL.out.fr hlu
     obtain ⟨nx, hnx⟩ : ∃ nx, nx = p.xs.length := ⟨_, rfl⟩
     have O1 := HL.out.rest u p (Nat.le_refl _) hp
     rw [hpl, ← hnx] at O1
     have HO := Lib.hid O1
     have HP := Lib.hid (And.intro hp (And.intro hpl hnx))
     have hBr : B ≤ wr.heap.size := Nat.le_trans hB HL.out.fr.size
     rw [← hnx] at c1 hx
     clear hp hpl hnx O1
     go_wp2
     go_loopw [7, 8] (fun s c wr2 => ∃ q a' m c', q ≤ 70 ∧ c = .int .i64 ((q : Nat) : Int) ∧ s = .slice a' m c' ∧ Own wr2 B (.slice a' m c') m (List.replicate (nx + q) (mkOf u)) ∧ Near wr (.slice al nx cl) (.slice a' m c') ∧ Keeps (mkOf u) wr wr2 ∧ wr.grownBy wr2 (Value.slice al nx cl).ownBlock ∧ B ≤ wr2.heap.size) (fun _ c _ => 70 - (intOf c).toNat)
     case atStart => exact ⟨0, al, nx, cl, by omega, rfl, rfl, HO.out, .inl rfl, Keeps.refl _ _, World.grownBy.refl _ _, hBr⟩
     case round =>
      clear kl c1
      obtain ⟨q, a4, m4, c4, hq, rfl, rfl, own4, N4, K4, gw4, hB4⟩ := hrel
      have hm4 : Hid (m4 = nx + q) := by unfold Hid; rw [own4.1]; simp
      have hm4b : m4 ≤ 140100 := by have := hm4.out; omega
      by_cases hlq : q < 70
      ·have hlq2 : (q : Int) < 70 := by omega
       have HH : Hid (_ ∧ _ ∧ _) := ⟨N4, K4, gw4⟩
       clear N4 K4 gw4
       go_wp2_with (at_builtin; refine wpList_append_mark rfl _ _ rfl B a4 m4 c4 (mkOf u) _ rfl own4 [_] 1 rfl (by simp [bv, mkOf_int]) (by decide) (by omega) hB4 ?_; intro a5 m5 c5 w5 hm5 own5 gr5 ol5 nr5 kp5; refine Hid.out ?_)
       refine Lib.hid ?_
       rw [List.replicate_append_replicate] at own5
       have H5 : Hid (_ ∧ _ ∧ _ ∧ _) := ⟨own5, Near.on HH.out.1 nr5 HH.out.2.2.size, HH.out.2.1.trans kp5, grown_trans HH.out.2.2 gr5 HH.out.1⟩
       have hB5 : B ≤ w5.heap.size := Nat.le_trans hB4 gr5.size
       clear own5 nr5 kp5 gr5 ol5 HH hm5
       go_wp2
       go_roundw
       case rel => exact ⟨q + 1, a5, m5, c5, by omega, by go_num, rfl, H5.out.1, H5.out.2.1, H5.out.2.2.1, H5.out.2.2.2, hB5⟩
       case measure => simp [intOf]; omega
      ·have hgq : (70 : Int) ≤ (q : Int) := by omega
       obtain rfl : q = 70 := by omega
       have R4 := HL.out.row.far gw4 (fun x hx hy => by
        have h1 := (HL.out.row.2.2.lt x hy).1
        have h2 := ((HS.out.own p (List.mem_of_getElem? HP.out.1)).1.2.lt x (by rw [HP.out.2.1, ← HP.out.2.2]; exact hx)).2
        omega)
       have HF : Hid (_ ∧ _ ∧ _ ∧ _) := ⟨own4, N4, K4, gw4⟩
       clear own4 N4 K4 gw4
       go_wp2_with (at_builtin; refine wpList_append_one rfl _ _ rfl w.heap.size am u cm ms rfl R4 (.slice a4 m4 c4) rfl rfl (by omega) (Nat.le_trans HL.out.fr.size HF.out.2.2.2.size) ?_; intro am' cm' w6 r6 g6 b6; refine Hid.out ?_)
       refine Lib.hid ?_
       have H6 : Hid (Lg w w6 B (u + 1) its (.slice am' (u + 1) cm') (ms ++ [.slice a4 m4 c4])) := by
        obtain ⟨o4, n4, k4, g4⟩ := HF.out
        obtain ⟨hp, hpl, hnx⟩ := HP.out
        have e4 := hm4.out
        rw [hnx] at o4 n4 g4 e4
        subst e4
        rw [← hpl] at n4 g4
        exact Lg.step HS.out HL.out hp o4 n4 k4 g4 r6 g6
       clear r6 g6 b6 R4 HF
       go_wp2
       go_roundw
       case rel => exact ⟨u + 1, by omega, by go_num, am', cm', _, rfl, H6⟩
       case measure => simp [intOf]; omega
    ·have hge : (t : Int) ≤ (u : Int) := by omega
     obtain rfl : u = t := by omega
     have HD : Hid (Lg w wr B u its (.slice am u cm) ms) := HL
     go_wp2
     go_loopw [9, 10] (fun i c wr2 => ∃ y : Nat, y ≤ u ∧ i = .int .i64 (y : Int) ∧ wr2 = wr) (fun i _ _ => u - (intOf i).toNat)
     case atStart => exact ⟨0, by omega, rfl, rfl⟩
     case round =>
      obtain ⟨y, hy, rfl, rfl⟩ := hrel
      by_cases hly : y < u
      ·have hly2 : (y : Int) < (u : Int) := by omega
       have hy0 : (0 : Int) ≤ (y : Int) := by omega
       obtain ⟨p, gL, al, cl, hp, hpl, hx, rfl, c1⟩ := HS.out.item HD.out.fr hly
       obtain ⟨nx, hnx⟩ : ∃ nx, nx = p.xs.length := ⟨_, rfl⟩
       obtain ⟨gM, rfl, cM⟩ := HD.out.row.at hly
       have hyl : y < ms.length := by have := HD.out.row.1; omega
       obtain ⟨O2, _⟩ := HD.out.new y p ms[y] hp (by simp [hyl])
       have RO := HD.out.old y p hp
       obtain ⟨a2, c2, e2⟩ := own_form O2.2
       rw [List.getElem?_eq_getElem hyl, e2] at cM
       rw [e2] at O2
       have RN := O2.rd (rep_bys _ _ (mkOf_lt y)) (by omega)
       rw [hpl] at RO
       rw [← hnx] at c1 hx cM RN RO
       have HRR := Lib.hid (And.intro RN RO)
       clear O2 RN RO e2 hp hpl hnx
       go_wp2
       go_loopw [10] (fun c wr2 => ∃ q : Nat, q ≤ nx + 70 ∧ c = .int .i64 (q : Int) ∧ wr2 = wr) (fun c _ => nx + 70 - (intOf c).toNat)
       case atStart => exact ⟨0, by omega, rfl, rfl⟩
       case round =>
        obtain ⟨q, hq, rfl, rfl⟩ := hrel
        by_cases hlq : q < nx + 70
        ·have hlq2 : (q : Int) < (nx : Int) + 70 := by omega
         have hq0 : (0 : Int) ≤ (q : Int) := by omega
         rcases rd_some HRR.out.1 with ⟨_, h0, _⟩ | ⟨b2, off2, rfl⟩
         ·omega
         obtain ⟨cq, _⟩ := rd_cell HRR.out.1 q hlq
         have e : (List.replicate (nx + 70) (mkOf y)).getD q 0 = mkOf y := by simp [List.getD, hlq]
         rw [e, mkOf_int] at cq
         clear e
         by_cases hlx : q < nx
         ·have hlx2 : (q : Int) < (nx : Int) := by omega
          rcases rd_some HRR.out.2 with ⟨_, h0, _⟩ | ⟨b3, off3, rfl⟩
          ·omega
          obtain ⟨cx, _⟩ := rd_cell HRR.out.2 q hlx
          have e : (List.replicate nx (mkOf y)).getD q 0 = mkOf y := by simp [List.getD, hlx]
          rw [e, mkOf_int] at cx
          clear e
          go_wp2
          go_roundw
          case rel => exact ⟨q + 1, by omega, by go_num, trivial⟩
          case measure => simp [intOf]; omega
         ·have hgx : (nx : Int) ≤ (q : Int) := by omega
          go_wp2
          go_roundw
          case rel => exact ⟨q + 1, by omega, by go_num, trivial⟩
          case measure => simp [intOf]; omega
        ·have hgq : (nx : Int) + 70 ≤ (q : Int) := by omega
         go_wp2
         go_roundw
         case rel => exact ⟨y + 1, by omega, by go_num, trivial⟩
         case measure => simp [intOf]; omega
      ·have hgy : (u : Int) ≤ (y : Int) := by omega
       go_wp2
       go_ret
       exact ⟨rfl, HD.out.fr.below (fun p hp x hx => ((HS.out.own p hp).1.2.lt x hx).1) hB, HD.out.fr, fun wx k => HD.out.bs HS0.out HS.out k⟩

set_option maxRecDepth 100000 in
set_option maxHeartbeats 4000000 in
theorem settled_any {w : World} {B g n : Nat} {its : List Item} (h : Bsd w B g n its) (hn : n ≤ 1000) :
  Calls Tryz.prog 45 #[.pointer (some ⟨g, 0, none⟩)] w fun r w' => r = .returned (.bool true) ∧ w' = w := by
 have HS := Lib.hid h
 obtain ⟨aL, cL, aW, cW, h1, h2, h3⟩ := h.box
 have kl := h1.l
 have HRL := Lib.hid h2
 have HLN : Hid (n = its.length) := by unfold Hid; have := h2.1; simpa using this
 clear h h1 h2 h3
 go_enter Tryz.func45, Tryz.ntmps45
 go_wp2
 go_loopw [3, 4] (fun i c wr2 => ∃ y : Nat, y ≤ n ∧ i = .int .i64 (y : Int) ∧ wr2 = w) (fun i _ _ => n - (intOf i).toNat)
 case atStart => exact ⟨0, by omega, rfl, rfl⟩
 case round =>
  obtain ⟨y, hy, rfl, rfl⟩ := hrel
  by_cases hly : y < n
  ·have hly2 : (y : Int) < (n : Int) := by omega
   have hy0 : (0 : Int) ≤ (y : Int) := by omega
   have hyi : y < its.length := by have := HLN.out; omega
   obtain ⟨gL, rfl, c1⟩ := HRL.out.at hly
   have RO := HS.out.marks y its[y] (by simp [hyi])
   obtain ⟨al, cl, e1⟩ : ∃ al cl, its[y].l = .slice al its[y].xs.length cl := by
    obtain ⟨_, a, cap, h2, _⟩ := RO
    exact ⟨a, cap, by simpa using h2⟩
   have e0 : (its.map Item.l)[y]? = some its[y].l := by simp [hyi]
   have hx := (HS.out.own its[y] (List.getElem_mem hyi)).2.2
   rw [e0, e1] at c1
   rw [e1] at RO
   obtain ⟨nx, hnx⟩ : ∃ nx, nx = its[y].xs.length := ⟨_, rfl⟩
   rw [← hnx] at c1 hx RO
   have HRR := Lib.hid RO
   clear RO e0 e1 hnx
   go_wp2
   go_loopw [4] (fun c wr2 => ∃ q : Nat, q ≤ nx ∧ c = .int .i64 (q : Int) ∧ wr2 = wr) (fun c _ => nx - (intOf c).toNat)
   case atStart => exact ⟨0, by omega, rfl, rfl⟩
   case round =>
    obtain ⟨q, hq, rfl, rfl⟩ := hrel
    by_cases hlq : q < nx
    ·have hlq2 : (q : Int) < (nx : Int) := by omega
     have hq0 : (0 : Int) ≤ (q : Int) := by omega
     rcases rd_some HRR.out with ⟨_, h0, _⟩ | ⟨b2, off2, rfl⟩
     ·omega
     obtain ⟨cq, _⟩ := rd_cell HRR.out q hlq
     have e : (List.replicate nx (mkOf y)).getD q 0 = mkOf y := by simp [List.getD, hlq]
     rw [e, mkOf_int] at cq
     clear e
     go_wp2
     go_roundw
     case rel => exact ⟨q + 1, by omega, by go_num, trivial⟩
     case measure => simp [intOf]; omega
    ·have hgq : (nx : Int) ≤ (q : Int) := by omega
     go_wp2
     go_roundw
     case rel => exact ⟨y + 1, by omega, by go_num, trivial⟩
     case measure => simp [intOf]; omega
  ·have hgy : (n : Int) ≤ (y : Int) := by omega
   go_wp2
   go_ret
   exact ⟨rfl, rfl⟩

end Go.Proofs.YtchebhafabhabaaGreatDoor

namespace Go.Proofs.YtchebhafabhabaaGreatDoor
open Go.RowKit
set_option linter.unusedVariables false

set_option maxRecDepth 100000 in
set_option maxHeartbeats 400000 in
theorem appendWord_any {B : Nat} {v : Value} {acc : List Nat} {w : World} (n : Nat) (hn : n < 4294967296) (hown : w.ownsRow B 5 1 v acc.length (bv acc)) (hB : B ≤ w.heap.size) (hl : acc.length ≤ 70368744177664) :
  Calls Tryz.prog 53 #[v, .int .i64 (n : Int)] w fun e w' => ∃ s, e = .returned s ∧ w'.ownsRow B 5 1 s (acc ++ be4 n).length (bv (acc ++ be4 n)) ∧ Below B w w' := by
 obtain ⟨i0, hi, hz0, hz1, hz2⟩ := info_parts info_byte
 go_enter Tryz.func53, Tryz.ntmps53
 go_wp2_with (at_builtin; refine wpList_append_own _ rfl _ _ 36 rfl B 5 i0 (.int .u8 0) 1 1 und_bytes hi hz0 hz1 hz2 rfl (by decide) _ acc.length (bv acc) rfl (hown.alloc _) ⟨w.heap.size, 0, none⟩ 4 4 [_, _, _, _] rfl rfl (news_new _ _ _) ?c2 ?c3 ?c4 ?c5 ?_)
 case c2 => intro u hu; simp at hu; rcases hu with rfl | rfl | rfl | rfl <;> rfl
 case c3 => unfold maxLen; omega
 case c4 => omega
 case c5 => simp; omega
 intro v' w1 hown' hgrow _
 have hb1 : Below B w w1 := ((Below.refl B w).alloc hB _).grown hgrow (by simp; omega) (fun k hk => (hown.lt k hk).1)
 clear hgrow
 go_wp2
 go_ret
 refine ⟨_, rfl, ?_, hb1⟩
 simpa [bv, be4] using hown'

set_option maxRecDepth 100000 in
set_option maxHeartbeats 400000 in
theorem readSumB_any {v : Value} {bs : List Nat} {w : World} (hr : Rd w v bs) (h4 : 4 ≤ bs.length) :
  Calls Tryz.prog 61 #[v] w fun e w' => e = .returned (.int .u32 ((rdle (bs.getD 0 0) (bs.getD 1 0) (bs.getD 2 0) (bs.getD 3 0) : Nat) : Int)) ∧ Below w.heap.size w w' := by
 obtain ⟨hby, a, cap, rfl, hle, hm, hl48, hnone, hat⟩ := hr
 rcases hat with rfl | ⟨b, off, rfl, hc⟩
 ·simp at h4
 have h0 := hby.get 0
 have h1 := hby.get 1
 have h2 := hby.get 2
 have h3 := hby.get 3
 have c0 := hc 0 (by omega)
 have c1 := hc 1 (by omega)
 have c2 := hc 2 (by omega)
 have c3 := hc 3 (by omega)
 simp only [Nat.add_zero] at c0
 clear hc hnone
 generalize bs.length = n at *
 generalize bs.getD 0 0 = x0 at *
 generalize bs.getD 1 0 = x1 at *
 generalize bs.getD 2 0 = x2 at *
 generalize bs.getD 3 0 = x3 at *
 have g0 : (0 : Int) < (n : Int) := by omega
 have g1 : (1 : Int) < (n : Int) := by omega
 have g2 : (2 : Int) < (n : Int) := by omega
 have g3 : (3 : Int) < (n : Int) := by omega
 go_enter Tryz.func61, Tryz.ntmps61
 go_wp2
 go_quiet (fail)
 go_wp2
 go_ret
 refine ⟨?_, below_drewN (Below.refl _ _) _⟩
 first
  | exact congrArg (fun z : Int => Ending.returned (Value.int .u32 z)) (chain32 x0 x1 x2 x3 h0 h1 h2 h3)
  | exact congrArg (fun z : Int => Ending.returned (Value.int .i64 z)) (chaini64 x3 x2 x1 x0 h3 h2 h1 h0)

set_option maxRecDepth 100000 in
set_option maxHeartbeats 400000 in
theorem readWord_any {v : Value} {bs : List Nat} {w : World} (hr : Rd w v bs) (h4 : 4 ≤ bs.length) :
  Calls Tryz.prog 93 #[v] w fun e w' => e = .returned (.int .i64 ((rdle (bs.getD 3 0) (bs.getD 2 0) (bs.getD 1 0) (bs.getD 0 0) : Nat) : Int)) ∧ Below w.heap.size w w' := by
 obtain ⟨hby, a, cap, rfl, hle, hm, hl48, hnone, hat⟩ := hr
 rcases hat with rfl | ⟨b, off, rfl, hc⟩
 ·simp at h4
 have h0 := hby.get 0
 have h1 := hby.get 1
 have h2 := hby.get 2
 have h3 := hby.get 3
 have c0 := hc 0 (by omega)
 have c1 := hc 1 (by omega)
 have c2 := hc 2 (by omega)
 have c3 := hc 3 (by omega)
 simp only [Nat.add_zero] at c0
 clear hc hnone
 generalize bs.length = n at *
 generalize bs.getD 0 0 = x0 at *
 generalize bs.getD 1 0 = x1 at *
 generalize bs.getD 2 0 = x2 at *
 generalize bs.getD 3 0 = x3 at *
 have g0 : (0 : Int) < (n : Int) := by omega
 have g1 : (1 : Int) < (n : Int) := by omega
 have g2 : (2 : Int) < (n : Int) := by omega
 have g3 : (3 : Int) < (n : Int) := by omega
 go_enter Tryz.func93, Tryz.ntmps93
 go_wp2
 go_quiet (fail)
 go_wp2
 go_ret
 refine ⟨?_, below_drewN (Below.refl _ _) _⟩
 first
  | exact congrArg (fun z : Int => Ending.returned (Value.int .u32 z)) (chain32 x0 x1 x2 x3 h0 h1 h2 h3)
  | exact congrArg (fun z : Int => Ending.returned (Value.int .i64 z)) (chaini64 x3 x2 x1 x0 h3 h2 h1 h0)

end Go.Proofs.YtchebhafabhabaaGreatDoor

namespace Go.Proofs.YtchebhafabhabaaGreatDoor
open Go.RowKit
set_option linter.unusedVariables false

set_option maxRecDepth 100000 in
theorem mayRestart_any (r : Int) (w : World) : Calls Tryz.prog 46 #[.int .i64 r] w fun e w' => e = .returned (.bool (decide (1 ≤ r ∧ r ≤ 16))) ∧ w' = w := by
 by_cases h1 : 1 ≤ r
 ·by_cases h2 : r ≤ 16
  ·have hd : decide (1 ≤ r ∧ r ≤ 16) = true := by simp [h1, h2]
   rw [hd]
   go_enter Tryz.func46, Tryz.ntmps46
   go_wp2
   go_ret
   exact ⟨rfl, rfl⟩
  ·have hd : decide (1 ≤ r ∧ r ≤ 16) = false := by simp [h2]
   rw [hd]
   go_enter Tryz.func46, Tryz.ntmps46
   go_wp2
   go_ret
   exact ⟨rfl, rfl⟩
 ·have hd : decide (1 ≤ r ∧ r ≤ 16) = false := by simp [h1]
  rw [hd]
  go_enter Tryz.func46, Tryz.ntmps46
  go_wp2
  go_ret
  exact ⟨rfl, rfl⟩
set_option maxRecDepth 100000 in
theorem sizeOf_any {a b : Option Addr} {n m c d : Nat} (w : World) (hn : n ≤ 1000000000) (hm : m ≤ 1000000000) : Calls Tryz.prog 55 #[.slice a n c, .slice b m d] w fun e w' => e = .returned (.int .i64 ((n + m + 9 : Nat) : Int)) ∧ w' = w := by
 go_enter Tryz.func55, Tryz.ntmps55
 go_wp2
 go_ret
 exact ⟨by congr 1, rfl⟩

def comL : List Nat → List Nat → Nat
 | a :: xs, b :: ys => if a = b then comL xs ys + 1 else 0
 | _, _ => 0
theorem comL_le : ∀ (a b : List Nat), comL a b ≤ a.length ∧ comL a b ≤ b.length
 | [], b => ⟨by simp [comL], by simp [comL]⟩
 | a :: xs, [] => ⟨by simp [comL], by simp [comL]⟩
 | a :: xs, b :: ys => by
  have := comL_le xs ys
  unfold comL
  split <;> simp <;> omega
theorem comL_of : ∀ {a b : List Nat} {n : Nat}, n ≤ a.length → n ≤ b.length → (∀ i, i < n → a.getD i 0 = b.getD i 0) → (n = a.length ∨ n = b.length ∨ a.getD n 0 ≠ b.getD n 0) → comL a b = n
 | [], b, n, h1, _, _, _ => by simp at h1; subst h1; simp [comL]
 | a :: xs, [], n, _, h2, _, _ => by simp at h2; subst h2; simp [comL]
 | a :: xs, b :: ys, 0, _, _, _, h4 => by
  have : a ≠ b := by
   rcases h4 with h | h | h
   ·simp at h
   ·simp at h
   ·simpa using h
  simp [comL, this]
 | a :: xs, b :: ys, n + 1, h1, h2, h3, h4 => by
  have e := h3 0 (by omega)
  simp at e
  have := comL_of (a := xs) (b := ys) (n := n) (by simpa using h1) (by simpa using h2) (fun i hi => by have := h3 (i + 1) (by omega); simpa using this) (by
   rcases h4 with h | h | h
   ·exact .inl (by simpa using h)
   ·exact .inr (.inl (by simpa using h))
   ·exact .inr (.inr (by simpa using h)))
  simp [comL, e, this]
set_option maxRecDepth 100000 in
set_option maxHeartbeats 2000000 in
theorem common_any {va vb : Value} {A B : List Nat} {w : World} (ha : Rd w va A) (hb : Rd w vb B) : Calls Tryz.prog 52 #[va, vb] w fun e w' => e = .returned (.int .i64 ((comL A B : Nat) : Int)) ∧ Below w.heap.size w w' := by
 obtain ⟨aA, nA, cA, rfl⟩ := rd_slice ha
 obtain ⟨aB, nB, cB, rfl⟩ := rd_slice hb
 have hA := rd_lens ha
 have hB := rd_lens hb
 have HA : Hid (Rd w (.slice aA nA cA) A) := ha
 have HB : Hid (Rd w (.slice aB nB cB) B) := hb
 have HL : Hid (nA = A.length ∧ nB = B.length) := ⟨hA.1, hB.1⟩
 have h48 := hA.2.2.2
 have h49 := hB.2.2.2
 clear ha hb hA hB
 go_enter Tryz.func52, Tryz.ntmps52
 go_wp2
 go_loopw [5] (fun i wr => ∃ k : Nat, k ≤ nA ∧ k ≤ nB ∧ i = .int .i64 ((k : Nat) : Int) ∧ Below w.heap.size w wr ∧ Hid (∀ j, j < k → A.getD j 0 = B.getD j 0)) (fun i _ => nA - (intOf i).toNat)
 case atStart => exact ⟨0, Nat.zero_le _, Nat.zero_le _, rfl, Below.refl _ _, fun j hj => by omega⟩
 case round =>
  obtain ⟨k, hkA, hkB, rfl, hbw, hS⟩ := hrel
  have HBW : Hid (Below w.heap.size w wr) := hbw
  have k0 : (0 : Int) ≤ (k : Int) := by omega
  by_cases h1 : k < nA
  ·have h1i : (k : Int) < (nA : Int) := by omega
   obtain ⟨bA, oA, rfl⟩ : ∃ b off, aA = some ⟨b, off, none⟩ := by
    rcases rd_some HA.out with ⟨_, h, _⟩ | h
    ·omega
    ·exact h
   by_cases h2 : k < nB
   ·have h2i : (k : Int) < (nB : Int) := by omega
    obtain ⟨bB, oB, rfl⟩ : ∃ b off, aB = some ⟨b, off, none⟩ := by
     rcases rd_some HB.out with ⟨_, h, _⟩ | h
     ·omega
     ·exact h
    obtain ⟨ca, la⟩ := rd_cell (HA.out.later hbw) k h1
    obtain ⟨cb, lb⟩ := rd_cell (HB.out.later hbw) k h2
    obtain ⟨xa, hxa⟩ : ∃ xa, xa = A.getD k 0 := ⟨_, rfl⟩
    obtain ⟨xb, hxb⟩ : ∃ xb, xb = B.getD k 0 := ⟨_, rfl⟩
    rw [← hxa] at ca la
    rw [← hxb] at cb lb
    have HX : Hid (xa = A.getD k 0 ∧ xb = B.getD k 0) := ⟨hxa, hxb⟩
    clear hxa hxb hbw
    by_cases he : xa = xb
    ·subst he
     go_wp2
     go_quiet (fail)
     go_wp2
     go_roundw
     case rel => exact ⟨k + 1, by omega, by omega, by go_num, below_drewN HBW.out _, fun j hj => by
      by_cases hjk : j < k
      ·exact hS.out j hjk
      ·obtain rfl : j = k := by omega
       rw [← HX.out.1, ← HX.out.2]⟩
     case measure => simp [intOf]; omega
    ·have he1 : ((xa : Int) == (xb : Int)) = false := by rw [beq_eq_false_iff_ne]; omega
     have he2 : ¬ ((xa : Int) = (xb : Int)) := by omega
     have hr : comL A B = k := comL_of (by rw [← HL.out.1]; exact hkA) (by rw [← HL.out.2]; exact hkB) hS.out (.inr (.inr (by rw [← HX.out.1, ← HX.out.2]; exact he)))
     have HR : Hid (comL A B = k) := hr
     clear hr
     go_wp2
     go_quiet (fail)
     go_wp2
     go_ret
     exact ⟨by rw [HR.out]; rfl, below_drewN HBW.out _⟩
   ·have h2i : ¬ ((k : Int) < (nB : Int)) := by omega
    have hr : comL A B = k := comL_of (by rw [← HL.out.1]; exact hkA) (by rw [← HL.out.2]; exact hkB) hS.out (.inr (.inl (by rw [← HL.out.2]; omega)))
    have HR : Hid (comL A B = k) := hr
    clear hr hbw
    go_wp2
    go_quiet (fail)
    go_wp2
    go_ret
    exact ⟨by rw [HR.out]; rfl, below_drewN HBW.out _⟩
  ·have h1i : ¬ ((k : Int) < (nA : Int)) := by omega
   have hr : comL A B = k := comL_of (by rw [← HL.out.1]; exact hkA) (by rw [← HL.out.2]; exact hkB) hS.out (.inl (by rw [← HL.out.1]; omega))
   have HR : Hid (comL A B = k) := hr
   clear hr hbw
   go_wp2
   go_quiet (fail)
   go_wp2
   go_ret
   exact ⟨by rw [HR.out]; rfl, below_drewN HBW.out _⟩
end Go.Proofs.YtchebhafabhabaaGreatDoor
