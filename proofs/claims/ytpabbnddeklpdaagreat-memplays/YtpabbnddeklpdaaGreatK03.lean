import Derived.Test.YtpabbnddeklpdaaGreatK02
namespace Go.Proofs.YtpabbnddeklpdaaGreat
open Go.RowKit
set_option linter.unusedVariables false

section
variable {P : Program} {ops : Array Oper} {Q : Exit → Act → World → Prop} {md : Region.Mode} {S : World → Prop} {E : Nat → Bool}

def AnyE (P : Program) (md : Region.Mode) (ops : Array Oper) (Q : Exit → Act → World → Prop) (S : World → Prop) (E : Nat → Bool) : Nat → Array Bool → Act → World → Prop
 | 0, listed, a, w => Region.ready md ops listed = [] ∧ Q .normal a w
 | fuel + 1, listed, a, w => (Region.ready md ops listed = [] → Q .normal a w) ∧
  ∀ i ∈ Region.ready md ops listed, wpOp P ops Q i (fun a' w' => (E i = true → S w') ∧ AnyE P md ops Q S E fuel (listed.setIfInBounds i true) a' w') a w
theorem AnyE.any : ∀ (fuel : Nat) (listed : Array Bool) (a : Act) (w : World), AnyE P md ops Q S E fuel listed a w → wpAny P md ops Q fuel listed a w
 | 0, _, _, _, h => h
 | fuel + 1, _, _, _, h => ⟨h.1, fun i hi => wpOp_mono (fun a' w' k => AnyE.any fuel _ a' w' k.2) (h.2 i hi)⟩
theorem wp_region_anyE {id : Nat} {a : Act} {w : World} (hm : P.follows .mixedOrders = true) (h : AnyE P .any ops Q S E ops.size (Array.replicate ops.size false) a w.drew) : (Code.region id ops true).wp P Q a w := wp_region_any hm (AnyE.any _ _ _ _ h)
def eFree (md : Region.Mode) (ops : Array Oper) (listed : Array Bool) (i : Nat) (E : Nat → Bool) : Bool :=
 (List.range ops.size).all fun j => j == i || listed.getD j true || E j || (match ops[j]? with
  | none => true
  | some oj => oj.after.any fun e => Region.binds md e && e.on == i)
theorem eFree_spec {i : Nat} {listed : Array Bool} (h : eFree md ops listed i E = true) (j : Nat) (oj : Oper) (hj : ops[j]? = some oj) (hne : j ≠ i) (hun : listed.getD j true = false) (hno : ∀ e ∈ oj.after, Region.binds md e = true → e.on ≠ i) : E j = true := by
 have hlt : j < ops.size := (Array.getElem?_eq_some_iff.1 hj).1
 have := List.all_eq_true.1 h j (List.mem_range.2 hlt)
 simp only [hj, Bool.or_eq_true, beq_iff_eq, hne, hun, false_or] at this
 rcases this with (h1 | h1) | h1
 ·cases h1
 ·exact h1
 ·obtain ⟨k, hk, he⟩ := Array.any_eq_true.1 h1
  simp only [Bool.and_eq_true, beq_iff_eq] at he
  exact absurd he.2 (hno _ (Array.getElem_mem hk) he.1)
theorem AnyE.first {i : Nat} {oi : Oper} {v : Value} (hi : ops[i]? = some oi) (hs : Region.noSelect ops = true) (hQ : ∀ c a w, Q (.panic c) (a.put oi.dst v) w → Q (.panic c) a w) : ∀ (fuel : Nat) (listed : Array Bool) (a : Act) (w : World),
  (∀ j oj, ops[j]? = some oj → j ≠ i → listed.getD j true = false → (∀ e ∈ oj.after, Region.binds md e = true → e.on ≠ i) → oi.apart ops oj = true ∧ E j = true) →
  i ∈ Region.ready md ops listed → YieldsIf P ops S oi v a → S w → AnyE P md ops Q S E fuel (listed.setIfInBounds i true) (a.put oi.dst v) w → AnyE P md ops Q S E (fuel + 1) listed a w := by
 intro fuel
 have sel := Region.noSelect_spec hs
 induction fuel with
 | zero =>
  intro listed a w _ hr hy hS H
  refine ⟨fun h => (by rw [h] at hr; cases hr), fun j hj => ?_⟩
  rcases Decidable.em (j = i) with rfl | hne
  ·exact hy.wpOp hi hS ⟨fun _ => hS, H⟩
  ·have k := ready_mono hj hne
   rw [H.1] at k; cases k
 | succ fuel ih =>
  intro listed a w hf hr hy hS H
  refine ⟨fun h => (by rw [h] at hr; cases hr), fun j hj => ?_⟩
  rcases Decidable.em (j = i) with rfl | hne
  ·exact hy.wpOp hi hS ⟨fun _ => hS, H⟩
  ·obtain ⟨hun, oj, hoj, hall⟩ := mem_ready.1 hj
   have hno : ∀ e ∈ oj.after, Region.binds md e = true → e.on ≠ i := fun e he hb heq => by
    have k1 := hall e he hb
    have k0 := (mem_ready.1 hr).1
    rw [heq] at k1
    by_cases hlt : i < listed.size
    ·simp [hlt] at k0 k1; rw [k0] at k1; cases k1
    ·simp [Array.getElem?_eq_none (Nat.le_of_not_lt hlt)] at k1
   obtain ⟨hap, hEj⟩ := hf j oj hoj hne hun hno
   refine wpOp_mono (fun a' w' h3 => ⟨h3.2.1, ?_⟩) (wpOp_putIf hoj hap (fun cs b => sel i oi cs b hi) (fun cs b => sel j oj cs b hoj) hQ hy (H.2 j (ready_mono hj hne)))
   refine ih (listed.setIfInBounds j true) a' w' (fun k ok hk hki hun' hno' => hf k ok hk hki ?_ hno') (ready_mono hr (Ne.symm hne)) h3.1 (h3.2.1 hEj) ?_
   ·rcases Decidable.em (j = k) with rfl | e
    ·exact hun
    ·rwa [getD_set_ne true e] at hun'
   ·rw [Array.setIfInBounds_comm _ _ hne]; exact h3.2.2
theorem AnyE.take {i : Nat} {oi : Oper} {fuel : Nat} {listed : Array Bool} {a : Act} {w : World} (v : Value) (hi : ops[i]? = some oi) (hs : Region.noSelect ops = true) (hf : Region.free md ops listed i = true) (he : eFree md ops listed i E = true) (hr : (Region.ready md ops listed).contains i = true)
  (hQ : ∀ c a w, Q (.panic c) (a.put oi.dst v) w → Q (.panic c) a w) (hy : YieldsIf P ops S oi v a) (hS : S w) (h : AnyE P md ops Q S E fuel (listed.setIfInBounds i true) (a.put oi.dst v) w) : AnyE P md ops Q S E (fuel + 1) listed a w :=
 AnyE.first hi hs hQ fuel listed a w (fun j oj hj hne hun hno => ⟨Region.free_spec hi hf j oj hj hne hun hno, eFree_spec he j oj hj hne hun hno⟩) (by simpa using hr) hy hS h
theorem AnyE.one {i : Nat} {o : Oper} {fuel : Nat} {listed : Array Bool} {a : Act} {w : World} (ho : ops[i]? = some o) (hr : Region.ready md ops listed = [i]) (hw : Region.wanted o (yielded ops a.tmps) = true)
  (h : ∀ K : Act → World → Prop, Hid (∀ a' w', ((E i = true → S w') ∧ AnyE P md ops Q S E fuel (listed.setIfInBounds i true) a' w') → K a' w') → Oper.wp P o a w K Q) : AnyE P md ops Q S E (fuel + 1) listed a w :=
 ⟨fun k => (by rw [hr] at k; cases k), fun j hj => by
  rw [hr] at hj
  obtain rfl : j = i := by simpa using hj
  exact wpOp_step ho (fun K' hK => by rw [if_pos hw]; exact h K' hK)⟩
theorem AnyE.done {listed : Array Bool} {a : Act} {w : World} (hr : Region.ready md ops listed = []) (h : Q .normal a w) : ∀ fuel, AnyE P md ops Q S E fuel listed a w
 | 0 => ⟨hr, h⟩
 | _ + 1 => ⟨fun _ => h, by rw [hr]; simp⟩
end
end Go.Proofs.YtpabbnddeklpdaaGreat

namespace Go.Proofs.YtpabbnddeklpdaaGreat
open Go.RowKit
set_option linter.unusedVariables false

theorem FuB.more {w : World} {g : Nat} {FO FO' : Nat → Prop} (h : FuB w g FO) (k : ∀ i, FO i → FO' i) (l : ∀ i, FO' i → i < w.heap.size) : FuB w g FO' := by
 obtain ⟨O, aL, nL, cL, aM, cM, N, vs, ms, h0, f1, f2, f3, f4, f5⟩ := h
 exact ⟨O, aL, nL, cL, aM, cM, N, vs, ms, h0, l, k _ f2, fun i hi => k i (f3 i hi), fun i hi => k i (f4 i hi), fun i hi => k i (f5 i hi)⟩
def mkF (n : Nat) : Nat := n / 4 % 200 + 20
theorem mkF_lt (n : Nat) : mkF n < 256 := by unfold mkF; omega
theorem info_partsF : (Tryz.prog.info? 34).map (fun i => (i.zero, i.size, i.bytes)) = some (some (.slice none 0 0), 1, 24) := by kernel_rfl
theorem row_formF {w : World} {B n : Nat} {e : TypeId} {v : Value} {xs : List Value} (h : w.ownsRow B e 1 v n xs) : ∃ a c, v = .slice a n c := by
 rcases h.2 with ⟨h1, h2⟩ | ⟨g, cap, cur, h1, _⟩
 ·exact ⟨none, 0, by rw [h1, h2]⟩
 ·exact ⟨_, _, h1⟩
theorem add0F (b j : Nat) : (⟨b, 0, none⟩ : Addr).add j = ⟨b, j, none⟩ := by cases j <;> simp [Addr.add]
theorem wp_append_mk {a : Act} {w : World} {K : Act → World → Prop} {Q : Exit → Act → World → Prop} {p q B n cp k blk mk : Nat} {ap : Option Addr} {xs : List Nat} {d : Option Nat} {ps : String} {af : Array Edge} (hp : a.tmps[p]?.getD undef = .slice ap n cp) (hq : a.tmps[q]?.getD undef = .slice (some ⟨blk, 0, none⟩) k k) (ho : Own w B (.slice ap n cp) n xs) (hnew : ∀ j, j < k → w.cell? ⟨blk, j, none⟩ = some (.int .u8 (mk : Int))) (hk0 : 0 < k) (hl : n + k ≤ 140737488355328) (hB : B ≤ w.heap.size)
  (h : ∀ a' c' w', Own w' B (.slice a' (n + k) c') (n + k) (xs ++ List.replicate k mk) → w.grownBy w' (Value.slice ap n cp).ownBlock → Own w' B (.slice ap n cp) n xs → ((Value.slice a' (n + k) c').ownBlock = (Value.slice ap n cp).ownBlock ∨ ∀ g, (Value.slice a' (n + k) c').ownBlock = some g → w.heap.size ≤ g) → Keeps mk w w' → K (a.put d (.slice a' (n + k) c')) w') :
  Oper.wp Tryz.prog { dst := d, op := Op.call { callee := Callee.builtin Builtin.append, args := #[Operand.tmp p, Operand.tmp q], argTypes := #[34, 34] }, type := 34, pos := ps, after := af, guard := none } a w K Q := by
 have hnews : ∀ j u, (bv (List.replicate k mk))[j]? = some u → w.cell? ((⟨blk, 0, none⟩ : Addr).add j) = some u := by
  intro j u hj
  obtain ⟨hjl, rfl⟩ := bv_get _ j u hj
  simp at hjl
  rw [add0F, hnew j hjl]
  simp [hjl]
 obtain ⟨v', w', hr, h1, h2, h3, h4⟩ := append_keep (bs := List.replicate k mk) (c := k) 34 ho ⟨blk, 0, none⟩ (by simp) hnews hk0 hl hB
 have hk := append_marks 34 ho ⟨blk, 0, none⟩ hnews hk0 hl hr
 obtain ⟨a', c', rfl⟩ := own_form h1.2
 have e1 : a.eval (Operand.tmp p) = .slice ap n cp := by simpa [Act.eval] using hp
 have e2 : a.eval (Operand.tmp q) = .slice (some ⟨blk, 0, none⟩) k k := by simpa [Act.eval] using hq
 unfold Oper.wp execOp
 simp only [resolve, invoke, builtin, Sem.run_bind, Sem.run_pure, Result.andThen_ok, List.map_toArray, List.map_cons, List.map_nil, e1, e2, hr]
 refine h a' c' w' h1 h2 h3 ?_ hk
 rcases h4 with h4 | h4
 ·exact .inl h4
 ·refine .inr fun g hg => ?_
  rw [h4] at hg
  simp at hg
  omega
theorem wp_append_rowF {a : Act} {w : World} {K : Act → World → Prop} {Q : Exit → Act → World → Prop} {p q B n cp k blk : Nat} {ap : Option Addr} {vs us : List Value} {d : Option Nat} {ps : String} {af : Array Edge} (hp : a.tmps[p]?.getD undef = .slice ap n cp) (hq : a.tmps[q]?.getD undef = .slice (some ⟨blk, 0, none⟩) k k) (ho : w.ownsRow B 34 1 (.slice ap n cp) n vs) (hk : us.length = k) (hnew : ∀ j u, us[j]? = some u → w.cell? ⟨blk, j, none⟩ = some u) (h1 : ∀ u ∈ us, u.oneCell' = true) (hl : n + k ≤ 5864062014805) (hB : B ≤ w.heap.size)
  (h : ∀ a' c' w', w'.ownsRow B 34 1 (.slice a' (n + k) c') (n + k) (vs ++ us) → w.grownBy w' (Value.slice ap n cp).ownBlock → ((Value.slice a' (n + k) c').ownBlock = (Value.slice ap n cp).ownBlock ∨ ∀ g, (Value.slice a' (n + k) c').ownBlock = some g → w.heap.size ≤ g) → K (a.put d (.slice a' (n + k) c')) w') :
  Oper.wp Tryz.prog { dst := d, op := Op.call { callee := Callee.builtin Builtin.append, args := #[Operand.tmp p, Operand.tmp q], argTypes := #[33, 33] }, type := 33, pos := ps, after := af, guard := none } a w K Q := by
 obtain ⟨i0, hi, hz0, hz1, hz2⟩ := info_parts info_partsF
 obtain ⟨v', w', hr, h2, h3, h4, h5⟩ := run_append_own_at (P := Tryz.prog) w B 33 33 34 i0 (.slice none 0 0) 1 24 und_parts hi hz0 hz1 hz2 rfl (by decide) _ n vs ho ⟨blk, 0, none⟩ k k us (by omega) (fun j u hj => by rw [add0F]; exact hnew j u hj) h1 (by unfold maxLen; omega) (by omega) hB
 obtain ⟨a', c', rfl⟩ := row_formF h2
 have e1 : a.eval (Operand.tmp p) = .slice ap n cp := by simpa [Act.eval] using hp
 have e2 : a.eval (Operand.tmp q) = .slice (some ⟨blk, 0, none⟩) k k := by simpa [Act.eval] using hq
 unfold Oper.wp execOp
 simp only [resolve, invoke, builtin, Sem.run_bind, Sem.run_pure, Result.andThen_ok, List.map_toArray, List.map_cons, List.map_nil, e1, e2, hr]
 refine h a' c' w' h2 h3 ?_
 rcases h5 with h5 | h5
 ·exact .inl h5
 ·refine .inr fun g hg => ?_
  rw [h5] at hg
  simp at hg
  omega
theorem row_neF {w : World} {B B' n m : Nat} {v u : Value} {vs : List Value} {xs : List Nat} (hr : w.ownsRow B 34 1 v n vs) (ho : Own w B' u m xs) {k : Nat} (hv : v.ownBlock = some k) : u.ownBlock ≠ some k := by
 intro hu
 rcases hr.2 with ⟨h1, _⟩ | ⟨g, cap, cur, h1, h2, h3, _⟩
 ·rw [h1] at hv; cases hv
 ·rcases ho.2.2 with ⟨k1, _⟩ | ⟨g2, cap2, cur2, k1, k2, k3, _⟩
  ·rw [k1] at hu; cases hu
  ·rw [h1] at hv
   rw [k1] at hu
   cases hv
   cases hu
   rw [h3] at k3
   simp at k3
theorem Fb.grow {w w' w2 : World} {O : Nat → Prop} {o : Option Nat} (f : Fb w w' O) (k : w'.grownBy w2 o) (h : ∀ i, o = some i → i < w.heap.size → O i) : Fb w w2 O := ⟨k.os.trans f.os, k.tape.trans f.tape, k.output.trans f.output, Nat.le_trans f.size k.size, fun i hi ho => (k.block i (Nat.lt_of_lt_of_le hi f.size) (fun e => ho (h i e.symm hi))).trans (f.block i hi ho)⟩
theorem own_cellF {w : World} {B k g c : Nat} {xs : List Nat} (h : Own w B (.slice (some ⟨g, 0, none⟩) k c) k xs) {i : Nat} (hi : i < k) : w.cell? ⟨g, i, none⟩ = some (.int .u8 ((xs.getD i 0 : Nat) : Int)) := by
 rw [h.2.cellAt i (by omega)]
 exact bv_at _ _ (by rw [← h.1]; exact hi)
theorem own_againF {w w' : World} {B n k g c cu : Nat} {xs ys : List Nat} (o : Own w B (.slice (some ⟨g, 0, none⟩) n c) n xs) (o' : Own w' B (.slice (some ⟨g, 0, none⟩) n c) n xs) (ou : Own w B (.slice (some ⟨g, 0, none⟩) k cu) k ys) (hc : ∀ i, i < k → w'.cell? ⟨g, i, none⟩ = w.cell? ⟨g, i, none⟩) : Own w' B (.slice (some ⟨g, 0, none⟩) k cu) k ys := by
 rcases o.2.2 with ⟨h1, _⟩ | ⟨g1, cap1, cur1, h1, h2, h3, h4, h5, h6, h7⟩
 ·cases h1
 rcases o'.2.2 with ⟨k1, _⟩ | ⟨g2, cap2, cur2, k1, k2, k3, k4, k5, k6, k7⟩
 ·cases k1
 rcases ou.2.2 with ⟨l1, _⟩ | ⟨g3, cap3, cur3, l1, l2, l3, l4, l5, l6, l7⟩
 ·cases l1
 simp only [Value.slice.injEq, Option.some.injEq, Addr.mk.injEq, and_true, true_and] at h1 k1 l1
 obtain ⟨rfl, rfl⟩ := h1
 obtain ⟨rfl, rfl⟩ := k1
 obtain ⟨rfl, rfl⟩ := l1
 rw [h3] at l3
 simp only [Option.some.injEq, Obj.cells.injEq, and_true] at l3
 subst l3
 have hsz : cur2.size = cur1.size := by rw [k6, h6]
 refine ⟨ou.1, ou.2.1, .inr ⟨g, cu, cur2, rfl, l2, k3, l4, l5, by rw [hsz, l6], ?_⟩⟩
 rw [← l7]
 apply List.ext_getElem?
 intro i
 by_cases hi : i < k * 1
 ·rw [List.getElem?_take_of_lt hi, List.getElem?_take_of_lt hi]
  have := hc i (by omega)
  simp only [World.cell?, k3, h3] at this
  simpa using this
 ·rw [List.getElem?_take_eq_none (by omega), List.getElem?_take_eq_none (by omega)]
theorem own_nonilF {w : World} {B k c : Nat} {a : Option Addr} {xs : List Nat} (o : Own w B (.slice a k c) k xs) : (a = none ∧ k = 0 ∧ c = 0) ∨ ∃ g, a = some ⟨g, 0, none⟩ := by
 rcases o.2.2 with ⟨h1, h2⟩ | ⟨g, cap, cur, h1, _⟩
 ·simp only [Value.slice.injEq] at h1
  exact .inl ⟨h1.1, h2, h1.2.2⟩
 ·simp only [Value.slice.injEq] at h1
  exact .inr ⟨g, h1.1⟩
theorem own_keepF {w w' : World} {B N mk k cv cu : Nat} {av au : Option Addr} {xs : List Nat} (ov : Own w B (.slice av N cv) N xs) (ov' : Own w' B (.slice av N cv) N xs) (gr : w.grownBy w' (Value.slice av N cv).ownBlock) (kp : Keeps mk w w') (ou : Own w B (.slice au k cu) k (List.replicate k mk)) : Own w' B (.slice au k cu) k (List.replicate k mk) := by
 by_cases hb : (Value.slice au k cu).ownBlock = (Value.slice av N cv).ownBlock
 ·rcases own_nonilF ou with ⟨rfl, rfl, rfl⟩ | ⟨g, rfl⟩
  ·exact ⟨ou.1, ou.2.1, .inl ⟨rfl, rfl⟩⟩
  ·rcases own_nonilF ov with ⟨rfl, _, _⟩ | ⟨g2, rfl⟩
   ·cases hb
   ·simp only [Value.ownBlock, Option.some.injEq] at hb
    subst hb
    refine own_againF ov ov' ou (fun i hi => ?_)
    have hc := own_cellF ou hi
    have e : (List.replicate k mk).getD i 0 = mk := by simp [List.getD_eq_getElem?_getD, hi]
    rw [e] at hc
    rw [hc]
    exact kp _ hc
 ·exact ⟨ou.1, row_same ou.2 (fun x hx => gr.block x (ou.2.lt x hx).2 (fun e => hb (by rw [hx, e])))⟩
section
variable {P : Program} {ops : Array Oper} {Q : Exit → Act → World → Prop} {md : Region.Mode} {S : World → Prop} {E : Nat → Bool}
theorem AnyE.twoF {i j : Nat} {oi oj : Oper} {fuel : Nat} {listed : Array Bool} {a : Act} {w : World} (hi : ops[i]? = some oi) (hj : ops[j]? = some oj) (hr : Region.ready md ops listed = [i, j]) (hwi : Region.wanted oi (yielded ops a.tmps) = true) (hwj : Region.wanted oj (yielded ops a.tmps) = true)
  (h1 : ∀ K : Act → World → Prop, Hid (∀ a' w', ((E i = true → S w') ∧ AnyE P md ops Q S E fuel (listed.setIfInBounds i true) a' w') → K a' w') → Oper.wp P oi a w K Q)
  (h2 : ∀ K : Act → World → Prop, Hid (∀ a' w', ((E j = true → S w') ∧ AnyE P md ops Q S E fuel (listed.setIfInBounds j true) a' w') → K a' w') → Oper.wp P oj a w K Q) : AnyE P md ops Q S E (fuel + 1) listed a w :=
 ⟨fun k => (by rw [hr] at k; cases k), fun m hm => by
  rw [hr] at hm
  rcases List.mem_cons.1 hm with rfl | hm
  ·exact wpOp_step hi (fun K' hK => by rw [if_pos hwi]; exact h1 K' hK)
  ·obtain rfl : m = j := by simpa using hm
   exact wpOp_step hj (fun K' hK => by rw [if_pos hwj]; exact h2 K' hK)⟩
end
theorem box_cellF {W : World} {g : Nat} {l m : Value} {z : Int} (h : W.heap[g]? = some (.cells #[l, m, .int .i64 z] 36 (0, 0))) : W.cell? ⟨g, 0, none⟩ = some l := by simp [World.cell?, h]
theorem box_cellF1 {W : World} {g : Nat} {l m : Value} {z : Int} (h : W.heap[g]? = some (.cells #[l, m, .int .i64 z] 36 (0, 0))) : W.cell? ⟨g, 1, none⟩ = some m := by simp [World.cell?, h]
theorem box_fzF {W : World} {g : Nat} {l m : Value} {z : Int} (h : W.heap[g]? = some (.cells #[l, m, .int .i64 z] 36 (0, 0))) (j : Nat) : W.frozen? ⟨g, j, none⟩ = false := by simp [World.frozen?, h]
theorem box_setF0 {W : World} {g : Nat} {l m : Value} {z : Int} (h : W.heap[g]? = some (.cells #[l, m, .int .i64 z] 36 (0, 0))) (x : Value) : (W.setCell ⟨g, 0, none⟩ x).heap[g]? = some (.cells #[x, m, .int .i64 z] 36 (0, 0)) := by simp [World.setCell, Array.getElem?_modify, h]
theorem box_setF1 {W : World} {g : Nat} {l m : Value} {z : Int} (h : W.heap[g]? = some (.cells #[l, m, .int .i64 z] 36 (0, 0))) (x : Value) : (W.setCell ⟨g, 1, none⟩ x).heap[g]? = some (.cells #[l, x, .int .i64 z] 36 (0, 0)) := by simp [World.setCell, Array.getElem?_modify, h]
theorem one_mkF {W : World} {k mk j : Nat} (h : W.heap[k]? = some (.cells #[.int .u8 (mk : Int)] 5 (0, 0))) (hj : j < 1) : W.cell? ⟨k, j, none⟩ = some (.int .u8 (mk : Int)) := by
 obtain rfl : j = 0 := by omega
 simp [World.cell?, h]
def TwoF (W : World) (k mk : Nat) : Prop := W.cell? ⟨k, 0, none⟩ = some (.int .u8 (mk : Int)) ∧ W.cell? ⟨k, 1, none⟩ = some (.int .u8 (mk : Int))
theorem two_ofF {W : World} {k mk : Nat} (h : W.heap[k]? = some (.cells #[.int .u8 (mk : Int), .int .u8 (mk : Int)] 5 (0, 0))) : TwoF W k mk := by
 constructor <;> simp [World.cell?, h]
theorem two_mkF {W : World} {k mk j : Nat} (h : TwoF W k mk) (hj : j < 2) : W.cell? ⟨k, j, none⟩ = some (.int .u8 (mk : Int)) := by
 match j, hj with
 | 0, _ => exact h.1
 | 1, _ => exact h.2
theorem kp_two {W W' : World} {k mk : Nat} (kp : Keeps mk W W') (h : TwoF W k mk) : TwoF W' k mk := ⟨kp _ h.1, kp _ h.2⟩
theorem keep2F {W W' : World} {k mk : Nat} (b : Below W.heap.size W W') (h : TwoF W k mk) : TwoF W' k mk := kp_two (Keeps.below b) h
theorem keepF {W W' : World} {k : Nat} {o : Obj} (b : Below W.heap.size W W') (h : W.heap[k]? = some o) : W'.heap[k]? = some o := (b.block k (Array.getElem?_eq_some_iff.1 h).1).trans h
theorem four_cellF {W : World} {k j : Nat} {x1 x2 x3 x4 u : Value} (h : W.heap[k]? = some (.cells #[x1, x2, x3, x4] 34 (0, 0))) (hj : [x1, x2, x3, x4][j]? = some u) : W.cell? ⟨k, j, none⟩ = some u := by
 simp only [World.cell?, h]
 simpa using hj
theorem Fb.set1F {w : World} {O : Nat → Prop} {g : Nat} (h : O g) (j : Nat) (x : Value) : Fb w (w.setCell ⟨g, j, none⟩ x) O :=
 have b := (Below.refl g w).setCell (p := ⟨g, j, none⟩) (Nat.le_refl _) x
 ⟨b.os, b.tape, b.output, b.size, fun k _ ho => Below.heap_setCell _ _ _ _ (by rintro rfl; exact ho h)⟩
theorem Own.kept_rowF {w w' : World} {B B' n m : Nat} {v u : Value} {vs : List Value} {xs : List Nat} (ho : Own w B u m xs) (hr : w.ownsRow B' 34 1 v n vs) (hg : w.grownBy w' v.ownBlock) : Own w' B u m xs := ⟨ho.1, row_same ho.2 (fun k hk => hg.block k (ho.2.lt k hk).2 (fun e => row_neF hr ho e.symm hk))⟩
theorem Own.setF {w : World} {B m g j : Nat} {u x : Value} {xs : List Nat} (ho : Own w B u m xs) (hg : ∀ k, u.ownBlock = some k → k ≠ g) : Own (w.setCell ⟨g, j, none⟩ x) B u m xs := ⟨ho.1, row_same ho.2 (fun k hk => Below.heap_setCell _ _ _ _ (hg k hk))⟩
theorem own_boxF {w : World} {B m g : Nat} {u l mm : Value} {z : Int} {xs : List Nat} (ho : Own w B u m xs) (h : w.heap[g]? = some (.cells #[l, mm, .int .i64 z] 36 (0, 0))) : ∀ k, u.ownBlock = some k → k ≠ g := by
 rintro k hk rfl
 rcases ho.2.2 with ⟨k1, _⟩ | ⟨g2, cap2, cur2, k1, k2, k3, _⟩
 ·rw [k1] at hk; cases hk
 ·rw [k1] at hk
  cases hk
  rw [h] at k3
  simp at k3
theorem row_boxF {w : World} {B m g : Nat} {u l mm : Value} {z : Int} {vs : List Value} (ho : w.ownsRow B 34 1 u m vs) (h : w.heap[g]? = some (.cells #[l, mm, .int .i64 z] 36 (0, 0))) : ∀ k, u.ownBlock = some k → k ≠ g := by
 rintro k hk rfl
 rcases ho.2 with ⟨k1, _⟩ | ⟨g2, cap2, cur2, k1, k2, k3, _⟩
 ·rw [k1] at hk; cases hk
 ·rw [k1] at hk
  cases hk
  rw [h] at k3
  simp at k3
end Go.Proofs.YtpabbnddeklpdaaGreat

namespace Go.Proofs.YtpabbnddeklpdaaGreat
open Go.RowKit
set_option linter.unusedVariables false

theorem fu_done {w wr Y w6 : World} {g q c N mk nL cL cM c4 cx cy cR c6 : Nat} {a aL aM a4 ax ay aR a6 : Option Addr} {O FO : Nat → Prop} {vs : List Value} {ms : List Nat}
  (h : Fu w g O aL nL cL aM cM N vs ms) (hF : (∀ k, FO k → k < w.heap.size) ∧ FO g ∧ (∀ k, O k → FO k) ∧ (∀ k, (Value.slice aL nL cL).ownBlock = some k → FO k) ∧ (∀ k, (Value.slice aM nL cM).ownBlock = some k → FO k))
  (hNb : ∀ k, (Value.slice a q c).ownBlock = some k → ¬ FO k) (hgb : ∀ k, (Value.slice a q c).ownBlock = some k → k < w.heap.size) (hw : w.heap.size ≤ wr.heap.size)
  (oX : Own Y 0 (.slice ax (q + 1) cx) (q + 1) (List.replicate (q + 1) mk)) (oY : Own Y 0 (.slice ay (q + 2) cy) (q + 2) (List.replicate (q + 2) mk)) (oB : Own Y 0 (.slice a q c) q (List.replicate q mk)) (oG : Own Y 0 (.slice a4 (q + 1 + 100) c4) (q + 1 + 100) (List.replicate (q + 1 + 100) mk))
  (nX : Near wr (.slice a q c) (.slice ax (q + 1) cx)) (nY : Near wr (.slice a q c) (.slice ay (q + 2) cy)) (nG : ∀ k, (Value.slice a4 (q + 1 + 100) c4).ownBlock = some k → (Value.slice a q c).ownBlock = some k ∨ w.heap.size ≤ k)
  (r : Y.ownsRow 0 34 1 (.slice aR (nL + 4) cR) (nL + 4) (vs ++ [.slice a q c, .slice ax (q + 1) cx, .slice ay (q + 2) cy, .slice a4 (q + 1 + 100) c4])) (nR : Near wr (.slice aL nL cL) (.slice aR (nL + 4) cR))
  (bx : Y.heap[g]? = some (.cells #[.slice aR (nL + 4) cR, .slice aM nL cM, .int .i64 ((N : Int) + 4 * (q : Int) + 200)] 36 (0, 0)))
  (f : Fb w Y (fun k => k = g ∨ (Value.slice a q c).ownBlock = some k ∨ (Value.slice aL nL cL).ownBlock = some k)) (oM : Own Y 0 (.slice aM nL cM) nL ms)
  (o6 : Own w6 0 (.slice a6 (nL + 4) c6) (nL + 4) (ms ++ List.replicate 4 mk)) (gr : Y.grownBy w6 (Value.slice aM nL cM).ownBlock) (nr : (Value.slice a6 (nL + 4) c6).ownBlock = (Value.slice aM nL cM).ownBlock ∨ ∀ k, (Value.slice a6 (nL + 4) c6).ownBlock = some k → Y.heap.size ≤ k)
  (hYr : wr.heap.size ≤ Y.heap.size) (hN : N ≤ 16000000) (hq : q ≤ 200000) (hmk : mk < 256) :
  FuB (w6.setCell ⟨g, 1, none⟩ (.slice a6 (nL + 4) c6)) g (fun k => FO k ∨ (Value.slice a q c).ownBlock = some k ∨ (w.heap.size ≤ k ∧ k < (w6.setCell ⟨g, 1, none⟩ (.slice a6 (nL + 4) c6)).heap.size)) ∧ Fb w (w6.setCell ⟨g, 1, none⟩ (.slice a6 (nL + 4) c6)) (fun k => FO k ∨ (Value.slice a q c).ownBlock = some k) := by
 obtain ⟨f1, f2, f3, f4, f5⟩ := hF
 have hgY : g < Y.heap.size := (Array.getElem?_eq_some_iff.1 bx).1
 have hMg : (Value.slice aM nL cM).ownBlock ≠ some g := fun e => (h.nM g e).2.1 rfl
 have bx6 := (gr.block g hgY (fun e => hMg e.symm)).trans bx
 have hMb : ∀ k, (Value.slice aM nL cM).ownBlock = some k → (Value.slice a q c).ownBlock ≠ some k := fun k e e2 => hNb k e2 (f5 k e)
 have hMl : ∀ k, (Value.slice aM nL cM).ownBlock = some k → k < w.heap.size := fun k e => f1 k (f5 k e)
 -- the lists of marks lie beside the marks' own
 have far : ∀ {u : Value}, (∀ k, u.ownBlock = some k → (Value.slice a q c).ownBlock = some k ∨ w.heap.size ≤ k) → ∀ k, (Value.slice aM nL cM).ownBlock = some k → u.ownBlock ≠ some k := fun hu k e e2 => by
  rcases hu k e2 with h1 | h1
  ·exact hMb k e h1
  ·have := hMl k e; omega
 have nearW : ∀ {u : Value}, Near wr (.slice a q c) u → ∀ k, u.ownBlock = some k → (Value.slice a q c).ownBlock = some k ∨ w.heap.size ≤ k := fun hu k e => by
  rcases hu with h1 | h1
  ·exact .inl (h1 ▸ e)
  ·exact .inr (Nat.le_trans hw (h1 k e))
 have kX := nearW nX
 have kY := nearW nY
 have kB : ∀ k, (Value.slice a q c).ownBlock = some k → (Value.slice a q c).ownBlock = some k ∨ w.heap.size ≤ k := fun k e => .inl e
 have put : ∀ {u : Value} {m : Nat} {xs : List Nat}, Own Y 0 u m xs → (∀ k, u.ownBlock = some k → (Value.slice a q c).ownBlock = some k ∨ w.heap.size ≤ k) → Own (w6.setCell ⟨g, 1, none⟩ (.slice a6 (nL + 4) c6)) 0 u m xs := fun {u m xs} ho hu => by
  have o1 : Own w6 0 u m xs := ⟨ho.1, row_same ho.2 (fun k hk => gr.block k (ho.2.lt k hk).2 (fun e => far hu k e.symm hk))⟩
  exact o1.setF (own_boxF o1 bx6)
 have pX := put oX kX
 have pY := put oY kY
 have pB := put oB kB
 have pG := put oG nG
 have r6 : w6.ownsRow 0 34 1 (.slice aR (nL + 4) cR) (nL + 4) (vs ++ [.slice a q c, .slice ax (q + 1) cx, .slice ay (q + 2) cy, .slice a4 (q + 1 + 100) c4]) := row_same r (fun k hk => gr.block k (r.lt k hk).2 (fun e => row_neF r oM hk e.symm))
 have rW : (w6.setCell ⟨g, 1, none⟩ (.slice a6 (nL + 4) c6)).ownsRow 0 34 1 (.slice aR (nL + 4) cR) (nL + 4) (vs ++ [.slice a q c, .slice ax (q + 1) cx, .slice ay (q + 2) cy, .slice a4 (q + 1 + 100) c4]) := row_same r6 (fun k hk => Below.heap_setCell _ _ _ _ (row_boxF r6 bx6 k hk))
 have oW := o6.setF (j := 1) (x := .slice a6 (nL + 4) c6) (own_boxF o6 bx6)
 have bW := box_setF1 bx6 (.slice a6 (nL + 4) c6)
 have fW : Fb w (w6.setCell ⟨g, 1, none⟩ (.slice a6 (nL + 4) c6)) (fun k => k = g ∨ (Value.slice a q c).ownBlock = some k ∨ (Value.slice aL nL cL).ownBlock = some k ∨ (Value.slice aM nL cM).ownBlock = some k) := ((f.mono (fun _ _ e => by rcases e with e | e | e <;> simp [e])).grow gr (fun i e _ => .inr (.inr (.inr e)))).trans (Fb.set1F (.inl rfl) _ _)
 have sW : Y.heap.size ≤ (w6.setCell ⟨g, 1, none⟩ (.slice a6 (nL + 4) c6)).heap.size := by rw [World.size_setCell]; exact gr.size
 generalize w6.setCell ⟨g, 1, none⟩ (.slice a6 (nL + 4) c6) = Wf at *
 have hO : ∀ k, O k → Wf.heap[k]? = w.heap[k]? := fun k hk => fW.block k (h.lo k hk) (by
  rintro (e | e | e | e)
  ·exact h.ng (e ▸ hk)
  ·exact hNb k e (f3 k hk)
  ·exact (h.nL_ k e).1 hk
  ·exact (h.nM k e).1 hk)
 have hml : ms.length = nL := h.own.1.symm
 refine ⟨⟨fun k => O k ∨ (Value.slice a q c).ownBlock = some k ∨ (Value.slice ax (q + 1) cx).ownBlock = some k ∨ (Value.slice ay (q + 2) cy).ownBlock = some k ∨ (Value.slice a4 (q + 1 + 100) c4).ownBlock = some k, aR, nL + 4, cR, a6, c6, N + 4 * q + 200, _, _, ⟨?_, rW, oW, ?_, ?_, ?_, ?_, ?_, ?_, ?_, ?_⟩, ?_, .inl f2, ?_, ?_, ?_⟩, ?_⟩
 ·rw [bW]
  have e : ((N + 4 * q + 200 : Nat) : Int) = (N : Int) + 4 * (q : Int) + 200 := by omega
  rw [e]
 ·rw [List.length_append, h.len]; rfl
 ·intro x hx
  rcases List.mem_append.1 hx with hx | hx
  ·exact h.bys x hx
  ·rw [List.eq_of_mem_replicate hx]; exact hmk
 ·intro i v m h1 h2
  by_cases hi : i < nL
  ·rw [List.getElem?_append_left (by rw [h.len]; exact hi)] at h1
   rw [List.getElem?_append_left (by omega)] at h2
   exact (h.marks i v m h1 h2).keep hO (fun _ x => .inl x)
  ·rw [List.getElem?_append_right (by rw [h.len]; omega), h.len] at h1
   rw [List.getElem?_append_right (by omega), hml] at h2
   obtain ⟨j, hj⟩ : ∃ j, j = i - nL := ⟨_, rfl⟩
   rw [← hj] at h1 h2
   have hj4 : j < 4 := by have := (List.getElem?_eq_some_iff.1 h1).1; simpa using this
   have em : m = mk := by
    rw [List.getElem?_replicate] at h2
    simp [hj4] at h2
    exact h2.symm
   subst em
   match j, hj4 with
   | 0, _ => simp at h1; subst h1; exact MkL.of_own pB (by omega) (fun k e => .inr (.inl e))
   | 1, _ => simp at h1; subst h1; exact MkL.of_own pX (by omega) (fun k e => .inr (.inr (.inl e)))
   | 2, _ => simp at h1; subst h1; exact MkL.of_own pY (by omega) (fun k e => .inr (.inr (.inr (.inl e))))
   | 3, _ => simp at h1; subst h1; exact MkL.of_own pG (by omega) (fun k e => .inr (.inr (.inr (.inr e))))
 ·have := h.few; omega
 ·rintro k (e | e | e | e | e)
  ·exact Nat.lt_of_lt_of_le (h.lo k e) fW.size
  ·exact (pB.2.lt k e).2
  ·exact (pX.2.lt k e).2
  ·exact (pY.2.lt k e).2
  ·exact (pG.2.lt k e).2
 ·rintro (e | e | e | e | e)
  ·exact h.ng e
  ·exact own_boxF pB bW g e rfl
  ·exact own_boxF pX bW g e rfl
  ·exact own_boxF pY bW g e rfl
  ·exact own_boxF pG bW g e rfl
 ·intro k hk
  refine ⟨?_, row_boxF rW bW k hk⟩
  rintro (e | e | e | e | e)
  ·rcases nR with n1 | n1
   ·exact (h.nL_ k (n1 ▸ hk)).1 e
   ·have := n1 k hk; have := h.lo k e; omega
  ·exact row_neF rW pB hk e
  ·exact row_neF rW pX hk e
  ·exact row_neF rW pY hk e
  ·exact row_neF rW pG hk e
 ·intro k hk
  refine ⟨?_, own_boxF oW bW k hk, fun e => row_neF rW oW e hk⟩
  rcases nr with n1 | n1
  ·have e0 : (Value.slice aM nL cM).ownBlock = some k := n1 ▸ hk
   rintro (e | e | e | e | e)
   ·exact (h.nM k e0).1 e
   ·exact hMb k e0 e
   ·exact far kX k e0 e
   ·exact far kY k e0 e
   ·exact far nG k e0 e
  ·have hY := n1 k hk
   rintro (e | e | e | e | e)
   ·have := h.lo k e; omega
   ·have := (oB.2.lt k e).2; omega
   ·have := (oX.2.lt k e).2; omega
   ·have := (oY.2.lt k e).2; omega
   ·have := (oG.2.lt k e).2; omega
 ·rintro k (e | e | e)
  ·exact Nat.lt_of_lt_of_le (f1 k e) fW.size
  ·exact (pB.2.lt k e).2
  ·exact e.2
 ·rintro k (e | e | e | e | e)
  ·exact .inl (f3 k e)
  ·exact .inr (.inl e)
  ·rcases kX k e with e2 | e2
   ·exact .inr (.inl e2)
   ·exact .inr (.inr ⟨e2, (pX.2.lt k e).2⟩)
  ·rcases kY k e with e2 | e2
   ·exact .inr (.inl e2)
   ·exact .inr (.inr ⟨e2, (pY.2.lt k e).2⟩)
  ·rcases nG k e with e2 | e2
   ·exact .inr (.inl e2)
   ·exact .inr (.inr ⟨e2, (pG.2.lt k e).2⟩)
 ·intro k hk
  rcases nR with n1 | n1
  ·exact .inl (f4 k (n1 ▸ hk))
  ·exact .inr (.inr ⟨Nat.le_trans hw (n1 k hk), (rW.lt k hk).2⟩)
 ·intro k hk
  rcases nr with n1 | n1
  ·exact .inl (f5 k (n1 ▸ hk))
  ·exact .inr (.inr ⟨by have := n1 k hk; omega, (oW.2.lt k hk).2⟩)
 ·refine fW.mono (fun k _ e => ?_)
  rcases e with e | e | e | e
  ·exact .inl (e ▸ f2)
  ·exact .inr e
  ·exact .inl (f4 k e)
  ·exact .inl (f5 k e)
end Go.Proofs.YtpabbnddeklpdaaGreat
