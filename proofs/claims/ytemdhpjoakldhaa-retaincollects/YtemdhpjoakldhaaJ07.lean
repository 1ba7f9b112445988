import Derived.Test.YtemdhpjoakldhaaJ05
import Derived.Test.YtemdhpjoakldhaaJ00
import Derived.Deep.RegionHeld3
namespace Go.Proofs.Ytemdhpjoakldhaa
open Go.RowKit
set_option linter.unusedVariables false

/-! ### Trees of entries -/
inductive BT where
  | leaf
  | node (l : BT) (e : EntD) (r : BT)
def BT.ht : BT → Nat
  | .leaf => 0
  | .node l _ r => 1 + max l.ht r.ht
def BT.ord : BT → List EntD
  | .leaf => []
  | .node l e r => l.ord ++ e :: r.ord
def BT.size (t : BT) : Nat := t.ord.length
theorem BT.ht_le : ∀ t : BT, t.ht ≤ t.size
  | .leaf => Nat.le_refl _
  | .node l e r => by
    have h1 := l.ht_le
    have h2 := r.ht_le
    simp only [BT.ht, BT.size, BT.ord, List.length_append, List.length_cons] at *
    omega
/-- What balance makes of two sides and an entry. -/
def balS (l : BT) (e : EntD) (r : BT) : BT :=
  if r.ht + 1 < l.ht then
    match l with
    | .leaf => .node l e r
    | .node ll le lr =>
      if ll.ht < lr.ht then
        match lr with
        | .leaf => .node ll le (.node lr e r)
        | .node ml me mr => .node (.node ll le ml) me (.node mr e r)
      else .node ll le (.node lr e r)
  else if l.ht + 1 < r.ht then
    match r with
    | .leaf => .node l e r
    | .node rl re rr =>
      if rr.ht < rl.ht then
        match rl with
        | .leaf => .node (.node l e rl) re rr
        | .node ml me mr => .node (.node l e ml) me (.node mr re rr)
      else .node (.node l e rl) re rr
  else .node l e r
theorem balS_ord (l : BT) (e : EntD) (r : BT) : (balS l e r).ord = l.ord ++ e :: r.ord := by
  unfold balS
  split
  · split
    · rfl
    · split
      · split <;> simp [BT.ord]
      · simp [BT.ord]
  · split
    · split
      · rfl
      · split
        · split <;> simp [BT.ord]
        · simp [BT.ord]
    · rfl
/-- What hang makes of a tree and an entry. -/
def hangS (x : EntD) : BT → BT
  | .leaf => .node .leaf x .leaf
  | .node l e r => if compareS x e < 0 then balS (hangS x l) e r else balS l e (hangS x r)
theorem hangS_length (x : EntD) : ∀ t : BT, (hangS x t).ord.length = t.ord.length + 1
  | .leaf => rfl
  | .node l e r => by
    unfold hangS
    split
    · rw [balS_ord, List.length_append, hangS_length x l, List.length_cons, BT.ord, List.length_append, List.length_cons]; omega
    · rw [balS_ord, List.length_append, List.length_cons, hangS_length x r, BT.ord, List.length_append, List.length_cons]; omega

/-- In order, each key once. -/
def Srt (l : List EntD) : Prop := l.Pairwise fun a b => compareS a b < 0
theorem cmp_lt_trans {a b c : EntD} (h : compareS a b < 0) (k : compareS b c < 0) : compareS a c < 0 := by
  have := compareS_tri a b c
  unfold Tri at this
  omega
theorem cmp_le_lt {a b c : EntD} (h : 0 ≤ compareS a b) (k : compareS c b < 0) : 0 < compareS a c := by
  have h1 := compareS_tri c b a
  have h2 := compareS_swap a b
  have h3 := compareS_swap a c
  unfold Tri at h1
  omega
/-- Where it is hung: behind all that are not behind it. -/
theorem hangS_ord (x : EntD) : ∀ t : BT, Srt t.ord → ∃ A B, t.ord = A ++ B ∧ (hangS x t).ord = A ++ x :: B ∧ (∀ a ∈ A, 0 ≤ compareS x a) ∧ ∀ b ∈ B, compareS x b < 0
  | .leaf, _ => ⟨[], [], rfl, rfl, by simp, by simp⟩
  | .node l e r, hs => by
    simp only [BT.ord, Srt, List.pairwise_append, List.pairwise_cons, List.mem_cons] at hs
    obtain ⟨hl, ⟨her, hr⟩, hlr⟩ := hs
    unfold hangS
    split
    · rename_i hlt
      obtain ⟨A, B, h1, h2, h3, h4⟩ := hangS_ord x l hl
      refine ⟨A, B ++ e :: r.ord, by simp [BT.ord, h1], by rw [balS_ord, h2]; simp, h3, fun b hb => ?_⟩
      simp only [List.mem_append, List.mem_cons] at hb
      rcases hb with hb | rfl | hb
      · exact h4 b hb
      · exact hlt
      · exact cmp_lt_trans hlt (her b hb)
    · rename_i hge
      obtain ⟨A, B, h1, h2, h3, h4⟩ := hangS_ord x r hr
      refine ⟨l.ord ++ e :: A, B, by simp [BT.ord, h1], by rw [balS_ord, h2]; simp, fun a ha => ?_, h4⟩
      simp only [List.mem_append, List.mem_cons] at ha
      rcases ha with ha | rfl | ha
      · have := cmp_le_lt (Int.not_lt.1 hge) (hlr a ha e (.inl rfl)); omega
      · omega
      · exact h3 a ha
/-- If none is the same it stays in order. -/
theorem srt_ins {x : EntD} {A B : List EntD} (hs : Srt (A ++ B)) (hA : ∀ a ∈ A, 0 < compareS x a) (hB : ∀ b ∈ B, compareS x b < 0) : Srt (A ++ x :: B) := by
  simp only [Srt, List.pairwise_append, List.pairwise_cons, List.mem_cons] at *
  obtain ⟨h1, h2, h3⟩ := hs
  refine ⟨h1, ⟨hB, h2⟩, fun a ha b hb => ?_⟩
  rcases hb with rfl | hb
  · have := compareS_swap a b; have := hA a ha; omega
  · exact h3 a ha b hb

/-! ### Where they lie -/
/-- What lies in blocks of G is kept. -/
structure KpG (G : Nat → Prop) (w w' : World) : Prop where
  size : w.heap.size ≤ w'.heap.size
  block : ∀ i, i < w.heap.size → G i → w'.heap[i]? = w.heap[i]?
theorem KpG.refl (G : Nat → Prop) (w : World) : KpG G w w := ⟨Nat.le_refl _, fun _ _ _ => rfl⟩
theorem KpG.trans {G : Nat → Prop} {a b c : World} (h : KpG G a b) (k : KpG G b c) : KpG G a c := ⟨Nat.le_trans h.size k.size, fun i hi hg => (k.block i (Nat.lt_of_lt_of_le hi h.size) hg).trans (h.block i hi hg)⟩
theorem KpG.of {G : Nat → Prop} {w w' : World} (h : Below w.heap.size w w') : KpG G w w' := ⟨h.size, fun i hi _ => h.block i hi⟩
theorem KpG.mono {G G' : Nat → Prop} {w w' : World} (h : KpG G w w') (hg : ∀ i, G' i → G i) : KpG G' w w' := ⟨h.size, fun i hi k => h.block i hi (hg i k)⟩
theorem KpG.of_apart {G : Nat → Prop} {t : Nat} {w w' : World} (h : Apart t w w') (ht : ¬ G t) : KpG G w w' := ⟨h.size, fun i hi hg => h.block i hi (fun e => ht (e ▸ hg))⟩
/-- It reads as bytes, in blocks of G. -/
def RdG (G : Nat → Prop) (w : World) (v : Value) (bs : List Nat) : Prop := Rd w v bs ∧ ∀ b off m c, v = .slice (some ⟨b, off, none⟩) m c → 0 < m → G b ∧ ∃ cur fr, w.heap[b]? = some (.cells cur 5 fr)
theorem RdG.kept {G : Nat → Prop} {w w' : World} {v : Value} {bs : List Nat} (h : RdG G w v bs) (hk : KpG G w w') : RdG G w' v bs := by
  obtain ⟨⟨h1, a, cap, rfl, h3, h4, h5, h6, h7⟩, hg⟩ := h
  refine ⟨⟨h1, a, cap, rfl, h3, h4, h5, h6, ?_⟩, fun b off m c e hm => ?_⟩
  · rcases h7 with h7 | ⟨b, off, rfl, hc⟩
    · exact .inl h7
    · by_cases h0 : bs = []
      · exact .inl h0
      · refine .inr ⟨b, off, rfl, fun i hi => ?_⟩
        rw [World.cell?_of_block (w := w) (a := ⟨b, off + i, none⟩) (hk.block b (World.block_lt_of_cell? w _ (hc i hi)) (hg b off _ _ rfl (by omega)).1)]
        exact hc i hi
  · obtain ⟨h8, cur, fr, h9⟩ := hg b off m c e hm
    exact ⟨h8, cur, fr, (hk.block b (Array.getElem?_eq_some_iff.1 h9).1 h8).trans h9⟩
theorem RdG.mono {G G' : Nat → Prop} {w : World} {v : Value} {bs : List Nat} (h : RdG G w v bs) (hg : ∀ i, G i → G' i) : RdG G' w v bs := ⟨h.1, fun b off m c e hm => ⟨hg b (h.2 b off m c e hm).1, (h.2 b off m c e hm).2⟩⟩
theorem RdG.of_own {G : Nat → Prop} {w : World} {B : Nat} {v : Value} {m : Nat} {bs : List Nat} (h : Own w B v m bs) (hb : Bys bs) (hl : m ≤ 281474976710656) (hG : ∀ i, B ≤ i → G i) : RdG G w v bs := by
  refine ⟨h.rd hb hl, fun b off k c e hk => ?_⟩
  rcases h.2.2 with ⟨rfl, rfl⟩ | ⟨g, cap, cur, rfl, hB, hcur, _⟩
  · cases e
  · cases e; exact ⟨hG _ hB, cur, _, hcur⟩
/-- Blocks of bytes are kept. -/
def KU (w w' : World) : Prop := ∀ (i : Nat) (cur : Array Value) (fr : Nat × Nat), w.heap[i]? = some (.cells cur 5 fr) → w'.heap[i]? = some (.cells cur 5 fr)
theorem KU.trans {a b c : World} (h : KU a b) (k : KU b c) : KU a c := fun i cur fr hi => k i cur fr (h i cur fr hi)
theorem KU.of {w w' : World} (h : Below w.heap.size w w') : KU w w' := fun i cur fr hi => (h.block i (Array.getElem?_eq_some_iff.1 hi).1).trans hi
theorem KU.set {w : World} {b : Nat} {cs : Array Value} {t : TypeId} {fr : Nat × Nat} (hb : w.heap[b]? = some (.cells cs t fr)) (ht : t ≠ 5) (i : Nat) (v : Value) : KU w (w.setCell ⟨b, i, none⟩ v) := fun j cur fr' hj =>
  (Below.heap_setCell w ⟨b, i, none⟩ v j (fun e => by subst e; rw [hb] at hj; cases hj; exact ht rfl)).trans hj
theorem KU.grown {w w' : World} {row : Option Nat} (hg : w.grownBy w' row) (hr : ∀ r, row = some r → ∃ cs t fr, w.heap[r]? = some (.cells cs t fr) ∧ t ≠ 5) : KU w w' := fun j cur fr hj =>
  (hg.block j (Array.getElem?_eq_some_iff.1 hj).1 (fun e => by
    obtain ⟨cs, t, fr', h1, h2⟩ := hr j e.symm
    rw [h1] at hj; cases hj; exact h2 rfl)).trans hj
theorem RdG.ku {G : Nat → Prop} {w w' : World} {v : Value} {bs : List Nat} (h : RdG G w v bs) (hk : KU w w') : RdG G w' v bs := by
  obtain ⟨⟨h1, a, cap, rfl, h3, h4, h5, h6, h7⟩, hg⟩ := h
  refine ⟨⟨h1, a, cap, rfl, h3, h4, h5, h6, ?_⟩, fun b off m c e hm => ?_⟩
  · rcases h7 with h7 | ⟨b, off, rfl, hc⟩
    · exact .inl h7
    · by_cases h0 : bs = []
      · exact .inl h0
      · refine .inr ⟨b, off, rfl, fun i hi => ?_⟩
        obtain ⟨_, cur, fr, h9⟩ := hg b off _ _ rfl (by omega)
        rw [World.cell?_of_block (w := w) (a := ⟨b, off + i, none⟩) ((hk b cur fr h9).trans h9.symm)]
        exact hc i hi
  · obtain ⟨h8, cur, fr, h9⟩ := hg b off m c e hm
    exact ⟨h8, cur, fr, hk b cur fr h9⟩
def EOk (G : Nat → Prop) (w : World) (e : EntD) : Prop := RdG G w e.vr e.row ∧ RdG G w e.vq e.qual ∧ RdG G w e.vv e.val
theorem EOk.ok {G : Nat → Prop} {w : World} {e : EntD} (h : EOk G w e) : EntD.Ok w e := ⟨h.1.1, h.2.1.1, h.2.2.1⟩
theorem EOk.kept {G : Nat → Prop} {w w' : World} {e : EntD} (h : EOk G w e) (hk : KpG G w w') : EOk G w' e := ⟨h.1.kept hk, h.2.1.kept hk, h.2.2.kept hk⟩
theorem EOk.ku {G : Nat → Prop} {w w' : World} {e : EntD} (h : EOk G w e) (hk : KU w w') : EOk G w' e := ⟨h.1.ku hk, h.2.1.ku hk, h.2.2.ku hk⟩
theorem EOk.mono {G G' : Nat → Prop} {w : World} {e : EntD} (h : EOk G w e) (hg : ∀ i, G i → G' i) : EOk G' w e := ⟨h.1.mono hg, h.2.1.mono hg, h.2.2.mono hg⟩

/-- A node's cells. -/
def nodeC (e : EntD) (l r : Option Addr) (h : Nat) : Array Value := #[e.vr, .int .i64 e.fam, e.vq, .int .i64 e.ts, .int .i64 e.seq, .int .i64 e.kind, e.vv, .pointer l, .pointer r, .int .i64 (h : Int)]
end Go.Proofs.Ytemdhpjoakldhaa

namespace Go.Proofs.Ytemdhpjoakldhaa
open Go.RowKit
set_option linter.unusedVariables false

section
variable {P : Program} {ops : Array Oper} {Q : Exit → Act → World → Prop} {md : Region.Mode} {S : World → Prop} {E : Nat → Bool}

/-- Whatever order is picked, and S is owed behind the operations of E alone (not behind those that come late). -/
def AnyE (P : Program) (md : Region.Mode) (ops : Array Oper) (Q : Exit → Act → World → Prop) (S : World → Prop) (E : Nat → Bool) : Nat → Array Bool → Act → World → Prop
  | 0, listed, a, w => Region.ready md ops listed = [] ∧ Q .normal a w
  | fuel + 1, listed, a, w => (Region.ready md ops listed = [] → Q .normal a w) ∧
    ∀ i ∈ Region.ready md ops listed, wpOp P ops Q i (fun a' w' => (E i = true → S w') ∧ AnyE P md ops Q S E fuel (listed.setIfInBounds i true) a' w') a w
theorem AnyE.any : ∀ (fuel : Nat) (listed : Array Bool) (a : Act) (w : World), AnyE P md ops Q S E fuel listed a w → wpAny P md ops Q fuel listed a w
  | 0, _, _, _, h => h
  | fuel + 1, _, _, _, h => ⟨h.1, fun i hi => wpOp_mono (fun a' w' k => AnyE.any fuel _ a' w' k.2) (h.2 i hi)⟩
theorem wp_region_anyE {id : Nat} {a : Act} {w : World} (hm : P.follows .mixedOrders = true) (h : AnyE P .any ops Q S E ops.size (Array.replicate ops.size false) a w.drew) : (Code.region id ops true).wp P Q a w := wp_region_any hm (AnyE.any _ _ _ _ h)
/-- Every operation that has not come and does not wait for i is one of E. -/
def eFree (md : Region.Mode) (ops : Array Oper) (listed : Array Bool) (i : Nat) (E : Nat → Bool) : Bool :=
  (List.range ops.size).all fun j => j == i || listed.getD j true || E j || (match ops[j]? with
    | none => true
    | some oj => oj.after.any fun e => Region.binds md e && e.on == i)
theorem eFree_spec {i : Nat} {listed : Array Bool} (h : eFree md ops listed i E = true) (j : Nat) (oj : Oper) (hj : ops[j]? = some oj) (hne : j ≠ i) (hun : listed.getD j true = false) (hno : ∀ e ∈ oj.after, Region.binds md e = true → e.on ≠ i) : E j = true := by
  have hlt : j < ops.size := (Array.getElem?_eq_some_iff.1 hj).1
  have := List.all_eq_true.1 h j (List.mem_range.2 hlt)
  simp only [hj, Bool.or_eq_true, beq_iff_eq, hne, hun, false_or] at this
  rcases this with (h1 | h1) | h1
  · cases h1
  · exact h1
  · obtain ⟨k, hk, he⟩ := Array.any_eq_true.1 h1
    simp only [Bool.and_eq_true, beq_iff_eq] at he
    exact absurd he.2 (hno _ (Array.getElem_mem hk) he.1)
theorem AnyE.first {i : Nat} {oi : Oper} {v : Value} (hi : ops[i]? = some oi) (hs : Region.noSelect ops = true) (hQ : ∀ c a w, Q (.panic c) (a.put oi.dst v) w → Q (.panic c) a w) : ∀ (fuel : Nat) (listed : Array Bool) (a : Act) (w : World),
    (∀ j oj, ops[j]? = some oj → j ≠ i → listed.getD j true = false → (∀ e ∈ oj.after, Region.binds md e = true → e.on ≠ i) → oi.apart ops oj = true ∧ E j = true) →
    i ∈ Region.ready md ops listed → YieldsIf P ops S oi v a → S w → AnyE P md ops Q S E fuel (listed.setIfInBounds i true) (a.put oi.dst v) w → AnyE P md ops Q S E (fuel + 1) listed a w := by
  intro fuel
  have sel := Region.noSelect_spec hs
  induction fuel with
  | zero =>
    intro listed a w _ hr hy hS H
    refine ⟨fun h => (by rw [h] at hr; cases hr), fun j hj => ?_⟩
    rcases Decidable.em (j = i) with rfl | hne
    · exact hy.wpOp hi hS ⟨fun _ => hS, H⟩
    · have k := ready_mono hj hne
      rw [H.1] at k; cases k
  | succ fuel ih =>
    intro listed a w hf hr hy hS H
    refine ⟨fun h => (by rw [h] at hr; cases hr), fun j hj => ?_⟩
    rcases Decidable.em (j = i) with rfl | hne
    · exact hy.wpOp hi hS ⟨fun _ => hS, H⟩
    · obtain ⟨hun, oj, hoj, hall⟩ := mem_ready.1 hj
      have hno : ∀ e ∈ oj.after, Region.binds md e = true → e.on ≠ i := fun e he hb heq => by
        have k1 := hall e he hb
        have k0 := (mem_ready.1 hr).1
        rw [heq] at k1
        by_cases hlt : i < listed.size
        · simp [hlt] at k0 k1; rw [k0] at k1; cases k1
        · simp [Array.getElem?_eq_none (Nat.le_of_not_lt hlt)] at k1
      obtain ⟨hap, hEj⟩ := hf j oj hoj hne hun hno
      refine wpOp_mono (fun a' w' h3 => ⟨h3.2.1, ?_⟩) (wpOp_putIf hoj hap (fun cs b => sel i oi cs b hi) (fun cs b => sel j oj cs b hoj) hQ hy (H.2 j (ready_mono hj hne)))
      refine ih (listed.setIfInBounds j true) a' w' (fun k ok hk hki hun' hno' => hf k ok hk hki ?_ hno') (ready_mono hr (Ne.symm hne)) h3.1 (h3.2.1 hEj) ?_
      · rcases Decidable.em (j = k) with rfl | e
        · exact hun
        · rwa [getD_set_ne true e] at hun'
      · rw [Array.setIfInBounds_comm _ _ hne]; exact h3.2.2
/-- Number i first. -/
theorem AnyE.take {i : Nat} {oi : Oper} {fuel : Nat} {listed : Array Bool} {a : Act} {w : World} (v : Value) (hi : ops[i]? = some oi) (hs : Region.noSelect ops = true) (hf : Region.free md ops listed i = true) (he : eFree md ops listed i E = true) (hr : (Region.ready md ops listed).contains i = true)
    (hQ : ∀ c a w, Q (.panic c) (a.put oi.dst v) w → Q (.panic c) a w) (hy : YieldsIf P ops S oi v a) (hS : S w) (h : AnyE P md ops Q S E fuel (listed.setIfInBounds i true) (a.put oi.dst v) w) : AnyE P md ops Q S E (fuel + 1) listed a w :=
  AnyE.first hi hs hQ fuel listed a w (fun j oj hj hne hun hno => ⟨Region.free_spec hi hf j oj hj hne hun hno, eFree_spec he j oj hj hne hun hno⟩) (by simpa using hr) hy hS h
/-- The one that may come. -/
theorem AnyE.one {i : Nat} {o : Oper} {fuel : Nat} {listed : Array Bool} {a : Act} {w : World} (ho : ops[i]? = some o) (hr : Region.ready md ops listed = [i]) (hw : Region.wanted o (yielded ops a.tmps) = true)
    (h : ∀ K : Act → World → Prop, Hid (∀ a' w', ((E i = true → S w') ∧ AnyE P md ops Q S E fuel (listed.setIfInBounds i true) a' w') → K a' w') → Oper.wp P o a w K Q) : AnyE P md ops Q S E (fuel + 1) listed a w :=
  ⟨fun k => (by rw [hr] at k; cases k), fun j hj => by
    rw [hr] at hj
    obtain rfl : j = i := by simpa using hj
    exact wpOp_step ho (fun K' hK => by rw [if_pos hw]; exact h K' hK)⟩
theorem AnyE.done {listed : Array Bool} {a : Act} {w : World} (hr : Region.ready md ops listed = []) (h : Q .normal a w) : ∀ fuel, AnyE P md ops Q S E fuel listed a w
  | 0 => ⟨hr, h⟩
  | _ + 1 => ⟨fun _ => h, by rw [hr]; simp⟩
end
end Go.Proofs.Ytemdhpjoakldhaa
