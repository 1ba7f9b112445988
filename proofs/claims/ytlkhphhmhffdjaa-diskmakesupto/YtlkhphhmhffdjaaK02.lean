import Derived.Test.YtlkhphhmhffdjaaK01
import Derived.Maps.AppendAt
import Derived.Laws.AppendOwnNone
import Derived.Deep.CutBlock
import Derived.Laws.IdiomRangeMap
set_option linter.unusedSimpArgs false
set_option linter.unusedVariables false
namespace Go.Proofs.Ytlkhphhmhffdjaa
open Go.RowKit Go.MapKept

abbrev PF := ByteArray × List Nat × Nat
def FE.pf (f : FE) : PF := (f.nm, f.dat, f.syn)
def FE.nb (f : FE) : ByteArray × Nat := (f.nm, f.b)
def setF : List FE → FE → List FE
 | [], f => [f]
 | x :: xs, f => if x.nm = f.nm then f :: xs else x :: setF xs f
def delF : List FE → ByteArray → List FE
 | [], _ => []
 | x :: xs, s => if x.nm = s then xs else x :: delF xs s
def setP : List PF → PF → List PF
 | [], f => [f]
 | x :: xs, f => if x.1 = f.1 then f :: xs else x :: setP xs f
def delP : List PF → ByteArray → List PF
 | [], _ => []
 | x :: xs, s => if x.1 = s then xs else x :: delP xs s
def atP : List PF → ByteArray → Option (List Nat × Nat)
 | [], _ => none
 | x :: xs, s => if x.1 = s then some x.2 else atP xs s
def atF : List FE → ByteArray → Option FE
 | [], _ => none
 | x :: xs, s => if x.nm = s then some x else atF xs s
theorem setF_nb (f : FE) : ∀ l : List FE, (setF l f).map FE.nb = setN (l.map FE.nb) f.nm f.b
 | [] => rfl
 | x :: xs => by
  by_cases h : x.nm = f.nm
  ·simp [setF, setN, h, FE.nb]
  ·simp [setF, setN, h, FE.nb]
   simpa [FE.nb] using setF_nb f xs
theorem setF_pf (f : FE) : ∀ l : List FE, (setF l f).map FE.pf = setP (l.map FE.pf) f.pf
 | [] => rfl
 | x :: xs => by
  by_cases h : x.nm = f.nm
  ·simp [setF, setP, h, FE.pf]
  ·simp [setF, setP, h, FE.pf]
   simpa [FE.pf] using setF_pf f xs
theorem delF_nb (s : ByteArray) : ∀ l : List FE, (delF l s).map FE.nb = delN (l.map FE.nb) s
 | [] => rfl
 | x :: xs => by
  by_cases h : x.nm = s
  ·simp [delF, delN, h, FE.nb]
  ·simp [delF, delN, h, FE.nb]
   simpa [FE.nb] using delF_nb s xs
theorem delF_pf (s : ByteArray) : ∀ l : List FE, (delF l s).map FE.pf = delP (l.map FE.pf) s
 | [] => rfl
 | x :: xs => by
  by_cases h : x.nm = s
  ·simp [delF, delP, h, FE.pf]
  ·simp [delF, delP, h, FE.pf]
   simpa [FE.pf] using delF_pf s xs
theorem atF_nb (s : ByteArray) : ∀ l : List FE, atN (l.map FE.nb) s = (atF l s).map (·.b)
 | [] => rfl
 | x :: xs => by
  by_cases h : x.nm = s
  ·simp [atF, atN, h, FE.nb]
  ·simp [atF, atN, h, FE.nb]
   simpa [FE.nb] using atF_nb s xs
theorem atF_pf (s : ByteArray) : ∀ l : List FE, atP (l.map FE.pf) s = (atF l s).map (fun f => (f.dat, f.syn))
 | [] => rfl
 | x :: xs => by
  by_cases h : x.nm = s
  ·simp [atF, atP, h, FE.pf]
  ·simp [atF, atP, h, FE.pf]
   simpa [FE.pf] using atF_pf s xs
theorem atF_mem {s : ByteArray} {f : FE} : ∀ {l : List FE}, atF l s = some f → f ∈ l ∧ f.nm = s
 | x :: xs, h => by
  by_cases e : x.nm = s
  ·rw [atF, if_pos e] at h
   cases h
   exact ⟨by simp, e⟩
  ·rw [atF, if_neg e] at h
   have := atF_mem h
   exact ⟨by simp [this.1], this.2⟩
theorem setF_mem {f x : FE} : ∀ {l : List FE}, (l.map FE.nm).Nodup → x ∈ setF l f → x = f ∨ (x ∈ l ∧ x.nm ≠ f.nm)
 | [], _, h => by simp [setF] at h; exact .inl h
 | y :: l, hn, h => by
  rw [List.map_cons, List.nodup_cons] at hn
  by_cases e : y.nm = f.nm
  ·rw [setF, if_pos e] at h
   rcases List.mem_cons.1 h with h | h
   ·exact .inl h
   ·exact .inr ⟨by simp [h], fun e2 => hn.1 (by rw [e, ← e2]; exact List.mem_map.2 ⟨_, h, rfl⟩)⟩
  ·rw [setF, if_neg e] at h
   rcases List.mem_cons.1 h with rfl | h
   ·exact .inr ⟨by simp, e⟩
   ·rcases setF_mem hn.2 h with h | h
    ·exact .inl h
    ·exact .inr ⟨by simp [h.1], h.2⟩
theorem setF_pair {R : FE → FE → Prop} {f : FE} : ∀ {l : List FE}, (l.map FE.nm).Nodup → l.Pairwise R → (∀ x ∈ l, x.nm ≠ f.nm → R x f ∧ R f x) → (setF l f).Pairwise R
 | [], _, _, _ => by simp [setF]
 | y :: l, hn, hp, hx => by
  rw [List.map_cons, List.nodup_cons] at hn
  rw [List.pairwise_cons] at hp
  by_cases e : y.nm = f.nm
  ·rw [setF, if_pos e, List.pairwise_cons]
   refine ⟨fun x h => (hx x (by simp [h]) (fun e2 => hn.1 (by rw [e, ← e2]; exact List.mem_map.2 ⟨_, h, rfl⟩))).2, hp.2⟩
  ·rw [setF, if_neg e, List.pairwise_cons]
   refine ⟨fun x h => ?_, setF_pair hn.2 hp.2 (fun x h => hx x (by simp [h]))⟩
   rcases setF_mem hn.2 h with rfl | h
   ·exact (hx y (by simp) e).1
   ·exact hp.1 x h.1
theorem delF_sub (s : ByteArray) : ∀ l : List FE, (delF l s).Sublist l
 | [] => List.Sublist.refl _
 | x :: xs => by
  by_cases h : x.nm = s
  ·rw [delF, if_pos h]; exact List.sublist_cons_self _ _
  ·rw [delF, if_neg h]; exact (delF_sub s xs).cons_cons _
theorem delF_ne {s : ByteArray} {x : FE} : ∀ {l : List FE}, (l.map FE.nm).Nodup → x ∈ delF l s → x.nm ≠ s
 | [], _, h => by cases h
 | y :: l, hn, h => by
  rw [List.map_cons, List.nodup_cons] at hn
  by_cases e : y.nm = s
  ·rw [delF, if_pos e] at h
   exact fun e2 => hn.1 (by rw [e, ← e2]; exact List.mem_map.2 ⟨_, h, rfl⟩)
  ·rw [delF, if_neg e] at h
   rcases List.mem_cons.1 h with rfl | h
   ·exact e
   ·exact delF_ne hn.2 h
variable {w w' : World} {O O' : Nat → Prop} {dB mb : Nat} {fl : List FE} {cap arm cap' arm' : Int} {down down' : Bool} {c c' : Nat → Int}
theorem DskM.names (h : DskM w O dB mb fl cap arm down c) : (fl.map FE.nm).Nodup := by
 obtain ⟨es, clock, hm⟩ := h.map
 have := hm.nodup
 rw [List.map_map] at this
 exact this
theorem DskM.putF (h : DskM w O dB mb fl cap arm down c) {f : FE} {es : Array MapEntry} {clock : Nat} (hm : MpB w' mb (setN (fl.map FE.nb) f.nm f.b) es clock) (hbx : DkBox w' dB mb cap' arm' down' c')
  (keep : ∀ g ∈ fl, g.nm ≠ f.nm → w'.heap[g.b]? = w.heap[g.b]? ∧ ∀ k, g.v.ownBlock = some k → w'.heap[k]? = w.heap[k]?) (hf : FBox w' f.b f.v f.syn ∧ OwnO w' O' f.v f.dat ∧ O' f.b) (hO : ∀ i, O i → O' i)
  (apart : ∀ g ∈ fl, g.nm ≠ f.nm → g.b ≠ f.b ∧ ∀ k, g.v.ownBlock = some k → f.v.ownBlock ≠ some k) (lt' : ∀ i, O' i → i < w'.heap.size) : DskM w' O' dB mb (setF fl f) cap' arm' down' c' := by
 have hn := h.names
 refine ⟨hbx, ⟨es, clock, ?_⟩, fun g hg => ?_, ?_, ?_, hO _ h.odb, hO _ h.omb, lt'⟩
 ·have := setF_nb f fl
  unfold FE.nb at this hm
  rw [this]
  exact hm
 ·rcases setF_mem hn hg with rfl | hg
  ·exact hf
  ·have k := keep g hg.1 hg.2
   have o := h.fil g hg.1
   exact ⟨o.1.kept k.1, o.2.1.kept (fun i hi => ⟨k.2 i hi, hO _ (o.2.1.blk i hi)⟩), hO _ o.2.2⟩
 ·have p := h.nob
  rw [List.Nodup, List.pairwise_map] at p ⊢
  exact setF_pair hn p (fun x hx hne => ⟨(apart x hx hne).1, Ne.symm (apart x hx hne).1⟩)
 ·exact setF_pair hn h.nod (fun x hx hne => ⟨(apart x hx hne).2, fun k hk hk2 => (apart x hx hne).2 k hk2 hk⟩)
theorem DskM.dropF (h : DskM w O dB mb fl cap arm down c) {s : ByteArray} {es : Array MapEntry} {clock : Nat} (hm : MpB w' mb (delN (fl.map FE.nb) s) es clock) (k : ∀ i, i ≠ mb → w'.heap[i]? = w.heap[i]?) (hs : w.heap.size ≤ w'.heap.size) : DskM w' O dB mb (delF fl s) cap arm down c := by
 refine ⟨h.box.kept (k _ (Ne.symm h.neMap)), ⟨es, clock, ?_⟩, fun g hg => ?_, ?_, h.nod.sublist (delF_sub s fl), h.odb, h.omb, fun i hi => Nat.lt_of_lt_of_le (h.lt i hi) hs⟩
 ·have := delF_nb s fl
  unfold FE.nb at this hm
  rw [this]
  exact hm
 ·have hg := (delF_sub s fl).mem hg
  have o := h.fil g hg
  exact ⟨o.1.kept (k _ (h.neFil hg).2), o.2.1.kept (fun i hi => ⟨k _ (h.neDat hg hi).2.1, o.2.1.blk i hi⟩), o.2.2⟩
 ·have p := h.nob
  rw [List.Nodup, List.pairwise_map] at p ⊢
  exact p.sublist (delF_sub s fl)
theorem DskM.other (h : DskM w O dB mb fl cap arm down c) {f g : FE} (hf : f ∈ fl) (hg : g ∈ fl) (hne : g.nm ≠ f.nm) : g.b ≠ f.b ∧ ∀ k, g.v.ownBlock = some k → f.v.ownBlock ≠ some k := by
 have key : ∀ l : List FE, (l.map (·.b)).Nodup → l.Pairwise (fun f g => ∀ k, f.v.ownBlock = some k → g.v.ownBlock ≠ some k) → f ∈ l → g ∈ l → g.b ≠ f.b ∧ ∀ k, g.v.ownBlock = some k → f.v.ownBlock ≠ some k := by
  intro l
  induction l with
  | nil => intro _ _ h; cases h
  | cons x xs ih =>
   intro a b h1 h2
   rw [List.map_cons, List.nodup_cons] at a
   rw [List.pairwise_cons] at b
   rcases List.mem_cons.1 h1 with q1 | q1
   ·rcases List.mem_cons.1 h2 with q2 | q2
    ·exact absurd (by rw [q1, q2]) hne
    ·rw [q1]
     exact ⟨fun e => a.1 (List.mem_map.2 ⟨_, q2, e⟩), fun k hk hk2 => b.1 _ q2 k hk2 hk⟩
   ·rcases List.mem_cons.1 h2 with q2 | q2
    ·rw [q2]
     exact ⟨fun e => a.1 (List.mem_map.2 ⟨_, q1, e.symm⟩), fun k hk => b.1 _ q1 k hk⟩
    ·exact ih a.2 b.2 q1 q2
 exact key fl h.nob h.nod hf hg
theorem setN_same : ∀ {l : List (ByteArray × Nat)} {s : ByteArray} {b : Nat}, atN l s = some b → setN l s b = l
 | x :: xs, s, b, h => by
  by_cases e : x.1 = s
  ·rw [atN, if_pos e] at h
   rw [setN, if_pos e]
   cases h
   rw [← e]
  ·rw [atN, if_neg e] at h
   rw [setN, if_neg e, setN_same h]
end Go.Proofs.Ytlkhphhmhffdjaa

namespace Go.Proofs.Ytlkhphhmhffdjaa
open Go.RowKit Go.MapKept
theorem dapp_run {w : World} {B n : Nat} {v src : Value} {xs bs : List Nat} (ty : TypeId) (hown : Own w B v n xs) (hrd : Rd w src bs) (hbytes : n + bs.length ≤ 140737488355328) (hB : B ≤ w.heap.size) :
  ∃ v' w', (Builtin.append_ #[27, 27] ty #[v, src]).run Try.prog w = .ok v' w' ∧ Own w' B v' (n + bs.length) (xs ++ bs) ∧ w.grownBy w' v.ownBlock ∧ (∀ k, v'.ownBlock = some k → v.ownBlock = some k ∨ k = w.heap.size) := by
 obtain ⟨i0, hi, hz0, hz1, hz2⟩ := info_parts info_byte
 obtain ⟨hby, a1, c1, rfl, hle, hm, hl48, hnone, hat⟩ := hrd
 cases a1 with
 | none =>
  have hb0 : bs = [] ∧ c1 = 0 := by
   rcases hnone with h | ⟨b, off, h⟩
   ·exact ⟨List.eq_nil_of_length_eq_zero (by omega), h⟩
   ·cases h
  obtain ⟨rfl, rfl⟩ := hb0
  exact ⟨v, w, run_append_owned_none (P := Try.prog) (w := w) B 27 ty 5 i0 1 und_bytes hi v n (bv xs) hown.2, by simpa using hown, World.grownBy.refl _ _, fun k hk => .inl hk⟩
 | some ad =>
  obtain ⟨v', w', hr, h2, h3, h4, h5⟩ := run_append_own_at (P := Try.prog) w B 27 ty 5 i0 (.int .u8 0) 1 1 und_bytes hi hz0 hz1 hz2 rfl (by decide) v n (bv xs) hown.2 ad bs.length c1 (bv bs) (by simp [bv]) hat.add (bv_oneCell bs) (by unfold maxLen; omega) (by omega) hB
  refine ⟨v', w', hr, ⟨by rw [hown.1]; simp, by simpa [bv] using h2⟩, h3, fun k hk => ?_⟩
  rcases h5 with h5 | h5
  ·rw [h5] at hk; exact .inl hk
  ·rw [h5] at hk; cases hk; exact .inr rfl
theorem dstep_append {w : World} {o : Oper} {a : Act} {K : Act → World → Prop} {Q : Exit → Act → World → Prop} (s x : Operand)
  (ho : o.op = .call { callee := .builtin .append, args := #[s, x], argTypes := #[27, 27] })
  {B n : Nat} {v src : Value} {xs bs : List Nat} (hs : a.eval s = v) (hown : Own w B v n xs) (hx : a.eval x = src) (hrd : Rd w src bs) (hbytes : n + bs.length ≤ 140737488355328) (hB : B ≤ w.heap.size)
  (h : ∀ a' c' w', Own w' B (.slice a' (n + bs.length) c') (n + bs.length) (xs ++ bs) → w.grownBy w' v.ownBlock → (∀ k, (Value.slice a' (n + bs.length) c').ownBlock = some k → v.ownBlock = some k ∨ k = w.heap.size) → K (a.put o.dst (.slice a' (n + bs.length) c')) w') :
  Oper.wp Try.prog o a w K Q := by
 obtain ⟨v', w', hrn, h1, h2, h3⟩ := dapp_run o.type hown hrd hbytes hB
 obtain ⟨a', c', rfl⟩ := own_form h1.2
 unfold Oper.wp execOp
 rw [ho]
 simp only [resolve, invoke, builtin, Sem.run_bind, Sem.run_pure, Result.andThen_ok, List.map_toArray, List.map_cons, List.map_nil, hs, hx, hrn]
 exact h a' c' w' h1 h2 h3
variable {w w' W : World} {O O' : Nat → Prop} {dB mb : Nat} {fl : List FE} {cap arm : Int} {down : Bool} {c : Nat → Int}
theorem DskM.inF (h : DskM w O dB mb fl cap arm down c) {f f' : FE} (hf : atF fl f'.nm = some f) (hb : f'.b = f.b) (hbx : FBox w' f'.b f'.v f'.syn) (ho : OwnO w' O' f'.v f'.dat) (hO : ∀ i, O i → O' i)
  (k : ∀ i, O i → i ≠ f.b → f.v.ownBlock ≠ some i → w'.heap[i]? = w.heap[i]?) (hv : ∀ i, f'.v.ownBlock = some i → f.v.ownBlock = some i ∨ ¬ O i) (lt' : ∀ i, O' i → i < w'.heap.size) : DskM w' O' dB mb (setF fl f') cap arm down c := by
 obtain ⟨es, clock, hm⟩ := h.map
 obtain ⟨hm1, hm2⟩ := atF_mem hf
 have hk : ∀ i, O i → i ≠ f.b → f.v.ownBlock ≠ some i → w'.heap[i]? = w.heap[i]? := k
 refine h.putF (es := es) (clock := clock) ?_ (h.box.kept (k _ h.odb (Ne.symm (h.neFil hm1).1) (fun e => (h.neDat hm1 e).1 rfl))) (fun g hg hne => ?_) ⟨hbx, ho, hb ▸ hO _ (h.fil f hm1).2.2⟩ hO (fun g hg hne => ?_) lt'
 ·have e : setN (fl.map FE.nb) f'.nm f'.b = fl.map FE.nb := setN_same (by rw [atF_nb, hf, hb]; rfl)
  rw [e]
  exact hm.kept (k _ h.omb (Ne.symm (h.neFil hm1).2) (fun e => (h.neDat hm1 e).2.1 rfl))
 ·have hne2 : g.nm ≠ f.nm := by rw [hm2]; exact hne
  have := h.other hm1 hg hne2
  refine ⟨k _ (h.fil g hg).2.2 this.1 (fun e => (h.neDat hm1 e).2.2 g hg rfl), fun i hi => k _ ((h.fil g hg).2.1.blk i hi) (fun e => (h.neDat hg hi).2.2 f hm1 e) (fun e => this.2 i hi e)⟩
 ·have hne2 : g.nm ≠ f.nm := by rw [hm2]; exact hne
  have := h.other hm1 hg hne2
  refine ⟨by rw [hb]; exact this.1, fun i hi e => ?_⟩
  rcases hv i e with q | q
  ·exact this.2 i hi q
  ·exact q ((h.fil g hg).2.1.blk i hi)
theorem FBox.setSyn {b syn : Nat} {v : Value} (h : FBox w b v syn) (x : Nat) : FBox (w.setCell ⟨b, 1, none⟩ (.int .i64 (x : Int))) b v x := by
 unfold FBox at h ⊢
 rw [heap_setCell_same w b 1 _ _ _ h]
 simp
theorem FBox.setV {b syn : Nat} {v : Value} (h : FBox w b v syn) (x : Value) : FBox (w.setCell ⟨b, 0, none⟩ x) b x syn := by
 unfold FBox at h ⊢
 rw [heap_setCell_same w b 0 _ _ _ h]
 simp
theorem FBox.new (w : World) (v : Value) (x : Nat) : FBox (w.alloc (.cells #[v, .int .i64 (x : Int)] 81)) w.heap.size v x := by
 unfold FBox
 show (w.heap.push _)[w.heap.size]? = _
 simp
theorem hold_dsk {f : FE} (hD : DskM W O dB mb fl cap arm down c) (hbx : FBox W f.b f.v f.syn) (ho : OwnO W O' f.v f.dat) (hfo : O' f.b) (hO : ∀ i, O i → O' i) (lt' : ∀ i, O' i → i < W.heap.size)
  (apart : ∀ g ∈ fl, g.nm ≠ f.nm → g.b ≠ f.b ∧ ∀ k, g.v.ownBlock = some k → f.v.ownBlock ≠ some k) (hs : f.nm.size ≤ 281474976710656) :
  Calls Try.prog 47 #[.pointer (some ⟨dB, 0, none⟩), .string f.nm, .pointer (some ⟨f.b, 0, none⟩)] W fun e w' => e = .returned (.tuple #[]) ∧ DskM w' O' dB mb (setF fl f) cap arm down c ∧ Go4 W w' (fun i => i = mb) (fun i => i = mb) := by
 obtain ⟨es, clock, hm⟩ := hD.map
 refine (hold_any (fb := f.b) hD.box hm hs).mono ?_
 rintro e w' ⟨rfl, es', ck', hm', g⟩
 have hmb : W.heap[mb]? = some (.map es clock) := hm.blk
 have hfb : f.b ≠ mb := by
  intro e
  unfold FBox at hbx
  rw [e, hmb] at hbx
  cases hbx
 have hk : ∀ i, i < W.heap.size → i ≠ mb → w'.heap[i]? = W.heap[i]? := fun i hi h => g.block i hi h
 refine ⟨rfl, hD.putF hm' (hD.box.kept (hk _ hD.box.lt (Ne.symm hD.neMap))) (fun x hx _ => ⟨hk _ (hD.fil x hx).1.lt (hD.neFil hx).2, fun i hi => hk i (hD.lt i ((hD.fil x hx).2.1.blk i hi)) (hD.neDat hx hi).2.1⟩) ⟨hbx.kept (hk _ hbx.lt hfb), ho.kept (fun i hi => ⟨hk i (lt' i (ho.blk i hi)) (fun e => ?_), ho.blk i hi⟩), hfo⟩ hO apart (fun i hi => Nat.lt_of_lt_of_le (lt' i hi) g.size), g⟩
 obtain ⟨cur, h3⟩ := ho.typ hi
 rw [e, hmb] at h3
 cases h3
theorem Go4.open2 {w W w' : World} {O O' : Nat → Prop} {n : Nat} (b : Below w.heap.size w W) (hn : w.heap.size ≤ n) (h : Go4 W w' (fun i => O i ∨ i = n) (fun i => O' i ∨ i = n)) : Go4 w w' O (fun i => O' i ∨ i = n) :=
 ⟨h.os.trans b.os, h.tape.trans b.tape, h.output.trans b.output, Nat.le_trans b.size h.size, fun i hi ho => (h.block i (Nat.lt_of_lt_of_le hi b.size) (fun z => z.elim ho (fun e => by omega))).trans (b.block i hi), fun i hi => by
  rcases h.new i hi with (h1 | h1) | h1
  ·exact .inl h1
  ·exact .inr (by omega)
  ·exact .inr (Nat.le_trans b.size h1)⟩
def Does (W : World) (O : Nat → Prop) (dB mb : Nat) (cap arm : Int) (down : Bool) (ps : List PF) (c' : Nat → Int) (e : Ending) (w' : World) : Prop :=
 e = .returned (.tuple #[]) ∧ ∃ O2 fl2 c2, (fl2.map FE.pf = ps ∧ c2 = c') ∧ DskM w' O2 dB mb fl2 cap arm down c2 ∧ Go4 W w' O O2
set_option maxRecDepth 100000 in
set_option maxHeartbeats 2000000 in
theorem create1_any {p q : Nat} {s : ByteArray} (hD : DskM W O dB mb fl cap arm down c) (cp : W.cell? ⟨p, 0, none⟩ = some (.pointer (some ⟨dB, 0, none⟩))) (cq : W.cell? ⟨q, 0, none⟩ = some (.string s)) (hs : s.size ≤ 281474976710656) (hno : atF fl s = none) :
  Calls Try.prog 46 #[.pointer (some ⟨p, 0, none⟩), .pointer (some ⟨q, 0, none⟩)] W (Does W O dB mb cap arm down (setP (fl.map FE.pf) (s, [], 0)) c) := by
 have bA : Below W.heap.size W (W.alloc (.cells #[.slice none 0 0, .int .i64 0] 81)) := (Below.refl _ _).alloc (Nat.le_refl _) _
 have fA : FBox (W.alloc (.cells #[.slice none 0 0, .int .i64 0] 81)) W.heap.size (.slice none 0 0) 0 := FBox.new W _ 0
 have sA : (W.alloc (.cells #[.slice none 0 0, .int .i64 0] 81)).heap.size = W.heap.size + 1 := by simp
 obtain ⟨V, hV⟩ : ∃ V, V = W.alloc (.cells #[.slice none 0 0, .int .i64 0] 81) := ⟨_, rfl⟩
 rw [← hV] at bA fA sA
 have HC := Lib.hid (hold_dsk (O' := fun i => O i ∨ i = W.heap.size) (f := ⟨s, W.heap.size, .slice none 0 0, [], 0⟩) (hD.below bA) fA (OwnO.nil _ _) (.inr rfl) (fun i h => .inl h) (fun i h => by exact h.elim (fun h => by have := hD.lt i h; omega) (fun h => by omega)) (fun g hg _ => ⟨fun e => by have := hD.lt _ (hD.fil g hg).2.2; simp only at e; omega, fun k _ h => by cases h⟩) hs)
 have HB := Lib.hid bA
 have HV := Lib.hid hV
 have HD := Lib.hid hD
 clear bA fA sA hV hD hno
 go_enter Try.func46, Try.ntmps46
 go_wp2_with fail
 rw [← HV.out]
 refine HC.out.mono ?_
 rintro e w2 ⟨rfl, d2, g2⟩
 have HD2 := Lib.hid d2
 have HG2 := Lib.hid g2
 clear d2 g2
 go_wp2
 go_end0
 refine ⟨rfl, _, _, c, ⟨setF_pf _ _, rfl⟩, HD2.out, Go4.open2 HB.out (Nat.le_refl _) (HG2.out.wide (fun i h => .inl (by rw [h]; exact HD.out.omb)) (fun i h => .inr h))⟩
end Go.Proofs.Ytlkhphhmhffdjaa

namespace Go.Proofs.Ytlkhphhmhffdjaa
open Go.RowKit Go.MapKept
variable {w w' W : World} {O O' : Nat → Prop} {dB mb : Nat} {fl : List FE} {cap arm : Int} {down : Bool} {c : Nat → Int}
theorem ddel_step {clock : Nat} {fs : List (ByteArray × Nat)} {es : Array MapEntry} {s : ByteArray} {o : Oper} {a : Act} {K : Act → World → Prop} {Q : Exit → Act → World → Prop} (x y : Operand)
  (ho : o.op = .call { callee := .builtin .delete, args := #[x, y], argTypes := #[77, 9] }) (hx : a.eval x = .map (some mb)) (hy : a.eval y = .string s) (hm : MpB w mb fs es clock)
  (h : ∀ es', MpB (setMap w mb es' clock) mb (delN fs s) es' clock → K (a.put o.dst (.tuple #[])) (setMap w mb es' clock)) : Oper.wp Try.prog o a w K Q := by
 obtain ⟨es', hrn, h1⟩ := hm.del s o.type
 unfold Oper.wp execOp
 rw [ho]
 simp only [resolve, invoke, builtin, Sem.run_bind, Sem.run_pure, Result.andThen_ok, List.map_toArray, List.map_cons, List.map_nil, hx, hy, hrn]
 exact h es' h1
set_option maxRecDepth 100000 in
set_option maxHeartbeats 2000000 in
theorem sync1_any {p q : Nat} {f : FE} (hD : DskM W O dB mb fl cap arm down c) (cp : W.cell? ⟨p, 0, none⟩ = some (.pointer (some ⟨f.b, 0, none⟩))) (cq : W.cell? ⟨q, 0, none⟩ = some (.pointer (some ⟨dB, 0, none⟩))) (nq : ¬ O q) (hf : atF fl f.nm = some f) (hl : f.dat.length ≤ 281474976710656) :
  Calls Try.prog 79 #[.pointer (some ⟨p, 0, none⟩), .pointer (some ⟨q, 0, none⟩)] W (Does W O dB mb cap arm down (setP (fl.map FE.pf) (f.nm, f.dat, f.dat.length)) (setCt c 2 (wrap64 (c 2 + 1)))) := by
 obtain ⟨fn, fb, fv, fd, fs⟩ := f
 simp only at *
 have hm := (atF_mem hf).1
 obtain ⟨hbx, hown, hob⟩ := hD.fil _ hm
 simp only at hbx hown hob
 obtain ⟨a, k, rfl⟩ := hown.form
 obtain ⟨n, hn⟩ : ∃ n, n = fd.length := ⟨_, rfl⟩
 rw [← hn] at hbx hown hf hl ⊢
 have HBX := Lib.hid hbx
 have HP := Lib.hid (And.intro cp (World.block_lt_of_cell? _ _ cp))
 have HQ := Lib.hid (And.intro cq (World.block_lt_of_cell? _ _ cq))
 have HD := Lib.hid hD
 have HF := Lib.hid hf
 have HN := Lib.hid hn
 have HO := Lib.hid hown
 have HOB := Lib.hid hob
 have HNQ := Lib.hid nq
 have HODB := Lib.hid hD.odb
 have lb := hbx.lt
 clear hD hf hn cp cq hbx hown hm hob nq
 go_enter Try.func79, Try.ntmps79
 go_upto_region 0 with fail
 have BD : Below W.heap.size W W.drew := (Below.refl _ _).drew
 refine wp_region_noPanic ?_
 refine wp_region_anyE (S := fun wx => Below W.heap.size W wx) (E := fun j => !(decide (j = 8))) (by kernel_rfl) ?_
 have hHeld : Below W.heap.size W W.drew := BD
 have HB := Lib.hid BD
 obtain ⟨Z0, hZ0⟩ : ∃ z, z = W.drew := ⟨_, rfl⟩
 rw [← hZ0] at HB hHeld ⊢
 clear hZ0 BD
 refine AnyE.take (i := 0) (.pointer (some ⟨fb, 0, none⟩)) rfl (by kernel_rfl) (by kernel_rfl) (by kernel_rfl) (by kernel_rfl) (fun _ _ _ h => h) (.inl ⟨by kernel_rfl, fun wy hy => by (have q0 := (hy.cell (p := ⟨p, 0, none⟩) HP.out.2).trans HP.out.1; go_simp; done)⟩) hHeld ?_
 try simp only [Act.put, List.setIfInBounds_toArray, List.set_cons_zero, List.set_cons_succ]
 refine AnyE.take (i := 1) (.pointer (some ⟨fb, 0, none⟩)) rfl (by kernel_rfl) (by kernel_rfl) (by kernel_rfl) (by kernel_rfl) (fun _ _ _ h => h) (.inl ⟨by kernel_rfl, fun wy hy => by (have q0 := (hy.cell (p := ⟨p, 0, none⟩) HP.out.2).trans HP.out.1; go_simp; done)⟩) hHeld ?_
 try simp only [Act.put, List.setIfInBounds_toArray, List.set_cons_zero, List.set_cons_succ]
 refine AnyE.take (i := 2) (.pointer (some ⟨fb, 0, none⟩)) rfl (by kernel_rfl) (by kernel_rfl) (by kernel_rfl) (by kernel_rfl) (fun _ _ _ h => h) (.inl ⟨by kernel_rfl, fun wy hy => by (go_simp; done)⟩) hHeld ?_
 try simp only [Act.put, List.setIfInBounds_toArray, List.set_cons_zero, List.set_cons_succ]
 refine AnyE.take (i := 3) (.pointer (some ⟨fb, 0, none⟩)) rfl (by kernel_rfl) (by kernel_rfl) (by kernel_rfl) (by kernel_rfl) (fun _ _ _ h => h) (.inl ⟨by kernel_rfl, fun wy hy => by (go_simp; done)⟩) hHeld ?_
 try simp only [Act.put, List.setIfInBounds_toArray, List.set_cons_zero, List.set_cons_succ]
 refine AnyE.take (i := 4) (.slice a n k) rfl (by kernel_rfl) (by kernel_rfl) (by kernel_rfl) (by kernel_rfl) (fun _ _ _ h => h) (.inl ⟨by kernel_rfl, fun wy hy => by (have q0 := (HBX.out.kept (hy.block _ lb)).cells.1; go_simp; done)⟩) hHeld ?_
 try simp only [Act.put, List.setIfInBounds_toArray, List.set_cons_zero, List.set_cons_succ]
 refine AnyE.take (i := 5) (.int .i64 (n : Int)) rfl (by kernel_rfl) (by kernel_rfl) (by kernel_rfl) (by kernel_rfl) (fun _ _ _ h => h) (.inl ⟨by kernel_rfl, fun wy hy => by (first | (go_simp; done) | (cases a <;> (go_simp; done)); done; go_simp; done)⟩) hHeld ?_
 try simp only [Act.put, List.setIfInBounds_toArray, List.set_cons_zero, List.set_cons_succ]
 refine AnyE.one (i := 6) rfl (by kernel_rfl) (by kernel_rfl) (fun KK hK => ?_)
 go_simp
 refine hK.out _ _ ⟨fun _ => HB.out, ?_⟩
 clear hK
 try simp only [Act.put, List.setIfInBounds_toArray, List.set_cons_zero, List.set_cons_succ]
 refine AnyE.one (i := 7) rfl (by kernel_rfl) (by kernel_rfl) (fun KK hK => ?_)
 go_simp
 refine hK.out _ _ ⟨fun _ => HB.out, ?_⟩
 clear hK
 try simp only [Act.put, List.setIfInBounds_toArray, List.set_cons_zero, List.set_cons_succ]
 refine AnyE.one (i := 8) rfl (by kernel_rfl) (by kernel_rfl) (fun KK hK => ?_)
 have z0 := (HBX.out.kept (HB.out.block _ lb)).cells.2
 have z1 := (HBX.out.kept (HB.out.block _ lb)).fz 1
 go_simp
 have DZ := HD.out.below HB.out
 have hob2 := HOB.out
 have dx : DskM (Z0.setCell ⟨fb, 1, none⟩ (.int .i64 (n : Int))) O dB mb (setF fl ⟨fn, fb, .slice a n k, fd, n⟩) cap arm down c := by
  refine DZ.inF (f := ⟨fn, fb, .slice a n k, fd, fs⟩) HF.out rfl ((HBX.out.kept (HB.out.block _ lb)).setSyn n) ?_ (fun i h => h) (fun i h1 h2 h3 => heap_setCell_other _ _ _ _ h2) (fun i h => .inl h) (fun i h => by have := DZ.lt i h; simpa [World.setCell] using this)
  refine ((DZ.fil _ (atF_mem HF.out).1).2.1).kept (fun g hg => ⟨heap_setCell_other _ _ _ _ ((DZ.neDat (atF_mem HF.out).1 hg).2.2 _ (atF_mem HF.out).1), ((DZ.fil _ (atF_mem HF.out).1).2.1).blk g hg⟩)
 have gx : Go4 W (Z0.setCell ⟨fb, 1, none⟩ (.int .i64 (n : Int))) O O := (Go4.of_below HB.out).trans (Go4.of_set (a := ⟨fb, 1, none⟩) hob2 _)
 obtain ⟨X, hX⟩ : ∃ X, X = Z0.setCell ⟨fb, 1, none⟩ (.int .i64 (n : Int)) := ⟨_, rfl⟩
 rw [← hX] at dx gx ⊢
 have cq2 : X.cell? ⟨q, 0, none⟩ = some (.pointer (some ⟨dB, 0, none⟩)) := (World.cell?_of_block (a := ⟨q, 0, none⟩) (gx.block q HQ.out.2 HNQ.out)).trans HQ.out.1
 have HDX := Lib.hid dx
 have HGX := Lib.hid gx
 clear hX dx gx z0 z1 DZ hob2 hHeld
 refine hK.out _ _ ⟨fun h => (by cases h), ?_⟩
 clear hK
 try simp only [Act.put, List.setIfInBounds_toArray, List.set_cons_zero, List.set_cons_succ]
 refine AnyE.done (by kernel_rfl) (NoPanic.normal ?_) _
 have b4 := HDX.out.box.cells.2.2.2.2.2.2.1
 have zz := HDX.out.box.fz 6
 go_wp2
 go_end0
 exact ⟨rfl, _, _, _, ⟨by rw [setF_pf]; rfl, rfl⟩, HDX.out.setCt 2 (by omega) _, HGX.out.trans (Go4.of_set (a := ⟨dB, 6, none⟩) HODB.out _)⟩
set_option maxRecDepth 100000 in
set_option maxHeartbeats 2000000 in
theorem delete1_any {p q : Nat} {s : ByteArray} (hD : DskM W O dB mb fl cap arm down c) (cp : W.cell? ⟨p, 0, none⟩ = some (.pointer (some ⟨dB, 0, none⟩))) (cq : W.cell? ⟨q, 0, none⟩ = some (.string s)) (np : ¬ O p) :
  Calls Try.prog 81 #[.pointer (some ⟨p, 0, none⟩), .pointer (some ⟨q, 0, none⟩)] W (Does W O dB mb cap arm down (delP (fl.map FE.pf) s) (setCt c 4 (wrap64 (c 4 + 1)))) := by
 have HP := Lib.hid (And.intro cp (World.block_lt_of_cell? _ _ cp))
 have HQ := Lib.hid (And.intro cq (World.block_lt_of_cell? _ _ cq))
 have HD := Lib.hid hD
 have HNP := Lib.hid np
 have HODB := Lib.hid hD.odb
 clear hD cp cq np
 go_enter Try.func81, Try.ntmps81
 go_upto_region 0 with fail
 have BD : Below W.heap.size W W.drew := (Below.refl _ _).drew
 refine wp_region_noPanic ?_
 refine wp_region_anyE (S := fun wx => Below W.heap.size W wx) (E := fun j => !(decide (j = 5))) (by kernel_rfl) ?_
 have hHeld : Below W.heap.size W W.drew := BD
 have HB := Lib.hid BD
 obtain ⟨Z0, hZ0⟩ : ∃ z, z = W.drew := ⟨_, rfl⟩
 rw [← hZ0] at HB hHeld ⊢
 clear hZ0 BD
 refine AnyE.take (i := 4) (.string s) rfl (by kernel_rfl) (by kernel_rfl) (by kernel_rfl) (by kernel_rfl) (fun _ _ _ h => h) (.inl ⟨by kernel_rfl, fun wy hy => by (have q0 := (hy.cell (p := ⟨q, 0, none⟩) HQ.out.2).trans HQ.out.1; go_simp; done)⟩) hHeld ?_
 try simp only [Act.put, List.setIfInBounds_toArray, List.set_cons_zero, List.set_cons_succ]
 refine AnyE.one (i := 0) rfl (by kernel_rfl) (by kernel_rfl) (fun KK hK => ?_)
 have hy := HB.out; have q0 := (hy.cell (p := ⟨p, 0, none⟩) HP.out.2).trans HP.out.1
 go_simp
 refine hK.out _ _ ⟨fun _ => HB.out, ?_⟩
 clear hK
 try simp only [Act.put, List.setIfInBounds_toArray, List.set_cons_zero, List.set_cons_succ]
 refine AnyE.one (i := 1) rfl (by kernel_rfl) (by kernel_rfl) (fun KK hK => ?_)
 go_simp
 refine hK.out _ _ ⟨fun _ => HB.out, ?_⟩
 clear hK
 try simp only [Act.put, List.setIfInBounds_toArray, List.set_cons_zero, List.set_cons_succ]
 refine AnyE.one (i := 2) rfl (by kernel_rfl) (by kernel_rfl) (fun KK hK => ?_)
 go_simp
 refine hK.out _ _ ⟨fun _ => HB.out, ?_⟩
 clear hK
 try simp only [Act.put, List.setIfInBounds_toArray, List.set_cons_zero, List.set_cons_succ]
 refine AnyE.one (i := 3) rfl (by kernel_rfl) (by kernel_rfl) (fun KK hK => ?_)
 have hy := HB.out; have q0 := (HD.out.box.kept (hy.block _ HD.out.box.lt)).cells.1
 go_simp
 refine hK.out _ _ ⟨fun _ => HB.out, ?_⟩
 clear hK
 try simp only [Act.put, List.setIfInBounds_toArray, List.set_cons_zero, List.set_cons_succ]
 refine AnyE.one (i := 5) rfl (by kernel_rfl) (by kernel_rfl) (fun KK hK => ?_)
 obtain ⟨es0, ck0, hm0⟩ := (HD.out.below HB.out).map
 refine ddel_step _ _ rfl rfl rfl hm0 (fun es1 hm1 => ?_)
 have dx := (HD.out.below HB.out).dropF (w' := setMap Z0 mb es1 ck0) hm1 (fun i h => setMap_ne h) (by rw [setMap_size]; exact Nat.le_refl _)
 have gx : Go4 W (setMap Z0 mb es1 ck0) O O := (Go4.of_below HB.out).trans ((setMap_go Z0 mb es1 ck0).wide (fun i h => by rw [h]; exact HD.out.omb) (fun i h => .inr h))
 obtain ⟨X, hX⟩ : ∃ X, X = setMap Z0 mb es1 ck0 := ⟨_, rfl⟩
 rw [← hX] at dx gx ⊢
 have cp2 : X.cell? ⟨p, 0, none⟩ = some (.pointer (some ⟨dB, 0, none⟩)) := (World.cell?_of_block (a := ⟨p, 0, none⟩) (gx.block p HP.out.2 HNP.out)).trans HP.out.1
 have HDX := Lib.hid dx
 have HGX := Lib.hid gx
 clear hX dx gx hm0 hm1 hHeld
 refine hK.out _ _ ⟨fun h => (by cases h), ?_⟩
 clear hK
 try simp only [Act.put, List.setIfInBounds_toArray, List.set_cons_zero, List.set_cons_succ]
 refine AnyE.done (by kernel_rfl) (NoPanic.normal ?_) _
 have b4 := HDX.out.box.cells.2.2.2.2.2.2.2.2.1
 have zz := HDX.out.box.fz 8
 go_wp2
 go_end0
 exact ⟨rfl, _, _, _, ⟨delF_pf _ _, rfl⟩, HDX.out.setCt 4 (by omega) _, HGX.out.trans (Go4.of_set (a := ⟨dB, 8, none⟩) HODB.out _)⟩
set_option maxRecDepth 100000 in
set_option maxHeartbeats 2000000 in
theorem rename1_any {p q r u : Nat} {s t : ByteArray} {f : FE} (hD : DskM W O dB mb fl cap arm down c) (cp : W.cell? ⟨p, 0, none⟩ = some (.pointer (some ⟨dB, 0, none⟩))) (cq : W.cell? ⟨q, 0, none⟩ = some (.string s)) (cr : W.cell? ⟨r, 0, none⟩ = some (.string t)) (cu : W.cell? ⟨u, 0, none⟩ = some (.pointer (some ⟨f.b, 0, none⟩)))
  (np : ¬ O p) (nr : ¬ O r) (nu : ¬ O u) (hf : atF fl s = some f) (ht : t.size ≤ 281474976710656) :
  Calls Try.prog 49 #[.pointer (some ⟨p, 0, none⟩), .pointer (some ⟨q, 0, none⟩), .pointer (some ⟨r, 0, none⟩), .pointer (some ⟨u, 0, none⟩)] W (Does W O dB mb cap arm down (setP (delP (fl.map FE.pf) s) (t, f.dat, f.syn)) (setCt c 3 (wrap64 (c 3 + 1)))) := by
 obtain ⟨fn, fb, fv, fd, fs⟩ := f
 simp only at *
 have HP := Lib.hid (And.intro cp (World.block_lt_of_cell? _ _ cp))
 have HQ := Lib.hid (And.intro cq (World.block_lt_of_cell? _ _ cq))
 have HR := Lib.hid (And.intro cr (World.block_lt_of_cell? _ _ cr))
 have HU := Lib.hid (And.intro cu (World.block_lt_of_cell? _ _ cu))
 have HD := Lib.hid hD
 have HF := Lib.hid hf
 have HNP := Lib.hid (And.intro np (And.intro nr nu))
 have HODB := Lib.hid hD.odb
 clear hD cp cq cr cu np nr nu hf
 go_enter Try.func49, Try.ntmps49
 go_upto_region 0 with fail
 have BD : Below W.heap.size W W.drew := (Below.refl _ _).drew
 refine wp_region_noPanic ?_
 refine wp_region_anyE (S := fun wx => Below W.heap.size W wx) (E := fun j => !(decide (j = 5))) (by kernel_rfl) ?_
 have hHeld : Below W.heap.size W W.drew := BD
 have HB := Lib.hid BD
 obtain ⟨Z0, hZ0⟩ : ∃ z, z = W.drew := ⟨_, rfl⟩
 rw [← hZ0] at HB hHeld ⊢
 clear hZ0 BD
 refine AnyE.take (i := 4) (.string s) rfl (by kernel_rfl) (by kernel_rfl) (by kernel_rfl) (by kernel_rfl) (fun _ _ _ h => h) (.inl ⟨by kernel_rfl, fun wy hy => by (have q0 := (hy.cell (p := ⟨q, 0, none⟩) HQ.out.2).trans HQ.out.1; go_simp; done)⟩) hHeld ?_
 try simp only [Act.put, List.setIfInBounds_toArray, List.set_cons_zero, List.set_cons_succ]
 refine AnyE.one (i := 0) rfl (by kernel_rfl) (by kernel_rfl) (fun KK hK => ?_)
 have hy := HB.out; have q0 := (hy.cell (p := ⟨p, 0, none⟩) HP.out.2).trans HP.out.1
 go_simp
 refine hK.out _ _ ⟨fun _ => HB.out, ?_⟩
 clear hK
 try simp only [Act.put, List.setIfInBounds_toArray, List.set_cons_zero, List.set_cons_succ]
 refine AnyE.one (i := 1) rfl (by kernel_rfl) (by kernel_rfl) (fun KK hK => ?_)
 go_simp
 refine hK.out _ _ ⟨fun _ => HB.out, ?_⟩
 clear hK
 try simp only [Act.put, List.setIfInBounds_toArray, List.set_cons_zero, List.set_cons_succ]
 refine AnyE.one (i := 2) rfl (by kernel_rfl) (by kernel_rfl) (fun KK hK => ?_)
 go_simp
 refine hK.out _ _ ⟨fun _ => HB.out, ?_⟩
 clear hK
 try simp only [Act.put, List.setIfInBounds_toArray, List.set_cons_zero, List.set_cons_succ]
 refine AnyE.one (i := 3) rfl (by kernel_rfl) (by kernel_rfl) (fun KK hK => ?_)
 have hy := HB.out; have q0 := (HD.out.box.kept (hy.block _ HD.out.box.lt)).cells.1
 go_simp
 refine hK.out _ _ ⟨fun _ => HB.out, ?_⟩
 clear hK
 try simp only [Act.put, List.setIfInBounds_toArray, List.set_cons_zero, List.set_cons_succ]
 refine AnyE.one (i := 5) rfl (by kernel_rfl) (by kernel_rfl) (fun KK hK => ?_)
 obtain ⟨es0, ck0, hm0⟩ := (HD.out.below HB.out).map
 refine ddel_step _ _ rfl rfl rfl hm0 (fun es1 hm1 => ?_)
 have dx := (HD.out.below HB.out).dropF (w' := setMap Z0 mb es1 ck0) hm1 (fun i h => setMap_ne h) (by rw [setMap_size]; exact Nat.le_refl _)
 have gx : Go4 W (setMap Z0 mb es1 ck0) O O := (Go4.of_below HB.out).trans ((setMap_go Z0 mb es1 ck0).wide (fun i h => by rw [h]; exact HD.out.omb) (fun i h => .inr h))
 obtain ⟨X, hX⟩ : ∃ X, X = setMap Z0 mb es1 ck0 := ⟨_, rfl⟩
 rw [← hX] at dx gx ⊢
 have hn := HD.out.names
 have cp2 : X.cell? ⟨p, 0, none⟩ = some (.pointer (some ⟨dB, 0, none⟩)) := (World.cell?_of_block (a := ⟨p, 0, none⟩) (gx.block p HP.out.2 HNP.out.1)).trans HP.out.1
 have cr2 : X.cell? ⟨r, 0, none⟩ = some (.string t) := (World.cell?_of_block (a := ⟨r, 0, none⟩) (gx.block r HR.out.2 HNP.out.2.1)).trans HR.out.1
 have cu2 : X.cell? ⟨u, 0, none⟩ = some (.pointer (some ⟨fb, 0, none⟩)) := (World.cell?_of_block (a := ⟨u, 0, none⟩) (gx.block u HU.out.2 HNP.out.2.2)).trans HU.out.1
 have hm := atF_mem HF.out
 have hbx : FBox X fb fv fs ∧ OwnO X O fv fd ∧ O fb := by
  have o := (HD.out.below HB.out).fil _ hm.1
  rw [hX]
  exact ⟨o.1.kept (setMap_ne ((HD.out.below HB.out).neFil hm.1).2), o.2.1.kept (fun g hg => ⟨setMap_ne ((HD.out.below HB.out).neDat hm.1 hg).2.1, o.2.1.blk g hg⟩), o.2.2⟩
 have HC := Lib.hid (hold_dsk (O' := O) (f := ⟨t, fb, fv, fd, fs⟩) dx hbx.1 hbx.2.1 hbx.2.2 (fun i h => h) dx.lt (fun g hg _ => HD.out.other (f := ⟨fn, fb, fv, fd, fs⟩) hm.1 ((delF_sub s fl).mem hg) (by rw [hm.2]; exact delF_ne hn hg)) ht)
 simp only at HC
 have HDX := Lib.hid dx
 have HGX := Lib.hid gx
 clear hX dx gx hm0 hm1 hHeld hn hm hbx
 refine hK.out _ _ ⟨fun h => (by cases h), ?_⟩
 clear hK
 try simp only [Act.put, List.setIfInBounds_toArray, List.set_cons_zero, List.set_cons_succ]
 refine AnyE.done (by kernel_rfl) (NoPanic.normal ?_) _
 have HP2 := Lib.hid cp2
 go_wp2_with fail
 refine HC.out.mono ?_
 rintro e X2 ⟨rfl, d2, g2⟩
 have hg2 : Go4 X X2 O O := g2.wide (fun i h => by rw [h]; exact d2.omb) (fun i h => .inr h)
 have cp3 : X2.cell? ⟨p, 0, none⟩ = some (.pointer (some ⟨dB, 0, none⟩)) := (World.cell?_of_block (a := ⟨p, 0, none⟩) (hg2.block p (World.block_lt_of_cell? _ _ HP2.out) HNP.out.1)).trans HP2.out
 have HDX := Lib.hid d2
 have HGX := Lib.hid (HGX.out.trans hg2)
 clear d2 g2 hg2 cp2 cr2 cu2
 have b4 := HDX.out.box.cells.2.2.2.2.2.2.2.1
 have zz := HDX.out.box.fz 7
 go_wp2
 go_end0
 exact ⟨rfl, _, _, _, ⟨by rw [setF_pf, delF_pf]; rfl, rfl⟩, HDX.out.setCt 3 (by omega) _, HGX.out.trans (Go4.of_set (a := ⟨dB, 7, none⟩) HODB.out _)⟩
end Go.Proofs.Ytlkhphhmhffdjaa

namespace Go.Proofs.Ytlkhphhmhffdjaa
open Go.RowKit Go.MapKept
variable {w w' W : World} {O O' : Nat → Prop} {dB mb : Nat} {fl : List FE} {cap arm : Int} {down : Bool} {c : Nat → Int}
set_option maxRecDepth 100000 in
set_option maxHeartbeats 2000000 in
theorem append1_any {p q r : Nat} {f : FE} {vb : Value} {bs : List Nat} (hD : DskM W O dB mb fl cap arm down c) (cp : W.cell? ⟨p, 0, none⟩ = some (.pointer (some ⟨f.b, 0, none⟩))) (cq : W.cell? ⟨q, 0, none⟩ = some vb) (cr : W.cell? ⟨r, 0, none⟩ = some (.pointer (some ⟨dB, 0, none⟩))) (np : ¬ O p) (nq : ¬ O q) (nr : ¬ O r) (hf : atF fl f.nm = some f)
  (hrd : Rd W vb bs) (hl : f.dat.length + bs.length ≤ 140737488355328) :
  Calls Try.prog 78 #[.pointer (some ⟨p, 0, none⟩), .pointer (some ⟨q, 0, none⟩), .pointer (some ⟨r, 0, none⟩)] W (Does W O dB mb cap arm down (setP (fl.map FE.pf) (f.nm, f.dat ++ bs, f.syn)) (setCt c 1 (wrap64 (c 1 + 1)))) := by
 obtain ⟨fn, fb, fv, fd, fs⟩ := f
 simp only at *
 have hm := (atF_mem hf).1
 obtain ⟨hbx, hown, hob⟩ := hD.fil _ hm
 simp only at hbx hown hob
 obtain ⟨a, k, rfl⟩ := hown.form
 obtain ⟨n, hn⟩ : ∃ n, n = fd.length := ⟨_, rfl⟩
 rw [← hn] at hbx hown hf hl
 obtain ⟨nb, hnb⟩ : ∃ nb, nb = bs.length := ⟨_, rfl⟩
 rw [← hnb] at hl
 obtain ⟨hby, ab, kb, rfl, hle, hmx, hl48, hnone, hat⟩ := id hrd
 rw [← hnb] at cq hrd
 have HBX := Lib.hid hbx
 have HP := Lib.hid (And.intro cp (World.block_lt_of_cell? _ _ cp))
 have HQ := Lib.hid (And.intro cq (World.block_lt_of_cell? _ _ cq))
 have HR := Lib.hid (And.intro cr (World.block_lt_of_cell? _ _ cr))
 have HD := Lib.hid hD
 have HF := Lib.hid hf
 have HN := Lib.hid (And.intro hn hnb)
 have HO := Lib.hid hown
 have HOB := Lib.hid hob
 have HNR := Lib.hid nr
 have HNP := Lib.hid (And.intro np nq)
 have HRD := Lib.hid hrd
 have HBY := Lib.hid hby
 have HODB := Lib.hid hD.odb
 have HL := Lib.hid hl
 have lb := hbx.lt
 clear hD hf hn hnb cp cq cr hbx hown hm hob nr np nq hrd hby hle hmx hl48 hnone hat hl
 go_enter Try.func78, Try.ntmps78
 go_upto_region 0 with fail
 refine wp_region_noPanic ?_
 refine wp_region_anyE (S := fun wx => wx.cell? ⟨p, 0, none⟩ = some (.pointer (some ⟨fb, 0, none⟩)) ∧ wx.cell? ⟨q, 0, none⟩ = some (.slice ab nb kb) ∧ wx.cell? ⟨fb, 0, none⟩ = some (.slice a n k)) (E := fun j => decide (j < 9)) (by kernel_rfl) ?_
 have HB := Lib.hid ((Below.refl W.heap.size W).drew)
 have hHeld : W.drew.cell? ⟨p, 0, none⟩ = some (.pointer (some ⟨fb, 0, none⟩)) ∧ W.drew.cell? ⟨q, 0, none⟩ = some (.slice ab nb kb) ∧ W.drew.cell? ⟨fb, 0, none⟩ = some (.slice a n k) := ⟨HP.out.1, HQ.out.1, HBX.out.cells.1⟩
 obtain ⟨Z0, hZ0⟩ : ∃ z, z = W.drew := ⟨_, rfl⟩
 rw [← hZ0] at HB hHeld ⊢
 clear hZ0
 refine AnyE.take (i := 0) (.pointer (some ⟨fb, 0, none⟩)) rfl (by kernel_rfl) (by kernel_rfl) (by kernel_rfl) (by kernel_rfl) (fun _ _ _ h => h) (.inl ⟨by kernel_rfl, fun wy hy => by (have q0 := hy.1; go_simp; done)⟩) hHeld ?_
 try simp only [Act.put, List.setIfInBounds_toArray, List.set_cons_zero, List.set_cons_succ]
 refine AnyE.take (i := 1) (.pointer (some ⟨fb, 0, none⟩)) rfl (by kernel_rfl) (by kernel_rfl) (by kernel_rfl) (by kernel_rfl) (fun _ _ _ h => h) (.inl ⟨by kernel_rfl, fun wy hy => by (have q0 := hy.1; go_simp; done)⟩) hHeld ?_
 try simp only [Act.put, List.setIfInBounds_toArray, List.set_cons_zero, List.set_cons_succ]
 refine AnyE.take (i := 2) (.pointer (some ⟨fb, 0, none⟩)) rfl (by kernel_rfl) (by kernel_rfl) (by kernel_rfl) (by kernel_rfl) (fun _ _ _ h => h) (.inl ⟨by kernel_rfl, fun wy hy => by (go_simp; done)⟩) hHeld ?_
 try simp only [Act.put, List.setIfInBounds_toArray, List.set_cons_zero, List.set_cons_succ]
 refine AnyE.take (i := 3) (.pointer (some ⟨fb, 0, none⟩)) rfl (by kernel_rfl) (by kernel_rfl) (by kernel_rfl) (by kernel_rfl) (fun _ _ _ h => h) (.inl ⟨by kernel_rfl, fun wy hy => by (go_simp; done)⟩) hHeld ?_
 try simp only [Act.put, List.setIfInBounds_toArray, List.set_cons_zero, List.set_cons_succ]
 refine AnyE.take (i := 4) (.slice a n k) rfl (by kernel_rfl) (by kernel_rfl) (by kernel_rfl) (by kernel_rfl) (fun _ _ _ h => h) (.inl ⟨by kernel_rfl, fun wy hy => by (have q0 := hy.2.2; go_simp; done)⟩) hHeld ?_
 try simp only [Act.put, List.setIfInBounds_toArray, List.set_cons_zero, List.set_cons_succ]
 refine AnyE.take (i := 5) (.slice ab nb kb) rfl (by kernel_rfl) (by kernel_rfl) (by kernel_rfl) (by kernel_rfl) (fun _ _ _ h => h) (.inl ⟨by kernel_rfl, fun wy hy => by (have q0 := hy.2.1; go_simp; done)⟩) hHeld ?_
 try simp only [Act.put, List.setIfInBounds_toArray, List.set_cons_zero, List.set_cons_succ]
 refine AnyE.one (i := 6) rfl (by kernel_rfl) (by kernel_rfl) (fun KK hK => ?_)
 refine dstep_append _ _ rfl (B := 0) (n := n) (v := .slice a n k) (src := .slice ab nb kb) (xs := fd) (bs := bs) rfl ⟨HN.out.1, ?_⟩ rfl (HRD.out.later HB.out) (by have := HL.out; have := HN.out.2; omega) (Nat.zero_le _) (fun a3 k3 X3 own3 gr3 lo3 => ?_)
 ·have o1 := ((HD.out.below HB.out).fil _ (atF_mem HF.out).1).2.1.own
  simp only at o1
  rw [← HN.out.1] at o1
  exact o1
 have DZ := HD.out.below HB.out
 have hm := (atF_mem HF.out).1
 have hne : (Value.slice a n k).ownBlock ≠ some fb := fun e => (DZ.neDat hm e).2.2 _ hm rfl
 have hkeep : ∀ i, i < W.heap.size → (Value.slice a n k).ownBlock ≠ some i → X3.heap[i]? = W.heap[i]? := fun i hi h => (gr3.block i (Nat.lt_of_lt_of_le hi HB.out.size) (fun e => h e.symm)).trans (HB.out.block i hi)
 have bx3 : FBox X3 fb (.slice a n k) fs := HBX.out.kept (hkeep fb lb hne)
 have HB0 := Lib.hid HB.out
 rw [← HN.out.2] at own3 lo3 ⊢
 have g13 : Go4 W X3 O (fun i => O i ∨ (Value.slice a3 (n + nb) k3).ownBlock = some i) := by
  refine (Go4.of_below (O := O) HB0.out).trans ⟨gr3.os, gr3.tape, gr3.output, gr3.size, fun i hi ho => gr3.block i hi (fun e => ho ((DZ.fil _ hm).2.1.blk i e.symm)), fun i hi => ?_⟩
  rcases hi with h | h
  ·exact .inl h
  ·rcases lo3 i h with h | h
   ·exact .inl ((DZ.fil _ hm).2.1.blk i h)
   ·exact .inr (by omega)
 have l3 : ∀ i, (Value.slice a3 (n + nb) k3).ownBlock = some i → i < X3.heap.size := fun i hi => (own3.2.lt i hi).2
 have n3 : ∀ i, (Value.slice a3 (n + nb) k3).ownBlock = some i → (Value.slice a n k).ownBlock = some i ∨ W.heap.size ≤ i := fun i hi => (lo3 i hi).imp id (fun e => by have := HB0.out.size; omega)
 have G13 := Lib.hid g13
 have BX3 := Lib.hid bx3
 have OWN3 := Lib.hid own3
 have L3 := Lib.hid l3
 have N3 := Lib.hid n3
 have KEEP := Lib.hid hkeep
 have GR := Lib.hid gr3
 clear g13 bx3 own3 l3 n3 hkeep gr3 lo3 DZ
 have hS3 : X3.cell? ⟨p, 0, none⟩ = some (.pointer (some ⟨fb, 0, none⟩)) ∧ X3.cell? ⟨q, 0, none⟩ = some (.slice ab nb kb) ∧ X3.cell? ⟨fb, 0, none⟩ = some (.slice a n k) := ⟨(World.cell?_of_block (a := ⟨p, 0, none⟩) (G13.out.block p HP.out.2 HNP.out.1)).trans HP.out.1, (World.cell?_of_block (a := ⟨q, 0, none⟩) (G13.out.block q HQ.out.2 HNP.out.2)).trans HQ.out.1, BX3.out.cells.1⟩
 refine hK.out _ _ ⟨fun _ => hS3, ?_⟩
 clear hK
 try simp only [Act.put, List.setIfInBounds_toArray, List.set_cons_zero, List.set_cons_succ]
 refine AnyE.one (i := 7) rfl (by kernel_rfl) (by kernel_rfl) (fun KK hK => ?_)
 go_simp
 refine hK.out _ _ ⟨fun _ => hS3, ?_⟩
 clear hK
 try simp only [Act.put, List.setIfInBounds_toArray, List.set_cons_zero, List.set_cons_succ]
 refine AnyE.one (i := 8) rfl (by kernel_rfl) (by kernel_rfl) (fun KK hK => ?_)
 go_simp
 refine hK.out _ _ ⟨fun _ => hS3, ?_⟩
 clear hK
 try simp only [Act.put, List.setIfInBounds_toArray, List.set_cons_zero, List.set_cons_succ]
 refine AnyE.one (i := 9) rfl (by kernel_rfl) (by kernel_rfl) (fun KK hK => ?_)
 have z0 := BX3.out.cells.1
 have z1 := BX3.out.fz 0
 go_simp
 have s3 : Go4 X3 (X3.setCell ⟨fb, 0, none⟩ (.slice a3 (n + nb) k3)) (fun i => O i ∨ (Value.slice a3 (n + nb) k3).ownBlock = some i) (fun i => O i ∨ (Value.slice a3 (n + nb) k3).ownBlock = some i) := Go4.of_set (a := ⟨fb, 0, none⟩) (.inl HOB.out) _
 have hne3 : ∀ i, (Value.slice a3 (n + nb) k3).ownBlock = some i → i ≠ fb := fun i hi e => by
  rcases N3.out i hi with h | h
  ·exact hne (e ▸ h)
  ·omega
 have dx : DskM (X3.setCell ⟨fb, 0, none⟩ (.slice a3 (n + nb) k3)) (fun i => O i ∨ (Value.slice a3 (n + nb) k3).ownBlock = some i) dB mb (setF fl ⟨fn, fb, .slice a3 (n + nb) k3, fd ++ bs, fs⟩) cap arm down c := by
  refine HD.out.inF (f := ⟨fn, fb, .slice a n k, fd, fs⟩) HF.out rfl (BX3.out.setV _) ⟨⟨by simp [bv], ?_⟩, fun x hx => (List.mem_append.1 hx).elim (HO.out.bys x) (HBY.out x), fun i hi => .inr hi⟩ (fun i h => .inl h) (fun i h1 h2 h3 => ?_) (fun i h => ?_) (fun i h => ?_)
  ·have hq := OWN3.out.2.2
   simp only
   rw [← OWN3.out.1]
   rcases hq with h | ⟨g, cp9, cur, e, h2, h3, h4⟩
   ·refine .inl ⟨h.1, ?_⟩
    exact h.2
   ·refine .inr ⟨g, cp9, cur, e, h2, ?_, h4⟩
    rw [heap_setCell_other _ _ _ _ (hne3 g (by rw [e]; rfl))]
    exact h3
  ·exact (heap_setCell_other _ _ _ _ h2).trans (KEEP.out i (HD.out.lt i h1) h3)
  ·exact (N3.out i h).imp id (fun h2 h3 => by have := HD.out.lt i h3; omega)
  ·have : i < X3.heap.size := h.elim (fun h => Nat.lt_of_lt_of_le (HD.out.lt i h) G13.out.size) (L3.out i)
   simpa [World.setCell] using this
 have gx := G13.out.trans s3
 obtain ⟨X, hX⟩ : ∃ X, X = X3.setCell ⟨fb, 0, none⟩ (.slice a3 (n + nb) k3) := ⟨_, rfl⟩
 rw [← hX] at dx gx ⊢
 have cr2 : X.cell? ⟨r, 0, none⟩ = some (.pointer (some ⟨dB, 0, none⟩)) := (World.cell?_of_block (a := ⟨r, 0, none⟩) (gx.block r HR.out.2 HNR.out)).trans HR.out.1
 have HDX := Lib.hid dx
 have HGX := Lib.hid gx
 clear hX dx gx z0 z1 s3 hne3 hHeld
 refine hK.out _ _ ⟨fun h => (by cases h), ?_⟩
 clear hK
 try simp only [Act.put, List.setIfInBounds_toArray, List.set_cons_zero, List.set_cons_succ]
 refine AnyE.done (by kernel_rfl) (NoPanic.normal ?_) _
 have b4 := HDX.out.box.cells.2.2.2.2.2.1
 have zz := HDX.out.box.fz 5
 go_wp2
 go_end0
 exact ⟨rfl, _, _, _, ⟨by rw [setF_pf]; rfl, rfl⟩, HDX.out.setCt 1 (by omega) _, HGX.out.trans (Go4.of_set (a := ⟨dB, 5, none⟩) (.inl HODB.out) _)⟩
end Go.Proofs.Ytlkhphhmhffdjaa

namespace Go.Proofs.Ytlkhphhmhffdjaa
open Go.RowKit Go.MapKept
def setO (w : World) (i : Nat) (o : Obj) : World := { w with heap := w.heap.setIfInBounds i o }
theorem setO_at {w : World} {i : Nat} {o : Obj} (h : i < w.heap.size) : (setO w i o).heap[i]? = some o := by
 unfold setO
 simp [h]
theorem setO_ne {w : World} {i k : Nat} {o : Obj} (h : k ≠ i) : (setO w i o).heap[k]? = w.heap[k]? := by
 unfold setO
 simp [Ne.symm h]
theorem setO_size {w : World} {i : Nat} {o : Obj} : (setO w i o).heap.size = w.heap.size := by unfold setO; simp
theorem setO_below {w : World} {i B : Nat} {o : Obj} (h : B ≤ i) : Below B w (setO w i o) := ⟨rfl, rfl, rfl, by rw [setO_size]; exact Nat.le_refl _, fun k hk => setO_ne (by omega)⟩
theorem next_at {P : Program} {w : World} (ty : TypeId) {ib bm since c0 : Nat} {seen : Array Nat} {es : Array MapEntry} {clock : Nat} (hi : w.heap[ib]? = some (.mapIter (some bm) since seen c0)) (hb : w.heap[bm]? = some (.map es clock)) (hold : ∀ x ∈ es.toList, x.born < since) (hsc : since ≤ c0) :
  ((leftOf es seen).size = 0 ∧ (Instr.next (.pointer (some ⟨ib, 0, none⟩)) false ty).run P w = .ok (.tuple #[.bool false]) w) ∨
  ∃ e ∈ (leftOf es seen).toList, ∃ w1 : World, (w1 = w ∨ w1 = w.drew) ∧ (Instr.next (.pointer (some ⟨ib, 0, none⟩)) false ty).run P w = .ok (.tuple #[.bool true, e.key, e.val]) (setO w1 ib (.mapIter (some bm) since (seen.push e.born) clock)) := by
 simp only [Instr.next, getObj, Sem.run_bind, Sem.run, hi, hb, Result.andThen, next_test_false seen es since c0 hold hsc, Bool.false_eq_true, if_false]
 unfold leftOf
 have hmem : ∀ x ∈ (Array.filter (fun e => !seen.contains e.born) es).toList, x.born < since := fun x hx => hold x (by simp at hx ⊢; exact hx.1)
 generalize Array.filter (fun e => !seen.contains e.born) es = L at hmem ⊢
 have e1 : L.filter (fun x => decide (x.born < since)) = L := Array.filter_eq_self.2 (fun x hx => by simpa using hmem x (by simpa using hx))
 have e2 : L.filter (fun x => decide (x.born ≥ since)) = #[] := by
  rw [Array.filter_eq_empty_iff]
  intro x hx
  have := hmem x (by simpa using hx)
  simp
  omega
 simp only [e1, e2, Array.append_empty]
 by_cases h0 : L.size = 0
 ·left
  have : L = #[] := Array.eq_empty_of_size_eq_zero h0
  subst this
  refine ⟨rfl, ?_⟩
  simp [choose, Sem.run, Question.forced]
 ·right
  have hne : L.isEmpty = false := by simp [Array.isEmpty, h0]
  simp only [hne, Bool.false_eq_true, if_false, Array.empty_append, Array.size_map]
  have hch : ∃ (j : Nat) (w1 : World), j < L.size ∧ (w1 = w ∨ w1 = w.drew) ∧ (choose (Question.mapNext L.size)).run P w = .ok j w1 := by
   by_cases hf : L.size ≤ 1
   ·exact ⟨0, w, by omega, .inl rfl, by simp [choose, Sem.run, Question.forced, hf]⟩
   ·exact ⟨_, w.drew, Nat.mod_lt _ (by omega), .inr rfl, by
     simp only [choose, Sem.run, Question.forced, decide_eq_true_eq, hf, if_false, Question.cut]
     rfl⟩
  obtain ⟨j, w1, hj, hal, hrun⟩ := hch
  refine ⟨L[j], by simp, w1, hal, ?_⟩
  have hi1 : w1.heap[ib]? = some (.mapIter (some bm) since seen c0) := by rcases hal with rfl | rfl <;> exact hi
  have hset : ∀ (o' : Obj), (setObj ib o').run P w1 = .ok () (setO w1 ib o') := fun o' => by
   simp only [setObj, Sem.run, hi1]
   rfl
  simp only [hrun, Array.getElem?_map, Array.getElem?_eq_getElem hj, Option.map_some, Sem.run_bind, hset, Result.andThen]
  rfl
theorem entry_at {P : Program} {w : World} {ib bm since : Nat} {seen : Array Nat} {es : Array MapEntry} {clock : Nat} {e : MapEntry} (hi : w.heap[ib]? = some (.mapIter (some bm) since (seen.push e.born) clock)) (hb : w.heap[bm]? = some (.map es clock)) (he : e ∈ es.toList) (hn : (es.toList.map (·.born)).Nodup) :
  (Instr.entry (.pointer (some ⟨ib, 0, none⟩))).run P w = .ok (.tuple #[e.key, e.val]) w := by
 have hf : es.find? (·.born == e.born) = some e := by rw [← Array.find?_toList]; exact find_born e es.toList hn he
 simp only [Instr.entry, getObj, Sem.run_bind, Sem.run, hi, hb, Result.andThen, Array.back?_push, bne_self_eq_false, Bool.false_eq_true, if_false, hf]
 rfl
theorem iterSeen_at {w : World} {ib : Nat} {a : Option Nat} {b : Nat} {s : Array Nat} {c : Nat} (hi : w.heap[ib]? = some (.mapIter a b s c)) : w.iterSeen ib = s := by
 unfold World.iterSeen
 rw [hi]
variable {w w' W : World} {O O' : Nat → Prop} {dB mb : Nat} {fl : List FE} {cap arm : Int} {down : Bool} {c : Nat → Int}
def lenB : List FE → Nat → Nat
 | [], _ => 0
 | x :: xs, b => if x.b = b then x.dat.length else lenB xs b
theorem lenB_of {f : FE} : ∀ {l : List FE}, (l.map (·.b)).Nodup → f ∈ l → lenB l f.b = f.dat.length
 | x :: xs, hn, h => by
  rw [List.map_cons, List.nodup_cons] at hn
  rcases List.mem_cons.1 h with h | h
  ·rw [lenB, ← h, if_pos rfl]
  ·rw [lenB, if_neg (fun e => hn.1 (by rw [e]; exact List.mem_map.2 ⟨_, h, rfl⟩))]
   exact lenB_of hn.2 h
def totP (ps : List PF) : Nat := (ps.map (fun p => p.2.1.length)).sum
def lenV (fl : List FE) : Value → Int
 | .pointer (some a) => (lenB fl a.block : Int)
 | _ => 0
def lenE (fl : List FE) (e : MapEntry) : MapEntry := { e with val := .int .i64 (lenV fl e.val) }
theorem seenSum_bd : ∀ (l : List MapEntry) (seen : Array Nat), (∀ e ∈ l, 0 ≤ valOf e.val) → 0 ≤ seenSum l seen ∧ seenSum l seen ≤ (l.map fun e => valOf e.val).sum
 | [], _, _ => by simp [seenSum]
 | x :: l, seen, h => by
  have i := seenSum_bd l seen (fun e he => h e (by simp [he]))
  have h0 := h x (by simp)
  simp only [seenSum, List.map_cons, List.sum_cons]
  split <;> omega
theorem lenE_sum {es : Array MapEntry} (hn : (fl.map (·.b)).Nodup) (he : es.toList.map (fun e => (e.key, e.val)) = fl.map (fun f => (entOf (f.nm, f.b)))) : ((es.toList.map (lenE fl)).map fun e => valOf e.val).sum = (totP (fl.map FE.pf) : Int) := by
 have h1 : (es.toList.map (lenE fl)).map (fun e => valOf e.val) = (es.toList.map (fun e => (e.key, e.val))).map (fun p => lenV fl p.2) := by
  simp [List.map_map, Function.comp_def, lenE, valOf]
 rw [h1, he]
 have key : ∀ l : List FE, (∀ f ∈ l, f ∈ fl) → ((l.map (fun f => (entOf (f.nm, f.b)))).map (fun p => lenV fl p.2)).sum = (totP (l.map FE.pf) : Int) := by
  intro l
  induction l with
  | nil => intro _; rfl
  | cons x xs ih =>
   intro h
   have := ih (fun f hf => h f (by simp [hf]))
   simp only [List.map_cons, List.sum_cons, this, totP]
   have e : lenV fl (entOf (x.nm, x.b)).2 = (x.dat.length : Int) := by
    simp [entOf, lenV, lenB_of hn (h x (by simp))]
   rw [e]
   simp [FE.pf]
 exact key fl (fun f hf => hf)
set_option maxRecDepth 100000 in
set_option maxHeartbeats 2000000 in
theorem free_any (hD : DskM w O dB mb fl cap arm down c) (h1 : 0 ≤ cap) (h2 : cap ≤ 67108864) (h3 : (totP (fl.map FE.pf) : Int) ≤ cap) :
  Calls Try.prog 12 #[.pointer (some ⟨dB, 0, none⟩)] w fun e w' => e = .returned (.int .i64 (cap - (totP (fl.map FE.pf) : Int))) ∧ Below w.heap.size w w' := by
 obtain ⟨es, clock, hm⟩ := hD.map
 obtain ⟨c0, c1, -⟩ := hD.box.cells
 have lb := hD.box.lt
 have HM := Lib.hid hm
 have HD := Lib.hid hD
 have hb := hm.blk
 have hrg := run_range_map (P := Try.prog) w 77 _ _ mb es clock und_fmap hb
 obtain ⟨l2, hl2⟩ : ∃ l2, l2 = es.toList.map (lenE fl) := ⟨_, rfl⟩
 obtain ⟨T, hT⟩ : ∃ T : Int, T = (totP (fl.map FE.pf) : Int) := ⟨_, rfl⟩
 have hsum : (l2.map fun e => valOf e.val).sum = T := by
  have he := hm.ent
  rw [List.map_map] at he
  rw [hl2, hT]
  exact lenE_sum hD.nob he
 have hpos : ∀ e ∈ l2, 0 ≤ valOf e.val := fun e he => by
  rw [hl2] at he
  obtain ⟨x, _, rfl⟩ := List.mem_map.1 he
  simp only [lenE, valOf, lenV]
  split <;> omega
 rw [← hT] at h3 ⊢
 have HS := Lib.hid (And.intro hsum hpos)
 have HL2 := Lib.hid hl2
 clear hm hD hsum hpos hl2 hT
 go_enter Try.func12, Try.ntmps12
 go_wp2
 have hit : (w.alloc (.mapIter (some mb) clock #[] clock)).heap[w.heap.size]? = some (.mapIter (some mb) clock #[] clock) := heap_alloc_new _ _
 have hbw : Below w.heap.size w (w.alloc (.mapIter (some mb) clock #[] clock)) := (Below.refl _ _).alloc (Nat.le_refl _) _
 obtain ⟨W, hW⟩ : ∃ W, W = w.alloc (.mapIter (some mb) clock #[] clock) := ⟨_, rfl⟩
 obtain ⟨ib, hib⟩ : ∃ ib, ib = w.heap.size := ⟨_, rfl⟩
 rw [← hW] at hit hbw ⊢
 rw [← hib] at hit ⊢
 have HI := Lib.hid hib
 have HIT := Lib.hid hit
 have HBW := Lib.hid hbw
 have HHB := Lib.hid hb
 clear hW hib hit hbw hrg hb
 go_loopw [3] (fun v w' => ∃ (seen : Array Nat), w'.heap[ib]? = some (.mapIter (some mb) clock seen clock) ∧ Below w.heap.size w w' ∧ v = .int .i64 (cap - seenSum l2 seen)) (fun v w' => (leftOf es (w'.iterSeen ib)).size)
 case atStart => exact ⟨#[], HIT.out, HBW.out, by rw [seenSum_none]; simp⟩
 case round =>
  obtain ⟨seen, hit, hbw, rfl⟩ := hrel
  have lm := HM.out.lt
  have hb1 : wr.heap[mb]? = some (.map es clock) := (hbw.block _ lm).trans HHB.out
  have law := next_at (P := Try.prog) 0 hit hb1 HM.out.st.1 (Nat.le_refl _)
  have HIT1 := Lib.hid hit
  have HBW1 := Lib.hid hbw
  clear hit hbw hb1
  rcases law with ⟨h0, hrun⟩ | ⟨e, he, w2, hal2, hrun⟩
  ·have hnx : ∀ ty, (Instr.next (.pointer (some ⟨ib, 0, none⟩)) false ty).run Try.prog wr = _ := fun _ => hrun
   have hfin : seenSum l2 seen = T := by
    rw [← HS.out.1]
    refine seenSum_full seen l2 (fun x hx => ?_)
    rw [HL2.out] at hx
    obtain ⟨y, hy, rfl⟩ := List.mem_map.1 hx
    exact all_seen es seen h0 y hy
   rw [hfin]
   clear hfin h0 h1 h2 h3 hrun
   go_wp2
   go_ret
   exact ⟨rfl, HBW1.out⟩
  ·have hm0 := mem_left he
   obtain ⟨f, hf, hk, hv⟩ := HM.out.mem hm0.1
   obtain ⟨g, hg, rfl⟩ := List.mem_map.1 hf
   obtain ⟨b, hbb⟩ : ∃ b, b = g.b := ⟨_, rfl⟩
   simp only [← hbb] at hv
   have ho := HD.out.fil g hg
   rw [← hbb] at ho
   obtain ⟨a, k, hform⟩ := ho.2.1.form
   obtain ⟨m, hmm⟩ : ∃ m, m = g.dat.length := ⟨_, rfl⟩
   rw [← hmm] at hform
   obtain ⟨X, hX⟩ : ∃ X, X = setO w2 ib (.mapIter (some mb) clock (seen.push e.born) clock) := ⟨_, rfl⟩
   have hsz : w2.heap.size = wr.heap.size := by rcases hal2 with rfl | rfl <;> rfl
   have hib2 : ib < w2.heap.size := by rw [hsz]; exact (Array.getElem?_eq_some_iff.1 HIT1.out).1
   have itX : X.heap[ib]? = some (.mapIter (some mb) clock (seen.push e.born) clock) := by rw [hX]; exact setO_at hib2
   have bX : Below w.heap.size w X := by
    have b2 : Below w.heap.size w w2 := by
     rcases hal2 with rfl | rfl
     ·exact HBW1.out
     ·exact HBW1.out.drew
    rw [hX]
    exact b2.trans (setO_below (by rw [HI.out]; exact Nat.le_refl _))
   have hbX : X.heap[mb]? = some (.map es clock) := (bX.block _ lm).trans HHB.out
   have hen := entry_at (P := Try.prog) itX hbX hm0.1 HM.out.st.2.1
   have q0 : X.cell? ⟨b, 0, none⟩ = some (.slice a m k) := by
    rw [← hform]
    exact (bX.cell (p := ⟨b, 0, none⟩) ho.1.lt).trans ho.1.cells.1
   rw [← hX, hv] at hrun
   rw [hv] at hen
   have hnx : ∀ ty, (Instr.next (.pointer (some ⟨ib, 0, none⟩)) false ty).run Try.prog wr = _ := fun _ => hrun
   have hstep : seenSum l2 (seen.push e.born) = seenSum l2 seen + (m : Int) := by
    have := seenSum_push seen (lenE fl e) hm0.2 l2 (by rw [HL2.out]; simpa [List.map_map, Function.comp_def, lenE] using HM.out.st.2.1) (by rw [HL2.out]; exact List.mem_map.2 ⟨e, hm0.1, rfl⟩)
    simp only [lenE, valOf, hv, lenV] at this
    rw [this, hbb, lenB_of HD.out.nob hg, hmm]
   have bd1 := seenSum_bd l2 seen HS.out.2
   have bd2 := seenSum_bd l2 (seen.push e.born) HS.out.2
   rw [HS.out.1] at bd1 bd2
   rw [hstep] at bd2
   obtain ⟨z, hz⟩ : ∃ z, z = seenSum l2 seen := ⟨_, rfl⟩
   rw [← hz] at hstep bd1 bd2 ⊢
   have z1 := bd1.1
   have z2 := bd2.2
   have HST := Lib.hid hstep
   have HZ := Lib.hid (And.intro hz (And.intro itX bX))
   have HE := Lib.hid he
   clear hstep hz bd1 bd2 itX bX hX hm0 hf hk hv hg ho hform hmm hbb hal2 hsz hib2 hbX he hrun
   go_wp2
   go_roundw
   case rel => exact ⟨seen.push e.born, HZ.out.2.1, HZ.out.2.2, by rw [HST.out]; congr 1; omega⟩
   case measure =>
    rw [iterSeen_at HIT1.out, iterSeen_at HZ.out.2.1]
    exact left_shrinks es seen e HE.out
end Go.Proofs.Ytlkhphhmhffdjaa
