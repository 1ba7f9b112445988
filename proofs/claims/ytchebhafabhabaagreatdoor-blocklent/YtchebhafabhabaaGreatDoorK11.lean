import Derived.Test.YtchebhafabhabaaGreatDoorK10
namespace Go.Proofs.YtchebhafabhabaaGreatDoor
open Go.RowKit
set_option linter.unusedVariables false

section
variable {P : Program} {ops : Array Oper} {Q : Exit → Act → World → Prop} {md : Region.Mode} {S : World → Prop} {E : Nat → Bool}

def AnyE (P : Program) (md : Region.Mode) (ops : Array Oper) (Q : Exit → Act → World → Prop) (S : World → Prop) (E : Nat → Bool) : Nat → Array Bool → Act → World → Prop
 | 0, listed, a, w => Region.ready md ops listed = [] ∧ Q .normal a w
 | fuel + 1, listed, a, w => (Region.ready md ops listed = [] → Q .normal a w) ∧
  ∀ i ∈ Region.ready md ops listed, wpOp P ops Q i (fun a' w' => (E i = true → S w') ∧ AnyE P md ops Q S E fuel (listed.setIfInBounds i true) a' w') a w
theorem AnyE.any : ∀ (fuel : Nat) (listed : Array Bool) (a : Act) (w : World), AnyE P md ops Q S E fuel listed a w → wpAny P md ops Q fuel listed a w
 | 0, _, _, _, h => h
 | fuel + 1, _, _, _, h => ⟨h.1, fun i hi => wpOp_mono (fun a' w' k => AnyE.any fuel _ a' w' k.2) (h.2 i hi)⟩
theorem wp_region_anyE {id : Nat} {a : Act} {w : World} (hm : P.follows .mixedOrders = true) (h : AnyE P .any ops Q S E ops.size (Array.replicate ops.size false) a w.drew) : (Code.region id ops true).wp P Q a w := wp_region_any hm (AnyE.any _ _ _ _ h)
def eFree (md : Region.Mode) (ops : Array Oper) (listed : Array Bool) (i : Nat) (E : Nat → Bool) : Bool :=
 (List.range ops.size).all fun j => j == i || listed.getD j true || E j || (match ops[j]? with
  | none => true
  | some oj => oj.after.any fun e => Region.binds md e && e.on == i)
theorem eFree_spec {i : Nat} {listed : Array Bool} (h : eFree md ops listed i E = true) (j : Nat) (oj : Oper) (hj : ops[j]? = some oj) (hne : j ≠ i) (hun : listed.getD j true = false) (hno : ∀ e ∈ oj.after, Region.binds md e = true → e.on ≠ i) : E j = true := by
 have hlt : j < ops.size := (Array.getElem?_eq_some_iff.1 hj).1
 have := List.all_eq_true.1 h j (List.mem_range.2 hlt)
 simp only [hj, Bool.or_eq_true, beq_iff_eq, hne, hun, false_or] at this
 rcases this with (h1 | h1) | h1
 ·cases h1
 ·exact h1
 ·obtain ⟨k, hk, he⟩ := Array.any_eq_true.1 h1
  simp only [Bool.and_eq_true, beq_iff_eq] at he
  exact absurd he.2 (hno _ (Array.getElem_mem hk) he.1)
theorem AnyE.first {i : Nat} {oi : Oper} {v : Value} (hi : ops[i]? = some oi) (hs : Region.noSelect ops = true) (hQ : ∀ c a w, Q (.panic c) (a.put oi.dst v) w → Q (.panic c) a w) : ∀ (fuel : Nat) (listed : Array Bool) (a : Act) (w : World),
  (∀ j oj, ops[j]? = some oj → j ≠ i → listed.getD j true = false → (∀ e ∈ oj.after, Region.binds md e = true → e.on ≠ i) → oi.apart ops oj = true ∧ E j = true) →
  i ∈ Region.ready md ops listed → YieldsIf P ops S oi v a → S w → AnyE P md ops Q S E fuel (listed.setIfInBounds i true) (a.put oi.dst v) w → AnyE P md ops Q S E (fuel + 1) listed a w := by
 intro fuel
 have sel := Region.noSelect_spec hs
 induction fuel with
 | zero =>
  intro listed a w _ hr hy hS H
  refine ⟨fun h => (by rw [h] at hr; cases hr), fun j hj => ?_⟩
  rcases Decidable.em (j = i) with rfl | hne
  ·exact hy.wpOp hi hS ⟨fun _ => hS, H⟩
  ·have k := ready_mono hj hne
   rw [H.1] at k; cases k
 | succ fuel ih =>
  intro listed a w hf hr hy hS H
  refine ⟨fun h => (by rw [h] at hr; cases hr), fun j hj => ?_⟩
  rcases Decidable.em (j = i) with rfl | hne
  ·exact hy.wpOp hi hS ⟨fun _ => hS, H⟩
  ·obtain ⟨hun, oj, hoj, hall⟩ := mem_ready.1 hj
   have hno : ∀ e ∈ oj.after, Region.binds md e = true → e.on ≠ i := fun e he hb heq => by
    have k1 := hall e he hb
    have k0 := (mem_ready.1 hr).1
    rw [heq] at k1
    by_cases hlt : i < listed.size
    ·simp [hlt] at k0 k1; rw [k0] at k1; cases k1
    ·simp [Array.getElem?_eq_none (Nat.le_of_not_lt hlt)] at k1
   obtain ⟨hap, hEj⟩ := hf j oj hoj hne hun hno
   refine wpOp_mono (fun a' w' h3 => ⟨h3.2.1, ?_⟩) (wpOp_putIf hoj hap (fun cs b => sel i oi cs b hi) (fun cs b => sel j oj cs b hoj) hQ hy (H.2 j (ready_mono hj hne)))
   refine ih (listed.setIfInBounds j true) a' w' (fun k ok hk hki hun' hno' => hf k ok hk hki ?_ hno') (ready_mono hr (Ne.symm hne)) h3.1 (h3.2.1 hEj) ?_
   ·rcases Decidable.em (j = k) with rfl | e
    ·exact hun
    ·rwa [getD_set_ne true e] at hun'
   ·rw [Array.setIfInBounds_comm _ _ hne]; exact h3.2.2
theorem AnyE.take {i : Nat} {oi : Oper} {fuel : Nat} {listed : Array Bool} {a : Act} {w : World} (v : Value) (hi : ops[i]? = some oi) (hs : Region.noSelect ops = true) (hf : Region.free md ops listed i = true) (he : eFree md ops listed i E = true) (hr : (Region.ready md ops listed).contains i = true)
  (hQ : ∀ c a w, Q (.panic c) (a.put oi.dst v) w → Q (.panic c) a w) (hy : YieldsIf P ops S oi v a) (hS : S w) (h : AnyE P md ops Q S E fuel (listed.setIfInBounds i true) (a.put oi.dst v) w) : AnyE P md ops Q S E (fuel + 1) listed a w :=
 AnyE.first hi hs hQ fuel listed a w (fun j oj hj hne hun hno => ⟨Region.free_spec hi hf j oj hj hne hun hno, eFree_spec he j oj hj hne hun hno⟩) (by simpa using hr) hy hS h
theorem AnyE.one {i : Nat} {o : Oper} {fuel : Nat} {listed : Array Bool} {a : Act} {w : World} (ho : ops[i]? = some o) (hr : Region.ready md ops listed = [i]) (hw : Region.wanted o (yielded ops a.tmps) = true)
  (h : ∀ K : Act → World → Prop, Hid (∀ a' w', ((E i = true → S w') ∧ AnyE P md ops Q S E fuel (listed.setIfInBounds i true) a' w') → K a' w') → Oper.wp P o a w K Q) : AnyE P md ops Q S E (fuel + 1) listed a w :=
 ⟨fun k => (by rw [hr] at k; cases k), fun j hj => by
  rw [hr] at hj
  obtain rfl : j = i := by simpa using hj
  exact wpOp_step ho (fun K' hK => by rw [if_pos hw]; exact h K' hK)⟩
theorem AnyE.done {listed : Array Bool} {a : Act} {w : World} (hr : Region.ready md ops listed = []) (h : Q .normal a w) : ∀ fuel, AnyE P md ops Q S E fuel listed a w
 | 0 => ⟨hr, h⟩
 | _ + 1 => ⟨fun _ => h, by rw [hr]; simp⟩
end
end Go.Proofs.YtchebhafabhabaaGreatDoor

namespace Go.Proofs.YtchebhafabhabaaGreatDoor
open Go.RowKit
set_option linter.unusedVariables false

def Cell1B (w : World) (g : Nat) (v : Value) (t : Nat) : Prop := w.heap[g]? = some (.cells #[v] t (0, 0))
theorem Cell1B.fb {w w' : World} {O : Nat → Prop} {g t : Nat} {v : Value} (h : Cell1B w g v t) (f : Fb w w' O) (k : ¬ O g) : Cell1B w' g v t := by
 unfold Cell1B at *
 rw [f.block g (Array.getElem?_eq_some_iff.1 h).1 k]
 exact h
theorem Cell1B.cell {w : World} {g t : Nat} {v : Value} (h : Cell1B w g v t) : w.cell? ⟨g, 0, none⟩ = some v := by unfold Cell1B at h; simp [World.cell?, h]
theorem Cell1B.fz {w : World} {g t : Nat} {v : Value} (h : Cell1B w g v t) : w.frozen? ⟨g, 0, none⟩ = false := by unfold Cell1B at h; simp [World.frozen?, h]
theorem Cell1B.lt {w : World} {g t : Nat} {v : Value} (h : Cell1B w g v t) : g < w.heap.size := (Array.getElem?_eq_some_iff.1 h).1
theorem Cell1B.set {w : World} {g t : Nat} {v : Value} (h : Cell1B w g v t) (x : Value) : Cell1B (w.setCell ⟨g, 0, none⟩ x) g x t := by
 unfold Cell1B at *; simp [World.setCell, Array.getElem?_modify, h]
theorem IBox.fb {w w' : World} {O : Nat → Prop} {g : Nat} {n p s : Int} {vk vv : Value} (h : IBox w g n p s vk vv) (f : Fb w w' O) (k : ¬ O g) : IBox w' g n p s vk vv := by
 unfold IBox at *
 rw [f.block g (Array.getElem?_eq_some_iff.1 h).1 k]
 exact h
structure SdI (gb gl g r : Nat) (n : Int) (ve : Value) (bp off np cp : Nat) (P : List Nat) (B0 : Nat) (st : List Nat × Value) (w : World) : Prop where
 b : Cell1B w gb (.pointer (some ⟨g, 0, none⟩)) 58
 l : Cell1B w gl st.2 36
 box : LBox w g (r : Int) n ve (.slice (some ⟨bp, off, none⟩) np cp)
 rdp : Rd w (.slice (some ⟨bp, off, none⟩) np cp) P
 own : Own w B0 st.2 st.1.length st.1
 by_ : Bys st.1
 len : st.1.length ≤ 131072
 lo : gb < B0 ∧ gl < B0 ∧ g < B0 ∧ bp < B0
 ne : gb ≠ gl ∧ g ≠ gl ∧ bp ≠ gl
 B : B0 ≤ w.heap.size
def SdO (gl : Nat) (st : List Nat × Value) (k : Nat) : Prop := k = gl ∨ st.2.ownBlock = some k
noncomputable def SdA (r : Nat) (P : List Nat) (last : List Nat) (it : It) : Bool × List Nat := (fitB r P last it, it.key)
theorem SdI.out {gb gl g r : Nat} {n : Int} {ve : Value} {bp off np cp : Nat} {P : List Nat} {B0 : Nat} {st : List Nat × Value} {w : World} (h : SdI gb gl g r n ve bp off np cp P B0 st w) : ¬ SdO gl st gb ∧ ¬ SdO gl st g ∧ ¬ SdO gl st bp := by
 have := h.lo
 have := h.ne
 refine ⟨?_, ?_, ?_⟩
 all_goals
  rintro (k | k)
  ·omega
  ·have := (h.own.2.lt _ k).1
   omega
set_option maxRecDepth 100000 in
set_option maxHeartbeats 4000000 in
theorem sound1_asks {gb gl g r N : Nat} {n : Int} {ve : Value} {bp off np cp : Nat} {P : List Nat} {B0 : Nat} (hr : 1 ≤ r ∧ r ≤ 16) (hN : N < 4294967296) (hPN : ∀ k, k < N → k / r * 4 + 4 ≤ P.length) (hP17 : P.length ≤ 131072)
  (st : List Nat × Value) (w : World) (it : It) (ak av : Option Addr) (kc vc kn vn : Nat) (hI : SdI gb gl g r n ve bp off np cp P B0 st w) (hnu : it.number < N) (hkn : kn = it.key.length) (hvn : vn = it.val.length) (hk : Rd w (.slice ak kn kc) it.key) (hv : Rd w (.slice av vn vc) it.val) (hkl : kn ≤ 131072) (hvl : vn ≤ 131072)
  (hst : ∀ w', Fb w w' (SdO gl st) → Rd w' (.slice ak kn kc) it.key ∧ Rd w' (.slice av vn vc) it.val) :
  Calls Tryz.prog 95 (#[.agg #[.int .i64 (it.number : Int), .int .i64 (it.place : Int), .int .i64 (it.shared : Int), .slice ak kn kc, .slice av vn vc]] ++ #[.pointer (some ⟨gb, 0, none⟩), .pointer (some ⟨gl, 0, none⟩)]) w fun e w' => e = .returned (.bool (SdA r P st.1 it).1) ∧ ∃ mm, SdI gb gl g r n ve bp off np cp P B0 ((SdA r P st.1 it).2, mm) w' ∧ Fb w w' (SdO gl st) ∧ ∀ k, SdO gl ((SdA r P st.1 it).2, mm) k → SdO gl st k ∨ w.heap.size ≤ k := by
 obtain ⟨nu, pl, sh, K, V⟩ := it
 obtain ⟨last, vl⟩ := st
 simp only at *
 obtain ⟨nl, hnl⟩ : ∃ nl, nl = last.length := ⟨_, rfl⟩
 obtain ⟨al, cl, rfl⟩ : ∃ a c, vl = .slice a nl c := by
  have h := own_form hI.own.2
  simp only [← hnl] at h
  exact h
 have hown : Own w B0 (.slice al nl cl) nl last := by
  have h := hI.own
  simp only [← hnl] at h
  exact h
 have hll : nl ≤ 131072 := by have := hI.len; simp only at this; omega
 have HOwn := Lib.hid hown
 unfold SdA
 simp only
 obtain ⟨FB, hFB⟩ : ∃ FB, FB = fitB r P last ⟨nu, pl, sh, K, V⟩ := ⟨_, rfl⟩
 rw [← hFB]
 have A1 := (Below.refl w.heap.size w).alloc (Nat.le_refl _) (.cells #[.int .i64 nu, .int .i64 pl, .int .i64 sh, .slice ak kn kc, .slice av vn vc] 116)
 have ib := IBox.new w nu pl sh (.slice ak kn kc) (.slice av vn vc)
 obtain ⟨X, hX⟩ : ∃ X, X = w.alloc (.cells #[.int .i64 nu, .int .i64 pl, .int .i64 sh, .slice ak kn kc, .slice av vn vc] 116) := ⟨_, rfl⟩
 have hXs : X.heap.size = w.heap.size + 1 := by rw [hX]; simp
 rw [← hX] at A1 ib
 have HX := Lib.hid hX
 have fX : Fb w X (fun _ => False) := Fb.of_below A1
 have HFi := Lib.hid (fits_any (L := last) nu pl sh (hI.box.fb fX id) (hI.rdp.fb fX id) (hk.later A1) (hv.later A1) ((hown.rd hI.by_ (by omega)).later A1) hkl hvl hr (by omega) (hPN nu hnu) hP17)
 rw [← hFB] at HFi
 have HI := Lib.hid hI
 have HA1 := Lib.hid A1
 have HIb := Lib.hid ib
 have HXs := Lib.hid hXs
 have HSt := Lib.hid hst
 have HKn := Lib.hid hkn
 have HBk := Lib.hid hk.1
 have HNl := Lib.hid hnl
 obtain ⟨c0, c1, c2, c3, c4⟩ := ib.cells
 have d0 := (hI.b.fb fX id).cell
 have d1 := (hI.l.fb fX id).cell
 clear hown A1 hX hFB hk hv hst hI hXs fX ib hPN hP17 hnu hN hkn hvn hnl
 go_enter Tryz.func95, Tryz.ntmps95
 go_upto_region 1 with fail
 rw [← HX.out]
 clear HX
 go_wp2_with fail
 refine Calls.mono HFi.out ?_
 rintro z X1 ⟨rfl, b1⟩
 have HB1 : Hid (Below w.heap.size w X1) := HA1.out.trans (b1.mono HA1.out.size)
 have HIb1 := Lib.hid (HIb.out.later b1)
 have HS1 : Hid (w.heap.size < X1.heap.size) := by have := b1.size; have := HXs.out; unfold Hid; omega
 clear b1 HA1 HIb HXs HFi c0 c1 c2 c3 c4 d0 d1
 have HCut := Lib.hid ((HOwn.out.take (k := 0) (Nat.zero_le _)).later HB1.out)
 have HRk := Lib.hid (HSt.out X1 (Fb.of_below HB1.out)).1
 have HNi : Hid (¬ SdO gl (last, .slice al nl cl) w.heap.size) := by
  rintro (k | k)
  ·have := HI.out.l.lt; omega
  ·have := (HI.out.own.2.lt _ k).2; omega
 have HLs : Hid (∀ wy, Fb X1 wy (fun k => (Value.slice al nl cl).ownBlock = some k) → wy.cell? ⟨gl, 0, none⟩ = some (.slice al nl cl)) := fun wy hy => ((HI.out.l.fb (Fb.of_below HB1.out (O := fun _ => False)) id).fb hy (fun k => by have := (HOwn.out.2.lt _ k).1; have := HI.out.lo; omega)).cell
 go_upto_region 2 with fail
 have BD : Fb X1 X1.drew (fun k => (Value.slice al nl cl).ownBlock = some k) := Fb.of_below ((Below.refl _ _).drew)
 refine wp_region_noPanic ?_
 refine wp_region_anyE (S := fun wx => Fb X1 wx (fun k => (Value.slice al nl cl).ownBlock = some k)) (E := fun j => decide (j < 5)) (by kernel_rfl) ?_
 refine AnyE.take (i := 0) (.slice al nl cl) rfl (by kernel_rfl) (by kernel_rfl) (by kernel_rfl) (by kernel_rfl) (fun _ _ _ h => h) (.inl ⟨by rfl, fun wy hy => by (have q := HLs.out wy hy; go_simp; done)⟩) BD ?_
 try simp only [Act.put]
 refine AnyE.take (i := 1) (.slice al 0 cl) rfl (by kernel_rfl) (by kernel_rfl) (by kernel_rfl) (by kernel_rfl) (fun _ _ _ h => h) (.inl ⟨by rfl, fun wy hy => by first | (go_simp; done) | (cases al <;> (go_simp; done))⟩) BD ?_
 try simp only [Act.put]
 refine AnyE.take (i := 2) (.pointer (some ⟨w.heap.size, 3, none⟩)) rfl (by kernel_rfl) (by kernel_rfl) (by kernel_rfl) (by kernel_rfl) (fun _ _ _ h => h) (.inl ⟨by rfl, fun wy hy => by (go_simp; done)⟩) BD ?_
 try simp only [Act.put]
 refine AnyE.take (i := 3) (.slice ak kn kc) rfl (by kernel_rfl) (by kernel_rfl) (by kernel_rfl) (by kernel_rfl) (fun _ _ _ h => h) (.inl ⟨by rfl, fun wy hy => by (obtain ⟨q0, q1, q2, q3, q4⟩ := (HIb1.out.fb hy (fun k => HNi.out (Or.inr k))).cells; go_simp; done)⟩) BD ?_
 try simp only [Act.put]
 refine AnyE.one (i := 4) rfl (by kernel_rfl) (by rfl) (fun KK hK => ?_)
 refine bstep_append _ _ rfl (B := B0) (n := 0) (xs := []) (bs := K) rfl (HCut.out.later ((Below.refl _ _).drew)) rfl (HRk.out.later ((Below.refl _ _).drew)) (by have := HKn.out; omega) (Nat.le_trans HI.out.B HB1.out.size) (fun a3 c3 X3 own3 gr3 lo3 => ?_)
 have f13 : Fb X1 X3 (fun k => (Value.slice al nl cl).ownBlock = some k) := BD.trans (Fb.of_grown gr3 (fun i h => by rw [← h]; cases al <;> rfl))
 rw [Nat.zero_add, ← HKn.out] at own3 lo3 ⊢
 refine hK.out _ _ ⟨fun _ => f13, ?_⟩
 clear hK
 try simp only [Act.put]
 have hlo3 : ∀ k, (Value.slice a3 kn c3).ownBlock = some k → (Value.slice al nl cl).ownBlock = some k ∨ k = X1.heap.size := fun k hk => by
  rcases lo3 k hk with h | h
  ·left; rw [← h]; cases al <;> rfl
  ·right; exact h
 have HLo3 := Lib.hid hlo3
 have HOwn3 : Hid (Own X3 B0 (.slice a3 kn c3) kn K) := own3
 have HF13 := Lib.hid f13
 clear lo3 gr3 hlo3 own3 f13
 have hnog : ¬ (Value.slice al nl cl).ownBlock = some gl := fun k => by have := (HOwn.out.2.lt _ k).1; have := HI.out.lo; omega
 have l3 := ((HI.out.l.fb (Fb.of_below HB1.out (O := fun _ => False)) id).fb HF13.out hnog)
 simp only at l3
 have q0 := l3.cell
 have q1 := l3.fz
 have HL4 := Lib.hid (l3.set (.slice a3 kn c3))
 have HF34 : Hid (Fb X3 (X3.setCell ⟨gl, 0, none⟩ (.slice a3 kn c3)) (fun k => k = gl)) := Fb.of_grown (setg X3 gl 0 (.slice a3 kn c3)) (fun i h => (Option.some.inj h).symm)
 clear l3 hnog
 refine AnyE.one (i := 5) rfl (by kernel_rfl) (by rfl) (fun KK hK => ?_)
 go_simp
 refine hK.out _ _ ⟨fun h => (by cases h), ?_⟩
 clear hK
 refine AnyE.done (by kernel_rfl) (NoPanic.normal ?_) _
 generalize X3.setCell ⟨gl, 0, none⟩ (.slice a3 kn c3) = X4 at *
 clear q0 q1
 go_simp
 go_step
 go_wp2
 go_ret
 have f13 := HF13.out
 have f34 := HF34.out
 have hO := HI.out.out
 have fA : Fb w X1 (SdO gl (last, .slice al nl cl)) := Fb.of_below HB1.out
 have fB : Fb X1 X3 (SdO gl (last, .slice al nl cl)) := f13.mono (fun _ _ h => Or.inr h)
 have fC : Fb X3 X4 (SdO gl (last, .slice al nl cl)) := f34.mono (fun _ _ h => Or.inl h)
 have fw := (fA.trans fB).trans fC
 have hlen : kn = K.length := HKn.out
 refine ⟨rfl, .slice a3 kn c3, ⟨HI.out.b.fb fw hO.1, HL4.out, HI.out.box.fb fw hO.2.1, HI.out.rdp.fb fw hO.2.2, ?_, HBk.out, by simp only; omega, HI.out.lo, HI.out.ne, Nat.le_trans HI.out.B fw.size⟩, fw, ?_⟩
 ·simp only
  rw [← hlen]
  exact HOwn3.out.fb f34 (fun k hk h => by have := (HOwn3.out.2.lt _ hk).1; have := HI.out.lo; omega)
 ·rintro k (h | h)
  ·exact .inl (.inl h)
  ·rcases HLo3.out k h with h | h
   ·exact .inl (.inr h)
   ·right; have := HS1.out; omega
end Go.Proofs.YtchebhafabhabaaGreatDoor

namespace Go.Proofs.YtchebhafabhabaaGreatDoor
open Go.RowKit Go.Shelf
set_option linter.unusedVariables false

theorem sound1_asker {gb gl g r N : Nat} {n : Int} {ve : Value} {bp off np cp : Nat} {P : List Nat} {B0 : Nat} (hr : 1 ≤ r ∧ r ≤ 16) (hN : N < 4294967296) (hPN : ∀ k, k < N → k / r * 4 + 4 ≤ P.length) (hP17 : P.length ≤ 131072) :
  Asker (List Nat) Value 95 #[.pointer (some ⟨gb, 0, none⟩), .pointer (some ⟨gl, 0, none⟩)] N B0 (SdI gb gl g r n ve bp off np cp P B0) (SdO gl) (SdA r P) where
 enters := enters_of Tryz.func95 (by kernel_rfl) rfl
 lt := fun st w k h ho => by
  rcases ho with rfl | ho
  ·exact h.l.lt
  ·exact (h.own.2.lt _ ho).2
 stays := fun st w w' O' h f hk hL => by
  have hl := h.lo
  have hB := h.B
  have hgl : ¬ O' gl := hk gl (by omega) (Or.inl rfl)
  have hlo : ∀ k, k < B0 → ¬ O' k := fun k h1 h2 => by have := hL k h2; omega
  exact ⟨h.b.fb f (hlo _ hl.1), h.l.fb f hgl, h.box.fb f (hlo _ hl.2.2.1), h.rdp.fb f (hlo _ hl.2.2.2), h.own.fb f (fun k ho => hk k (h.own.2.lt _ ho).2 (Or.inr ho)), h.by_, h.len, h.lo, h.ne, Nat.le_trans h.B f.size⟩
 asks := sound1_asks hr hN hPN hP17
noncomputable def soundB (r n : Nat) (E P : List Nat) : Bool := (walkS E (SdA r P) n 0 0 [] []).2.1 && decide ((walkS E (SdA r P) n 0 0 [] []).1 = E.length)
set_option maxRecDepth 100000 in
set_option maxHeartbeats 4000000 in
theorem sound_any {W : World} {g r n b off ne ce bp offp np cp : Nat} {E P : List Nat} (hbx : LBox W g (r : Int) (n : Int) (.slice (some ⟨b, off, none⟩) ne ce) (.slice (some ⟨bp, offp, none⟩) np cp)) (hE : Rd W (.slice (some ⟨b, off, none⟩) ne ce) E) (hP : Rd W (.slice (some ⟨bp, offp, none⟩) np cp) P)
  (hr : 1 ≤ r ∧ r ≤ 16) (hn : n < 4294967296) (hPN : ∀ k, k < n → k / r * 4 + 4 ≤ P.length) (hP17 : P.length ≤ 131072) (hel : E.length ≤ 131072) (hbl : b < W.heap.size) (hpl : bp < W.heap.size) :
  Calls Tryz.prog 64 #[.pointer (some ⟨g, 0, none⟩)] W fun e w' => e = .returned (.bool (soundB r n E P)) ∧ Below W.heap.size W w' := by
 have hgl : g < W.heap.size := (Array.getElem?_eq_some_iff.1 hbx).1
 obtain ⟨SB, hSB⟩ : ∃ SB, SB = soundB r n E P := ⟨_, rfl⟩
 rw [← hSB]
 have A1 := (Below.refl W.heap.size W).alloc (Nat.le_refl _) (.cells #[.pointer (some ⟨g, 0, none⟩)] 58)
 have A2 := A1.alloc A1.size (.cells #[.slice none 0 0] 36)
 have B1 : Cell1B (W.alloc (.cells #[.pointer (some ⟨g, 0, none⟩)] 58)) W.heap.size (.pointer (some ⟨g, 0, none⟩)) 58 := heap_alloc_new W _
 have B2 : Cell1B ((W.alloc (.cells #[.pointer (some ⟨g, 0, none⟩)] 58)).alloc (.cells #[.slice none 0 0] 36)) W.heap.size (.pointer (some ⟨g, 0, none⟩)) 58 := B1.fb (Fb.of_below ((Below.refl _ _).alloc (Nat.le_refl _) _) (O := fun _ => False)) id
 have B3 : Cell1B ((W.alloc (.cells #[.pointer (some ⟨g, 0, none⟩)] 58)).alloc (.cells #[.slice none 0 0] 36)) (W.heap.size + 1) (.slice none 0 0) 36 := by
  have := heap_alloc_new (W.alloc (.cells #[.pointer (some ⟨g, 0, none⟩)] 58)) (.cells #[.slice none 0 0] 36)
  simpa [Cell1B] using this
 obtain ⟨X, hX⟩ : ∃ X, X = (W.alloc (.cells #[.pointer (some ⟨g, 0, none⟩)] 58)).alloc (.cells #[.slice none 0 0] 36) := ⟨_, rfl⟩
 have hXs : X.heap.size = W.heap.size + 2 := by rw [hX]; simp
 rw [← hX] at A2 B2 B3
 have fX : Fb W X (fun _ => False) := Fb.of_below A2
 have hI : SdI W.heap.size (W.heap.size + 1) g r (n : Int) (.slice (some ⟨b, off, none⟩) ne ce) bp offp np cp P X.heap.size ([], .slice none 0 0) X := ⟨B2, B3, hbx.fb fX id, hP.fb fX id, ownNil _ _, (fun x hx => by cases hx), Nat.zero_le _, by omega, by omega, Nat.le_refl _⟩
 have hng : ∀ k, k < W.heap.size → ¬ SdO (W.heap.size + 1) (([] : List Nat), .slice none 0 0) k := fun k hk h => by
  rcases h with h | h
  ·omega
  ·cases h
 have HWk := Lib.hid (walk_any (sound1_asker (gb := W.heap.size) (gl := W.heap.size + 1) (g := g) (n := (n : Int)) (ve := .slice (some ⟨b, off, none⟩) ne ce) (bp := bp) (off := offp) (np := np) (cp := cp) (B0 := X.heap.size) hr hn hPN hP17) 0 0 (hbx.fb fX id) (hE.fb fX id) (Nat.le_refl _) hI (hng g hgl) (hng b hbl) (by omega) (by omega) hel hn (by omega) (Nat.zero_le _))
 obtain ⟨res, hres⟩ : ∃ res, res = walkS E (SdA r P) n 0 0 [] [] := ⟨_, rfl⟩
 have HSB : Hid (SB = (res.2.1 && decide (res.1 = E.length))) := by rw [hres]; exact hSB
 have HnE : Hid (ne = E.length) := (rd_lens hE).1
 simp only [Nat.sub_zero] at HWk
 rw [← hres] at HWk
 obtain ⟨p, all, last⟩ := res
 have HX := Lib.hid hX
 have HA2 := Lib.hid A2
 have HXs := Lib.hid hXs
 have d0 := B2.cell
 clear A1 A2 B1 B2 B3 hX hXs fX hI hng hres hbx hE hP hSB hPN
 go_enter Tryz.func64, Tryz.ntmps64
 go_upto_region 2 with fail
 rw [← HX.out]
 clear HX
 go_wp2_with fail
 refine Calls.mono HWk.out ?_
 rintro z X1 ⟨rfl, mm, hI1, f1, hlo1⟩
 simp only at *
 have HB : Hid (Below W.heap.size W X1) := HA2.out.trans (f1.below (by have := HXs.out; omega) (fun k h => by rcases h with h | h; omega; cases h))
 obtain ⟨e0, e1, e2, e3⟩ := hI1.box.cells
 have d1 := hI1.b.cell
 clear hI1 f1 hlo1 HWk d0
 cases all with
 | false =>
  go_wp2
  go_ret
  exact ⟨by rw [HSB.out]; rfl, HB.out⟩
 | true =>
  obtain ⟨Y, hY⟩ : ∃ Y : Bool, Y = ((p : Int) == (ne : Int)) := ⟨_, rfl⟩
  have hf : SB = Y := by
   rw [HSB.out, hY, ← HnE.out]
   simp only [Bool.true_and]
   rw [Bool.eq_iff_iff]
   simp
   omega
  have HF := Lib.hid (hf.trans hY)
  clear hf hY
  go_wp2
  go_ret
  exact ⟨by rw [HF.out]; rfl, HB.out⟩
end Go.Proofs.YtchebhafabhabaaGreatDoor

namespace Go.Proofs.YtchebhafabhabaaGreatDoor
open Go.RowKit Go.Shelf
set_option linter.unusedVariables false

def foldB (r : Nat) : Bs → List (List Nat × List Nat) → Bs
 | s, [] => s
 | s, kv :: t => foldB r (addB r s kv.1 kv.2) t
def itemsB (r : Nat) : Bs → List (List Nat × List Nat) → List It
 | _, [] => []
 | s, kv :: t => ⟨s.n, s.es.length, shOf r s kv.1, kv.1, kv.2⟩ :: itemsB r (addB r s kv.1 kv.2) t
def askB {S : Type} (A : S → It → Bool × S) (p : Nat) : List It → S → Nat × Bool × S
 | [], st => (p, true, st)
 | it :: t, st => if (A st it).1 = true then askB A p t (A st it).2 else (it.place, false, (A st it).2)
theorem com_take : ∀ (a b : List Nat), a.take (comL a b) = b.take (comL a b)
 | [], [] => rfl
 | [], y :: b => by simp [comL]
 | x :: a, [] => by simp [comL]
 | x :: a, y :: b => by
  simp only [comL]
  split
  ·rename_i h
   have e : x = y := by simpa using h
   rw [e]
   simp only [List.take_succ_cons, com_take a b]
  ·rfl
theorem foldB_es (r : Nat) : ∀ (l : List (List Nat × List Nat)) (s : Bs), ∃ m, (foldB r s l).es = s.es ++ m
 | [], s => ⟨[], by simp [foldB]⟩
 | kv :: t, s => by
  obtain ⟨m, h⟩ := foldB_es r t (addB r s kv.1 kv.2)
  exact ⟨recL (shOf r s kv.1) (kv.1.drop (shOf r s kv.1)) kv.2 ++ m, by simp only [foldB]; rw [h]; simp [addB, esOf]⟩
theorem foldB_ps (r : Nat) : ∀ (l : List (List Nat × List Nat)) (s : Bs), ∃ m, (foldB r s l).ps = s.ps ++ m
 | [], s => ⟨[], by simp [foldB]⟩
 | kv :: t, s => by
  obtain ⟨m, h⟩ := foldB_ps r t (addB r s kv.1 kv.2)
  refine ⟨(if s.n % r = 0 then be4 s.es.length else []) ++ m, ?_⟩
  simp only [foldB]
  rw [h]
  simp only [addB, psOf]
  split <;> simp
theorem foldB_app (r : Nat) : ∀ (a b : List (List Nat × List Nat)) (s : Bs), foldB r s (a ++ b) = foldB r (foldB r s a) b
 | [], b, s => rfl
 | kv :: t, b, s => by simp only [List.cons_append, foldB]; exact foldB_app r t b _
theorem foldB_n (r : Nat) : ∀ (l : List (List Nat × List Nat)) (s : Bs), (foldB r s l).n = s.n + l.length
 | [], s => rfl
 | kv :: t, s => by simp only [foldB]; rw [foldB_n r t]; simp [addB]; omega
theorem piece_at (pre x rest : List Nat) (hx : x.length < 18446744073709551616) : pieceOf (pre ++ (uintL x.length ++ (x ++ rest))) pre.length = some (pre.length + (uintL x.length).length, x.length) := by
 unfold pieceOf
 rw [uint_trip x.length hx pre (x ++ rest)]
 rw [if_pos ⟨rfl, by simp; omega⟩]
theorem record_at (pre rest : List Nat) (sh : Nat) (x v : List Nat) (hs : sh ≤ (pre ++ (recL sh x v ++ rest)).length) (hl : (pre ++ (recL sh x v ++ rest)).length < 18446744073709551616) :
  ∃ a b, recordOf (pre ++ (recL sh x v ++ rest)) pre.length = some (sh, (a, x.length), (b, v.length)) ∧ ((pre ++ (recL sh x v ++ rest)).drop a).take x.length = x ∧ ((pre ++ (recL sh x v ++ rest)).drop b).take v.length = v ∧ b + v.length = pre.length + (recL sh x v).length ∧ pre.length < a ∧ a + x.length < b := by
 have e0 : pre ++ (recL sh x v ++ rest) = pre ++ (uintL sh ++ (uintL x.length ++ (x ++ (uintL v.length ++ (v ++ rest))))) := by simp [recL]
 have e1 : pre ++ (recL sh x v ++ rest) = (pre ++ uintL sh) ++ (uintL x.length ++ (x ++ (uintL v.length ++ (v ++ rest)))) := by rw [e0]; simp
 have e2 : pre ++ (recL sh x v ++ rest) = (pre ++ uintL sh ++ uintL x.length ++ x) ++ (uintL v.length ++ (v ++ rest)) := by rw [e0]; simp
 have e3 : pre ++ (recL sh x v ++ rest) = (pre ++ uintL sh ++ uintL x.length) ++ (x ++ (uintL v.length ++ (v ++ rest))) := by rw [e0]; simp
 have e4 : pre ++ (recL sh x v ++ rest) = (pre ++ uintL sh ++ uintL x.length ++ x ++ uintL v.length) ++ (v ++ rest) := by rw [e0]; simp
 obtain ⟨E, hE⟩ : ∃ E, E = pre ++ (recL sh x v ++ rest) := ⟨_, rfl⟩
 rw [← hE] at hs hl e0 e1 e2 e3 e4 ⊢
 have hlen : E.length = pre.length + (uintL sh).length + (uintL x.length).length + x.length + (uintL v.length).length + v.length + rest.length := by rw [e0]; simp; omega
 have u := uint_trip sh (by omega) pre (uintL x.length ++ (x ++ (uintL v.length ++ (v ++ rest))))
 rw [← e0] at u
 have p1 := piece_at (pre ++ uintL sh) x (uintL v.length ++ (v ++ rest)) (by omega)
 rw [← e1] at p1
 have p2 := piece_at (pre ++ uintL sh ++ uintL x.length ++ x) v rest (by omega)
 rw [← e2] at p2
 have q1 := (uintL_len sh).1
 have q2 := (uintL_len x.length).1
 have q3 := (uintL_len v.length).1
 refine ⟨(pre ++ uintL sh ++ uintL x.length).length, (pre ++ uintL sh ++ uintL x.length ++ x ++ uintL v.length).length, ?_, ?_, ?_, ?_, ?_, ?_⟩
 ·unfold recordOf
  rw [u]
  rw [if_pos ⟨rfl, hs⟩]
  have s1 : pre.length + (uintL sh).length = (pre ++ uintL sh).length := by simp
  simp only [s1, p1]
  have s2 : (pre ++ uintL sh).length + (uintL x.length).length + x.length = (pre ++ uintL sh ++ uintL x.length ++ x).length := by simp; omega
  simp only [s2, p2]
  simp
  omega
 ·rw [e3, List.drop_left, List.take_left]
 ·rw [e4, List.drop_left, List.take_left]
 ·simp [recL]; omega
 ·simp; omega
 ·simp; omega
theorem com_la (r : Nat) (s : Bs) (k v : List Nat) (h : s.la.length ≤ s.es.length) : shOf r s k ≤ s.la.length ∧ shOf r s k ≤ k.length ∧ (addB r s k v).la.length ≤ (addB r s k v).es.length := by
 have c := comL_le s.la k
 have h1 : shOf r s k ≤ s.la.length ∧ shOf r s k ≤ k.length := by unfold shOf; split <;> omega
 refine ⟨h1.1, h1.2, ?_⟩
 simp only [addB, esOf, recL, List.length_append, List.length_drop]
 omega
theorem walk_lay {S : Type} (A : S → It → Bool × S) (r : Nat) : ∀ (l : List (List Nat × List Nat)) (s : Bs) (key : List Nat) (st : S) (E : List Nat), E = (foldB r s l).es → (s.n % r = 0 ∨ key = s.la) → s.la.length ≤ s.es.length → E.length < 18446744073709551616 →
  walkS E A l.length s.n s.es.length key st = askB A E.length (itemsB r s l) st
 | [], s, key, st, E, hE, hk, hla, hl => by simp [walkS, askB, itemsB, hE, foldB]
 | kv :: t, s, key, st, E, hE, hk, hla, hl => by
  obtain ⟨c1, c2, c3⟩ := com_la r s kv.1 kv.2 hla
  obtain ⟨m, hm⟩ := foldB_es r t (addB r s kv.1 kv.2)
  have hE2 : E = s.es ++ (recL (shOf r s kv.1) (kv.1.drop (shOf r s kv.1)) kv.2 ++ m) := by rw [hE]; simp only [foldB]; rw [hm]; simp [addB, esOf]
  obtain ⟨a, b, h1, h2, h3, h4, h5, h6⟩ := record_at s.es m (shOf r s kv.1) (kv.1.drop (shOf r s kv.1)) kv.2 (by simp; omega) (by rw [← hE2]; exact hl)
  rw [← hE2] at h1 h2 h3
  have hkl : ¬ key.length < shOf r s kv.1 := by
   rcases hk with hk | hk
   ·unfold shOf; rw [if_pos hk]; omega
   ·rw [hk]; omega
  have hkk : key.take (shOf r s kv.1) ++ kv.1.drop (shOf r s kv.1) = kv.1 := by
   rcases hk with hk | hk
   ·have : shOf r s kv.1 = 0 := by unfold shOf; rw [if_pos hk]
    rw [this]; simp
   ·rw [hk]
    have : s.la.take (shOf r s kv.1) = kv.1.take (shOf r s kv.1) := by
     unfold shOf
     split
     ·simp
     ·exact com_take _ _
    rw [this, List.take_append_drop]
  simp only [List.length_cons, walkS, h1, hkl, if_false, h2, h3, hkk, itemsB, askB]
  have e5 : b + kv.2.length = (addB r s kv.1 kv.2).es.length := by rw [h4]; simp [addB, esOf]
  rw [e5]
  have ih := walk_lay A r t (addB r s kv.1 kv.2) kv.1 (A st ⟨s.n, s.es.length, shOf r s kv.1, kv.1, kv.2⟩).2 E hE (.inr rfl) c3 hl
  have e6 : (addB r s kv.1 kv.2).n = s.n + 1 := rfl
  rw [e6] at ih
  rw [ih]
def Up : List Nat → List (List Nat × List Nat) → Prop
 | _, [] => True
 | la, kv :: t => ordC la kv.1 < 0 ∧ Up kv.1 t
theorem word_four (A B : List Nat) (x i : Nat) (hx : x < 4294967296) (hA : A.length = i * 4) : wordAt ((A ++ be4 x) ++ B) i = x := by
 unfold wordAt be4
 have g : ∀ k, k < 4 → ((A ++ [x / 16777216, x / 65536 % 256, x / 256 % 256, x % 256]) ++ B).getD (i * 4 + k) 0 = [x / 16777216, x / 65536 % 256, x / 256 % 256, x % 256].getD k 0 := fun k hk => by
  rw [List.getD_eq_getElem?_getD, List.getD_eq_getElem?_getD, List.append_assoc, List.getElem?_append_right (by omega), hA, show i * 4 + k - i * 4 = k by omega, List.getElem?_append_left (by simpa using hk)]
 have g0 := g 0 (by omega)
 rw [Nat.add_zero] at g0
 rw [g0, g 1 (by omega), g 2 (by omega), g 3 (by omega)]
 simp only [List.getD_cons_zero, List.getD_cons_succ]
 unfold rdle
 omega
theorem ceil_now {n r : Nat} (hr : 1 ≤ r) : (n % r = 0 → (n + r - 1) / r = n / r) ∧ (n % r ≠ 0 → (n + r - 1) / r = n / r + 1) ∧ (n + 1 + r - 1) / r = n / r + 1 := by
 have h := Nat.div_add_mod n r
 have hm := Nat.mod_lt n (show 0 < r by omega)
 generalize n / r = q at *
 generalize n % r = m at *
 have p1 : ∀ y, (r * q + y) / r = q + y / r := fun y => Nat.mul_add_div (by omega) q y
 refine ⟨fun h0 => ?_, fun h0 => ?_, ?_⟩
 ·rw [show n + r - 1 = r * q + (r - 1) by omega, p1, Nat.div_eq_of_lt (by omega)]; rfl
 ·rw [show n + r - 1 = r * q + (r + (m - 1)) by omega, p1, Nat.add_div_left _ (by omega), Nat.div_eq_of_lt (by omega)]
 ·rw [show n + 1 + r - 1 = r * q + (r + m) by omega, p1, Nat.add_div_left _ (by omega), Nat.div_eq_of_lt (by omega)]
theorem ps_next {r : Nat} {s : Bs} (k v : List Nat) (hr : 1 ≤ r) (h : s.ps.length = (s.n + r - 1) / r * 4) : (addB r s k v).ps.length = ((addB r s k v).n + r - 1) / r * 4 := by
 obtain ⟨c1, c2, c3⟩ := ceil_now (n := s.n) hr
 simp only [addB, psOf]
 rw [c3]
 split
 ·rename_i h0
  rw [List.length_append, h, c1 h0]
  simp [be4]
  omega
 ·rename_i h0
  rw [h, c2 h0]
theorem ps_fold {r : Nat} (hr : 1 ≤ r) : ∀ (l : List (List Nat × List Nat)) (s : Bs), s.ps.length = (s.n + r - 1) / r * 4 → (foldB r s l).ps.length = ((foldB r s l).n + r - 1) / r * 4
 | [], s, h => h
 | kv :: t, s, h => by simp only [foldB]; exact ps_fold hr t _ (ps_next kv.1 kv.2 hr h)
theorem word_lay {r : Nat} (hr : 1 ≤ r) (kv : List Nat × List Nat) (t : List (List Nat × List Nat)) (s : Bs) (h : s.ps.length = (s.n + r - 1) / r * 4) (h0 : s.n % r = 0) (he : s.es.length < 4294967296) : wordAt (foldB r s (kv :: t)).ps (s.n / r) = s.es.length := by
 obtain ⟨m, hm⟩ := foldB_ps r t (addB r s kv.1 kv.2)
 simp only [foldB]
 rw [hm]
 simp only [addB, psOf, if_pos h0]
 exact word_four _ _ _ _ he (by rw [h, (ceil_now (n := s.n) hr).1 h0])
theorem fitB_iff (r : Nat) (P last : List Nat) (it : It) : fitB r P last it = true ↔ fitP r P last it := by
 unfold fitB
 simp
theorem ask_sound {r : Nat} (hr : 1 ≤ r) : ∀ (l : List (List Nat × List Nat)) (s : Bs) (P : List Nat) (p : Nat), P = (foldB r s l).ps → (∀ kv ∈ l, okIt kv.1 kv.2) → Up s.la l → s.ps.length = (s.n + r - 1) / r * 4 → (foldB r s l).es.length < 4294967296 →
  ∃ st, askB (SdA r P) p (itemsB r s l) s.la = (p, true, st)
 | [], s, P, p, hP, hok, hup, hps, he => ⟨s.la, rfl⟩
 | kv :: t, s, P, p, hP, hok, hup, hps, he => by
  obtain ⟨m, hm⟩ := foldB_es r (kv :: t) s
  have hes : s.es.length < 4294967296 := by rw [hm] at he; simp at he; omega
  have hf : fitB r P s.la ⟨s.n, s.es.length, shOf r s kv.1, kv.1, kv.2⟩ = true := by
   refine (fitB_iff ..).2 ?_
   refine ⟨hup.1, hok kv (by simp), fun h0 => ⟨?_, ?_⟩, fun h0 => ?_⟩
   ·unfold shOf; exact if_pos h0
   ·rw [hP]; exact (word_lay hr kv t s hps h0 hes).symm
   ·unfold shOf; exact if_neg h0
  simp only [itemsB, askB, SdA, hf, if_true]
  exact ask_sound hr t (addB r s kv.1 kv.2) P p hP (fun x hx => hok x (by simp [hx])) hup.2 (ps_next _ _ hr hps) he
theorem sound_lay {r : Nat} (hr : 1 ≤ r) (l : List (List Nat × List Nat)) (hok : ∀ kv ∈ l, okIt kv.1 kv.2) (hup : Up [] l) (he : (foldB r Bs.zero l).es.length < 4294967296) : soundB r l.length (foldB r Bs.zero l).es (foldB r Bs.zero l).ps = true := by
 have hz : Bs.zero.ps.length = (Bs.zero.n + r - 1) / r * 4 := by
  have := (ceil_now (n := 0) hr).1 (by simp)
  simp only [Bs.zero]
  rw [this]
  simp
 obtain ⟨st, h⟩ := ask_sound hr l Bs.zero _ (foldB r Bs.zero l).es.length rfl hok hup hz he
 have hw := walk_lay (SdA r (foldB r Bs.zero l).ps) r l Bs.zero [] [] _ rfl (.inr rfl) (Nat.le_refl _) (by omega)
 unfold soundB
 have e1 : walkS (foldB r Bs.zero l).es (SdA r (foldB r Bs.zero l).ps) l.length 0 0 [] [] = ((foldB r Bs.zero l).es.length, true, st) := by
  rw [← h]; exact hw
 rw [e1]
 simp
def kvL (l : List EntD) : List (List Nat × List Nat) := l.map fun e => (keyL e, e.val)
theorem addE_ok {r : Nat} {s : Bs} {e : EntD} (h : (addE r s e).1 = 0) : checkS e = 0 ∧ ¬ ordC (keyL e) s.la ≤ 0 ∧ fullB r s (keyL e) e.val = false ∧ (addE r s e).2 = addB r s (keyL e) e.val := by
 unfold addE at *
 split at h
 ·rename_i k; exact absurd h k
 ·split at h
  ·cases h
  ·split at h
   ·cases h
   ·rename_i k1 k2 k3
    rw [if_neg k1, if_neg k2, if_neg k3]
    exact ⟨Decidable.not_not.1 k1, k2, by simpa using k3, rfl⟩
theorem bldS_fold (r : Nat) : ∀ (l : List EntD) (s : Bs), (bldS r s l).1 = 0 → (bldS r s l).2 = foldB r s (kvL l) ∧ (∀ e ∈ l, checkS e = 0) ∧ Up s.la (kvL l) ∧ (l = [] ∨ (foldB r s (kvL l)).es.length + (foldB r s (kvL l)).ps.length + 9 ≤ 131072)
 | [], s, h => ⟨rfl, (fun e he => by cases he), trivial, .inl rfl⟩
 | e :: t, s, h => by
  simp only [bldS] at h ⊢
  split at h
  ·rename_i k
   obtain ⟨c1, c2, c3, c4⟩ := addE_ok k
   rw [if_pos k]
   rw [c4] at h ⊢
   obtain ⟨i1, i2, i3, i4⟩ := bldS_fold r t _ h
   refine ⟨i1, ?_, ⟨?_, i3⟩, .inr ?_⟩
   ·intro x hx
    rcases List.mem_cons.1 hx with rfl | hx
    ·exact c1
    ·exact i2 x hx
   ·show ordC s.la (keyL e) < 0
    rw [ordC_swap (keyL e) s.la]
    omega
   ·rcases i4 with rfl | i4
    ·simp only [kvL, List.map_cons, List.map_nil, foldB, addB]
     unfold fullB at c3
     rw [decide_eq_false_iff_not] at c3
     omega
    ·exact i4
  ·rename_i k; exact absurd h k
theorem ok_of_check {e : EntD} (h : checkS e = 0) : okIt (keyL e) e.val := by
 obtain ⟨h1, h2, h3, h4, h5, h6, h7, h8, h9⟩ := check_facts h
 have hD : checkS ⟨e.vr, e.fam, e.vq, e.ts, e.seq, e.kind, e.vv, e.row, e.qual, []⟩ = 0 := by
  unfold checkS
  simp only
  rw [if_neg (by omega), if_neg (by omega), if_neg (fun z => by rcases z with z | z; omega; have := h4 z.2; rw [this] at z; simp at z), if_neg (by omega), if_neg (by omega), if_neg (by omega), if_neg (by simp)]
 have hk : keyL ⟨e.vr, e.fam, e.vq, e.ts, e.seq, e.kind, e.vv, e.row, e.qual, []⟩ = keyL e := rfl
 refine ⟨⟨_, hD, rfl, hk⟩, h8, ?_⟩
 rw [keyL_last]
 by_cases k1 : e.kind = 1
 ·right; rw [k1]; rfl
 ·left; rw [h9 k1]; rfl
end Go.Proofs.YtchebhafabhabaaGreatDoor

namespace Go.Proofs.YtchebhafabhabaaGreatDoor
open Go.RowKit Go.Shelf
set_option linter.unusedVariables false

def cntOf (bs : List Nat) : Nat := rdle (bs.getD (bs.length - 9 + 3) 0) (bs.getD (bs.length - 9 + 2) 0) (bs.getD (bs.length - 9 + 1) 0) (bs.getD (bs.length - 9) 0)
def rstOf (bs : List Nat) : Nat := bs.getD (bs.length - 9 + 4) 0
def nrsOf (bs : List Nat) : Nat := (cntOf bs + rstOf bs - 1) / rstOf bs
def plsOf (bs : List Nat) : Nat := bs.length - 9 - 4 * nrsOf bs
def spOk (bs : List Nat) : Prop := cntOf bs ≠ 0 ∧ (1 ≤ rstOf bs ∧ rstOf bs ≤ 16) ∧ 4 * nrsOf bs ≤ bs.length - 9
def entsOf (bs : List Nat) : List Nat := bs.take (plsOf bs)
def placesOf5 (bs : List Nat) : List Nat := (bs.take (bs.length - 9)).drop (plsOf bs)
structure Lk (w : World) (B g r n b ne ce : Nat) (E P : List Nat) (np cp : Nat) : Prop where
 box : LBox w g (r : Int) (n : Int) (.slice (some ⟨b, 0, none⟩) ne ce) (.slice (some ⟨b, ne, none⟩) np cp)
 ents : Rd w (.slice (some ⟨b, 0, none⟩) ne ce) E
 pls : Rd w (.slice (some ⟨b, ne, none⟩) np cp) P
 bg : B ≤ g
 bb : B ≤ b
 ne : b ≠ g
def SpP (w : World) (bs : List Nat) (x : Ending) (w' : World) : Prop :=
 Below w.heap.size w w' ∧ ((¬ spOk bs ∧ x = .returned (.tuple #[.pointer none, .bool false])) ∨ (spOk bs ∧ ∃ g b ne ce np cp, x = .returned (.tuple #[.pointer (some ⟨g, 0, none⟩), .bool true]) ∧ Lk w' w.heap.size g (rstOf bs) (cntOf bs) b ne ce (entsOf bs) (placesOf5 bs) np cp))
set_option maxRecDepth 100000 in
set_option maxHeartbeats 2000000 in
theorem split_any {w : World} {b off n c : Nat} {bs : List Nat} (hr : Rd w (.slice (some ⟨b, off, none⟩) n c) bs) (h9 : 9 ≤ n) (hl : n ≤ 131072) :
  Calls Tryz.prog 63 #[.slice (some ⟨b, off, none⟩) n c] w fun x w' => SpP w bs x w' := by
 obtain ⟨hn, hle, hm, hl48⟩ := rd_lens hr
 obtain ⟨fo, hfo⟩ : ∃ fo, n - 9 = fo := ⟨_, rfl⟩
 have HFo : Hid (n = fo + 9) := by unfold Hid; omega
 have HN := Lib.hid hn
 have rd1 : Rd w (.slice (some ⟨b, off + fo, none⟩) (n - fo) (c - fo)) (bs.drop fo) := hr.past fo (by omega) rfl rfl rfl
 obtain ⟨cn, hcn⟩ : ∃ cn, cn = cntOf bs := ⟨_, rfl⟩
 obtain ⟨rs, hrs⟩ : ∃ rs, rs = rstOf bs := ⟨_, rfl⟩
 have cl := rd_cell hr (fo + 4) (by omega)
 have hcell : w.cell? ⟨b, off + (fo + 4), none⟩ = some (.int .u8 (rs : Int)) ∧ rs < 256 := by
  have e : rs = bs.getD (fo + 4) 0 := by rw [hrs]; unfold rstOf; rw [← hn, hfo]
  rw [e]; exact cl
 have HW : Hid (∀ wx, Below w.heap.size w wx → Calls Tryz.prog 93 #[.slice (some ⟨b, off + fo, none⟩) (n - fo) (c - fo)] wx fun e w' => e = .returned (.int .i64 (cn : Int)) ∧ Below wx.heap.size wx w') := fun wx hx => by
  have := readWord_any (rd1.later hx) (by rw [List.length_drop, ← hn]; omega)
  have e : rdle ((bs.drop fo).getD 3 0) ((bs.drop fo).getD 2 0) ((bs.drop fo).getD 1 0) ((bs.drop fo).getD 0 0) = cn := by
   rw [hcn]; unfold cntOf
   rw [← hn, hfo]
   simp [List.getD_eq_getElem?_getD, List.getElem?_drop]
  rw [e] at this
  exact this
 have hcl : cn < 4294967296 := by
  rw [hcn]
  exact rdle_lt _ _ _ _ (hr.1.get _) (hr.1.get _) (hr.1.get _) (hr.1.get _)
 have HCell := Lib.hid hcell
 have hrl : rs < 256 := hcell.2
 have HR := Lib.hid hr
 have HCn := Lib.hid hcn
 have HRs := Lib.hid hrs
 have hle2 : (fo : Int) ≤ (n : Int) := by omega
 have hcf : n ≤ c := hle
 clear rd1 cl hcell hr hcn hrs hn
 go_enter Tryz.func63, Tryz.ntmps63
 go_upto_region 2 with fail
 have BD : Below w.heap.size w w.drew := (Below.refl _ _).drew
 refine wp_region_noPanic ?_
 refine wp_region_held_drew (S := fun wx => Below w.heap.size w wx) (by kernel_rfl) BD (fun hHeld => ?_)
 refine wpAnyH_take (i := 0) (oi := { dst := some 13, op := _, type := _, pos := _, after := _, guard := _ }) (v := .slice (some ⟨b, off, none⟩) n c) rfl (by kernel_rfl) (by kernel_rfl) (by kernel_rfl) (fun _ _ _ h => h) (Or.inl ⟨by kernel_rfl, fun wy hy => by (go_simp; first | done | omega | exact IntWalk.i64_in _ ⟨by omega, by omega⟩ | (rw [if_pos ⟨by omega, by omega⟩, show ((fo : Int) + 4).toNat = fo + 4 by omega]))⟩) (by assumption) ?_
 try simp only [Act.put, List.setIfInBounds_toArray, List.set_cons_zero, List.set_cons_succ]
 refine wpAnyH_take (i := 1) (oi := { dst := some 14, op := _, type := _, pos := _, after := _, guard := _ }) (v := .int .i64 (fo : Int)) rfl (by kernel_rfl) (by kernel_rfl) (by kernel_rfl) (fun _ _ _ h => h) (Or.inl ⟨by kernel_rfl, fun wy hy => by (go_simp; first | done | omega | exact IntWalk.i64_in _ ⟨by omega, by omega⟩ | (rw [if_pos ⟨by omega, by omega⟩, show ((fo : Int) + 4).toNat = fo + 4 by omega]))⟩) (by assumption) ?_
 try simp only [Act.put, List.setIfInBounds_toArray, List.set_cons_zero, List.set_cons_succ]
 refine wpAnyH_take (i := 2) (oi := { dst := some 15, op := _, type := _, pos := _, after := _, guard := _ }) (v := .slice (some ⟨b, off + fo, none⟩) (n - fo) (c - fo)) rfl (by kernel_rfl) (by kernel_rfl) (by kernel_rfl) (fun _ _ _ h => h) (Or.inl ⟨by kernel_rfl, fun wy hy => by (go_simp; first | done | omega | exact IntWalk.i64_in _ ⟨by omega, by omega⟩ | (rw [if_pos ⟨by omega, by omega⟩, show ((fo : Int) + 4).toNat = fo + 4 by omega]))⟩) (by assumption) ?_
 try simp only [Act.put, List.setIfInBounds_toArray, List.set_cons_zero, List.set_cons_succ]
 refine wpAnyH_take (i := 4) (oi := { dst := some 17, op := _, type := _, pos := _, after := _, guard := _ }) (v := .slice (some ⟨b, off, none⟩) n c) rfl (by kernel_rfl) (by kernel_rfl) (by kernel_rfl) (fun _ _ _ h => h) (Or.inl ⟨by kernel_rfl, fun wy hy => by (go_simp; first | done | omega | exact IntWalk.i64_in _ ⟨by omega, by omega⟩ | (rw [if_pos ⟨by omega, by omega⟩, show ((fo : Int) + 4).toNat = fo + 4 by omega]))⟩) (by assumption) ?_
 try simp only [Act.put, List.setIfInBounds_toArray, List.set_cons_zero, List.set_cons_succ]
 refine wpAnyH_take (i := 5) (oi := { dst := some 18, op := _, type := _, pos := _, after := _, guard := _ }) (v := .int .i64 (fo : Int)) rfl (by kernel_rfl) (by kernel_rfl) (by kernel_rfl) (fun _ _ _ h => h) (Or.inl ⟨by kernel_rfl, fun wy hy => by (go_simp; first | done | omega | exact IntWalk.i64_in _ ⟨by omega, by omega⟩ | (rw [if_pos ⟨by omega, by omega⟩, show ((fo : Int) + 4).toNat = fo + 4 by omega]))⟩) (by assumption) ?_
 try simp only [Act.put, List.setIfInBounds_toArray, List.set_cons_zero, List.set_cons_succ]
 refine wpAnyH_take (i := 6) (oi := { dst := some 19, op := _, type := _, pos := _, after := _, guard := _ }) (v := .int .i64 ((fo + 4 : Nat) : Int)) rfl (by kernel_rfl) (by kernel_rfl) (by kernel_rfl) (fun _ _ _ h => h) (Or.inl ⟨by kernel_rfl, fun wy hy => by (go_simp; first | done | omega | exact IntWalk.i64_in _ ⟨by omega, by omega⟩ | (rw [if_pos ⟨by omega, by omega⟩, show ((fo : Int) + 4).toNat = fo + 4 by omega]))⟩) (by assumption) ?_
 try simp only [Act.put, List.setIfInBounds_toArray, List.set_cons_zero, List.set_cons_succ]
 refine wpAnyH_take (i := 7) (oi := { dst := some 20, op := _, type := _, pos := _, after := _, guard := _ }) (v := .pointer (some ⟨b, off + (fo + 4), none⟩)) rfl (by kernel_rfl) (by kernel_rfl) (by kernel_rfl) (fun _ _ _ h => h) (Or.inl ⟨by kernel_rfl, fun wy hy => by (go_simp; first | done | omega | exact IntWalk.i64_in _ ⟨by omega, by omega⟩ | (rw [if_pos ⟨by omega, by omega⟩, show ((fo : Int) + 4).toNat = fo + 4 by omega]))⟩) (by assumption) ?_
 try simp only [Act.put, List.setIfInBounds_toArray, List.set_cons_zero, List.set_cons_succ]
 refine wpAnyH_take (i := 8) (oi := { dst := some 21, op := _, type := _, pos := _, after := _, guard := _ }) (v := .int .u8 (rs : Int)) rfl (by kernel_rfl) (by kernel_rfl) (by kernel_rfl) (fun _ _ _ h => h) (Or.inl ⟨by kernel_rfl, fun wy hy => by (have q0 := (hy.cell (p := ⟨b, off + (fo + 4), none⟩) (World.block_lt_of_cell? w _ HCell.out.1)).trans HCell.out.1; go_simp; done)⟩) (by assumption) ?_
 try simp only [Act.put, List.setIfInBounds_toArray, List.set_cons_zero, List.set_cons_succ]
 refine wpAnyH_take (i := 9) (oi := { dst := some 22, op := _, type := _, pos := _, after := _, guard := _ }) (v := .int .i64 (rs : Int)) rfl (by kernel_rfl) (by kernel_rfl) (by kernel_rfl) (fun _ _ _ h => h) (Or.inl ⟨by kernel_rfl, fun wy hy => by (go_simp; first | done | omega | exact IntWalk.i64_in _ ⟨by omega, by omega⟩ | (rw [if_pos ⟨by omega, by omega⟩, show ((fo : Int) + 4).toNat = fo + 4 by omega]))⟩) (by assumption) ?_
 try simp only [Act.put, List.setIfInBounds_toArray, List.set_cons_zero, List.set_cons_succ]
 refine wpAnyH_ready (rs := [3]) (by kernel_rfl) (by simp) ?_
 refine AllReadyH.cons (o := { dst := some 16, op := _, type := _, pos := _, after := _, guard := _ }) rfl (fun KK hK => ?_) AllReadyH.nil
 go_simp
 go_at_call 93
 refine (HW.out _ BD).mono ?_
 rintro e1 X1 ⟨rfl, hb1⟩
 have bX1 : Below w.heap.size w X1 := BD.trans (hb1.mono BD.size)
 clear hb1 BD HW
 go_wp2_with fail
 refine hK.out _ _ bX1 (fun hHeld => ?_)
 clear hK
 try simp only [Act.put, List.setIfInBounds_toArray, List.set_cons_zero, List.set_cons_succ]
 refine wpAnyH_take (i := 10) (oi := { dst := some 5, op := _, type := _, pos := _, after := _, guard := _ }) (v := .int .i64 (cn : Int)) rfl (by kernel_rfl) (by kernel_rfl) (by kernel_rfl) (fun _ _ _ h => h) (Or.inl ⟨by kernel_rfl, fun wy hy => by (go_simp; first | done | omega | exact IntWalk.i64_in _ ⟨by omega, by omega⟩ | (rw [if_pos ⟨by omega, by omega⟩, show ((fo : Int) + 4).toNat = fo + 4 by omega]))⟩) (by assumption) ?_
 try simp only [Act.put, List.setIfInBounds_toArray, List.set_cons_zero, List.set_cons_succ]
 refine wpAnyH_take (i := 11) (oi := { dst := some 6, op := _, type := _, pos := _, after := _, guard := _ }) (v := .int .i64 (rs : Int)) rfl (by kernel_rfl) (by kernel_rfl) (by kernel_rfl) (fun _ _ _ h => h) (Or.inl ⟨by kernel_rfl, fun wy hy => by (go_simp; first | done | omega | exact IntWalk.i64_in _ ⟨by omega, by omega⟩ | (rw [if_pos ⟨by omega, by omega⟩, show ((fo : Int) + 4).toNat = fo + 4 by omega]))⟩) (by assumption) ?_
 try simp only [Act.put, List.setIfInBounds_toArray, List.set_cons_zero, List.set_cons_succ]
 refine wpAnyH_done (by kernel_rfl) (NoPanic.normal ?_) _
 clear hHeld
 go_simp
 go_step
 clear hHeld KK
 have HB1 := Lib.hid bX1
 have hNo : Hid (¬ (cn ≠ 0 ∧ (1 ≤ rs ∧ rs ≤ 16) ∧ 4 * nrsOf bs ≤ fo) → SpP w bs (.returned (.tuple #[.pointer none, .bool false])) X1) := fun h => ⟨HB1.out, .inl ⟨fun k => h (by unfold spOk at k; rw [← HCn.out, ← HRs.out, ← HN.out, hfo] at k; exact k), rfl⟩⟩
 clear bX1
 by_cases hc0 : cn = 0
 ·have hc1 : (cn : Int) = 0 := by omega
  go_wp2
  go_ret2
  exact hNo.out (fun h => h.1 hc0)
 have hc1 : ¬ (cn : Int) = 0 := by omega
 have HM := Lib.hid (mayRestart_any (rs : Int) X1)
 go_wp2_with fail
 refine Calls.mono HM.out ?_
 rintro z X2 ⟨rfl, rfl⟩
 by_cases hr16 : 1 ≤ rs ∧ rs ≤ 16
 ·rw [decide_eq_true (show (1 : Int) ≤ (rs : Int) ∧ (rs : Int) ≤ 16 by omega)]
  go_upto_region 5 with fail
  rw [show (n : Int) - 9 = (fo : Int) by omega]
  have hrs0 : ¬ (rs : Int) = 0 := by omega
  obtain ⟨ns, hns⟩ : ∃ ns, (cn + rs - 1) / rs = ns := ⟨_, rfl⟩
  have hnsb : ns ≤ 4294967312 := by rw [← hns]; exact Nat.le_trans (Nat.div_le_self _ _) (by omega)
  have hnsi : ((cn : Int) + (rs : Int) - 1) / (rs : Int) = (ns : Int) := by
   rw [← hns, show ((cn : Int) + (rs : Int) - 1) = ((cn + rs - 1 : Nat) : Int) by omega]
   exact (Int.natCast_ediv _ _).symm
  have HNs : Hid (nrsOf bs = ns) := by unfold Hid nrsOf; rw [← HCn.out, ← HRs.out]; exact hns
  clear hns
  go_upto_region 6 with fail
  rw [hnsi]
  clear hnsi
  by_cases hpl : 4 * ns ≤ fo
  ·obtain ⟨pl, hpl2⟩ : ∃ pl, fo - 4 * ns = pl := ⟨_, rfl⟩
   have hpi : (fo : Int) - 4 * (ns : Int) = (pl : Int) := by omega
   have hple : pl ≤ fo := by omega
   have hns1 : 1 ≤ ns := by
    have e := HNs.out
    unfold nrsOf at e
    rw [← HCn.out, ← HRs.out] at e
    rw [← e]
    exact Nat.div_pos (by omega) (by omega)
   have rdF : Rd X2 (.slice (some ⟨b, off, none⟩) fo c) (bs.take fo) := (HR.out.later HB1.out).upto fo (by omega)
   have HC := Lib.hid (handed (clone_any rdF (by have := (rd_lens rdF).1; omega)))
   have HF := Lib.hid rdF
   clear rdF
   go_wp2_with fail
   refine Calls.mono HC.out ?_
   rintro z X3 ⟨a3, m3, c3, rfl, own3, b3⟩
   have hm3 : fo = m3 := by rw [own3.1]; exact (rd_lens HF.out).1
   subst hm3
   obtain ⟨g, rfl⟩ : ∃ g, a3 = some ⟨g, 0, none⟩ := by
    rcases ownNonil own3 with ⟨_, h, _⟩ | h
    ·omega
    ·exact h
   have hgl : X2.heap.size ≤ g ∧ g < X3.heap.size := own3.2.lt g rfl
   have rdO : Rd X3 (.slice (some ⟨g, 0, none⟩) fo c3) (bs.take fo) := own3.rd HF.out.1 (by omega)
   have hfc : fo ≤ c3 := (rd_lens rdO).2.1
   have rd1 := rdO.upto pl hple
   have rd2 : Rd X3 (.slice (some ⟨g, pl, none⟩) (fo - pl) (c3 - pl)) ((bs.take fo).drop pl) := rdO.past pl hple (by omega) rfl rfl
   have HRd := Lib.hid (And.intro rd1 rd2)
   have HB3 := Lib.hid (HB1.out.trans (b3.mono HB1.out.size))
   have HG := Lib.hid (show w.heap.size ≤ g ∧ g < X3.heap.size from ⟨Nat.le_trans HB1.out.size hgl.1, hgl.2⟩)
   clear own3 b3 rdO rd1 rd2 HC hgl
   go_upto_region 10 with fail
   have BD : Below X3.heap.size X3 X3.drew := (Below.refl _ _).drew
   refine wp_region_noPanic ?_
   refine wp_region_held_drew (S := fun wx => Below X3.heap.size X3 wx) (by kernel_rfl) BD (fun hHeld => ?_)
   refine wpAnyH_take (i := 0) (oi := { dst := some 46, op := _, type := _, pos := _, after := _, guard := _ }) (v := .int .i64 (rs : Int)) rfl (by kernel_rfl) (by kernel_rfl) (by kernel_rfl) (fun _ _ _ h => h) (Or.inl ⟨by kernel_rfl, fun wy hy => by (go_simp; first | done | omega)⟩) (by assumption) ?_
   try simp only [Act.put, List.setIfInBounds_toArray, List.set_cons_zero, List.set_cons_succ]
   refine wpAnyH_take (i := 1) (oi := { dst := some 47, op := _, type := _, pos := _, after := _, guard := _ }) (v := .int .i64 (cn : Int)) rfl (by kernel_rfl) (by kernel_rfl) (by kernel_rfl) (fun _ _ _ h => h) (Or.inl ⟨by kernel_rfl, fun wy hy => by (go_simp; first | done | omega)⟩) (by assumption) ?_
   try simp only [Act.put, List.setIfInBounds_toArray, List.set_cons_zero, List.set_cons_succ]
   refine wpAnyH_take (i := 2) (oi := { dst := some 48, op := _, type := _, pos := _, after := _, guard := _ }) (v := .slice (some ⟨g, 0, none⟩) fo c3) rfl (by kernel_rfl) (by kernel_rfl) (by kernel_rfl) (fun _ _ _ h => h) (Or.inl ⟨by kernel_rfl, fun wy hy => by (go_simp; first | done | omega)⟩) (by assumption) ?_
   try simp only [Act.put, List.setIfInBounds_toArray, List.set_cons_zero, List.set_cons_succ]
   refine wpAnyH_take (i := 3) (oi := { dst := some 49, op := _, type := _, pos := _, after := _, guard := _ }) (v := .int .i64 (pl : Int)) rfl (by kernel_rfl) (by kernel_rfl) (by kernel_rfl) (fun _ _ _ h => h) (Or.inl ⟨by kernel_rfl, fun wy hy => by (go_simp; first | done | omega)⟩) (by assumption) ?_
   try simp only [Act.put, List.setIfInBounds_toArray, List.set_cons_zero, List.set_cons_succ]
   refine wpAnyH_take (i := 4) (oi := { dst := some 50, op := _, type := _, pos := _, after := _, guard := _ }) (v := .slice (some ⟨g, 0, none⟩) pl c3) rfl (by kernel_rfl) (by kernel_rfl) (by kernel_rfl) (fun _ _ _ h => h) (Or.inl ⟨by kernel_rfl, fun wy hy => by (go_simp; first | done | omega)⟩) (by assumption) ?_
   try simp only [Act.put, List.setIfInBounds_toArray, List.set_cons_zero, List.set_cons_succ]
   refine wpAnyH_take (i := 5) (oi := { dst := some 51, op := _, type := _, pos := _, after := _, guard := _ }) (v := .slice (some ⟨g, 0, none⟩) fo c3) rfl (by kernel_rfl) (by kernel_rfl) (by kernel_rfl) (fun _ _ _ h => h) (Or.inl ⟨by kernel_rfl, fun wy hy => by (go_simp; first | done | omega)⟩) (by assumption) ?_
   try simp only [Act.put, List.setIfInBounds_toArray, List.set_cons_zero, List.set_cons_succ]
   refine wpAnyH_take (i := 6) (oi := { dst := some 52, op := _, type := _, pos := _, after := _, guard := _ }) (v := .int .i64 (pl : Int)) rfl (by kernel_rfl) (by kernel_rfl) (by kernel_rfl) (fun _ _ _ h => h) (Or.inl ⟨by kernel_rfl, fun wy hy => by (go_simp; first | done | omega)⟩) (by assumption) ?_
   try simp only [Act.put, List.setIfInBounds_toArray, List.set_cons_zero, List.set_cons_succ]
   refine wpAnyH_take (i := 7) (oi := { dst := some 53, op := _, type := _, pos := _, after := _, guard := _ }) (v := .slice (some ⟨g, pl, none⟩) (fo - pl) (c3 - pl)) rfl (by kernel_rfl) (by kernel_rfl) (by kernel_rfl) (fun _ _ _ h => h) (Or.inl ⟨by kernel_rfl, fun wy hy => by (go_simp; first | done | omega)⟩) (by assumption) ?_
   try simp only [Act.put, List.setIfInBounds_toArray, List.set_cons_zero, List.set_cons_succ]
   refine wpAnyH_take (i := 8) (oi := { dst := some 54, op := _, type := _, pos := _, after := _, guard := _ }) (v := .agg #[.int .i64 (rs : Int), .int .i64 (cn : Int), .slice (some ⟨g, 0, none⟩) pl c3, .slice (some ⟨g, pl, none⟩) (fo - pl) (c3 - pl)]) rfl (by kernel_rfl) (by kernel_rfl) (by kernel_rfl) (fun _ _ _ h => h) (Or.inl ⟨by kernel_rfl, fun wy hy => by (go_simp; first | done | omega)⟩) (by assumption) ?_
   try simp only [Act.put, List.setIfInBounds_toArray, List.set_cons_zero, List.set_cons_succ]
   refine wpAnyH_ready (rs := [9]) (by kernel_rfl) (by simp) ?_
   refine AllReadyH.cons (o := { dst := some 55, op := _, type := _, pos := _, after := _, guard := _ }) rfl (fun KK hK => ?_) AllReadyH.nil
   go_simp
   have bY : Below X3.heap.size X3 ((X3.alloc (.cells #[.int .i64 (rs : Int), .int .i64 (cn : Int), .slice (some ⟨g, 0, none⟩) pl c3, .slice (some ⟨g, pl, none⟩) (fo - pl) (c3 - pl)] 107)).drew) := ((Below.refl _ _).alloc (Nat.le_refl _) _).drew
   have hbox : LBox ((X3.alloc (.cells #[.int .i64 (rs : Int), .int .i64 (cn : Int), .slice (some ⟨g, 0, none⟩) pl c3, .slice (some ⟨g, pl, none⟩) (fo - pl) (c3 - pl)] 107)).drew) X3.heap.size (rs : Int) (cn : Int) (.slice (some ⟨g, 0, none⟩) pl c3) (.slice (some ⟨g, pl, none⟩) (fo - pl) (c3 - pl)) := heap_alloc_new X3 _
   refine hK.out _ _ bY (fun hHeld => ?_)
   clear hK
   have HEnd : Hid (SpP w bs (.returned (.tuple #[.pointer (some ⟨X3.heap.size, 0, none⟩), .bool true])) ((X3.alloc (.cells #[.int .i64 (rs : Int), .int .i64 (cn : Int), .slice (some ⟨g, 0, none⟩) pl c3, .slice (some ⟨g, pl, none⟩) (fo - pl) (c3 - pl)] 107)).drew)) := by
    refine ⟨HB3.out.trans (bY.mono HB3.out.size), .inr ⟨?_, X3.heap.size, g, pl, c3, fo - pl, c3 - pl, rfl, ?_, ?_, ?_, HB3.out.size, HG.out.1, by have := HG.out.2; omega⟩⟩
    ·unfold spOk
     rw [← HCn.out, ← HRs.out, HNs.out, ← HN.out, hfo]
     exact ⟨hc0, hr16, hpl⟩
    ·rw [← HCn.out, ← HRs.out]; exact hbox
    ·have e : entsOf bs = (bs.take fo).take pl := by
      unfold entsOf plsOf
      rw [HNs.out, ← HN.out, hfo, hpl2, List.take_take, Nat.min_eq_left hple]
     rw [e]; exact HRd.out.1.later bY
    ·have e : placesOf5 bs = (bs.take fo).drop pl := by
      unfold placesOf5 plsOf
      rw [HNs.out, ← HN.out, hfo, hpl2]
     rw [e]; exact HRd.out.2.later bY
   clear hbox bY
   generalize ((X3.alloc (.cells #[.int .i64 (rs : Int), .int .i64 (cn : Int), .slice (some ⟨g, 0, none⟩) pl c3, .slice (some ⟨g, pl, none⟩) (fo - pl) (c3 - pl)] 107)).drew) = Y at *
   try simp only [Act.put, List.setIfInBounds_toArray, List.set_cons_zero, List.set_cons_succ]
   refine wpAnyH_take (i := 10) (oi := { dst := some 2, op := _, type := _, pos := _, after := _, guard := _ }) (v := .pointer (some ⟨X3.heap.size, 0, none⟩)) rfl (by kernel_rfl) (by kernel_rfl) (by kernel_rfl) (fun _ _ _ h => h) (Or.inl ⟨by kernel_rfl, fun wy hy => by (go_simp; first | done | omega)⟩) (by assumption) ?_
   try simp only [Act.put, List.setIfInBounds_toArray, List.set_cons_zero, List.set_cons_succ]
   refine wpAnyH_take (i := 11) (oi := { dst := some 3, op := _, type := _, pos := _, after := _, guard := _ }) (v := .bool true) rfl (by kernel_rfl) (by kernel_rfl) (by kernel_rfl) (fun _ _ _ h => h) (Or.inl ⟨by kernel_rfl, fun wy hy => by (go_simp; first | done | omega)⟩) (by assumption) ?_
   try simp only [Act.put, List.setIfInBounds_toArray, List.set_cons_zero, List.set_cons_succ]
   refine wpAnyH_done (by kernel_rfl) (NoPanic.normal ?_) _
   clear hHeld
   go_simp
   go_step
   go_wp2
   go_ret2
   exact HEnd.out
  ·have hpn : (fo : Int) - 4 * (ns : Int) < 0 := by omega
   go_wp2
   go_ret2
   exact hNo.out (fun h => hpl (by rw [← HNs.out]; exact h.2.2))
 ·rw [decide_eq_false (show ¬ ((1 : Int) ≤ (rs : Int) ∧ (rs : Int) ≤ 16) by omega)]
  go_wp2
  go_ret2
  exact hNo.out (fun h => hr16 h.2.1)
end Go.Proofs.YtchebhafabhabaaGreatDoor
