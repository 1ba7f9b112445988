import Derived.Test.YthhkpkfpifllkaaK08
import Derived.Maps.OwnSet
import Derived.Laws.MakeOwn
namespace Go.Proofs.Ythhkpkfpifllkaa
open Go.RowKit
set_option linter.unusedVariables false

def readerS (C : Nat) (clock low nv : Int) : Int := if boundsS C [clock, low] ≠ 0 then boundsS C [clock, low] else if nv < 1 ∨ 16 < nv then 32 else 0
set_option maxRecDepth 100000 in
set_option maxHeartbeats 4000000 in
theorem newReader_any {W : World} {a : Option Addr} {c : Nat} {fs : List FamD} (hr : RdF W (.slice a fs.length c) fs) (hn : a = none → c = 0) (C : Nat) (hC : (C = 0 ↔ SchemaOk fs) ∧ (C = 0 ∨ C = 28)) (clock low nv : Int) :
    Calls Try.prog 23 #[.agg #[.slice a fs.length c], .int .i64 clock, .int .i64 low, .int .i64 nv] W fun r W' => Below W.heap.size W W' ∧ (readerS C clock low nv ≠ 0 → r = .returned (.tuple #[.pointer none, .int .i64 (readerS C clock low nv)])) ∧ (readerS C clock low nv = 0 → ∃ fb wb a' c', r = .returned (.tuple #[.pointer (some ⟨fb, 0, none⟩), .int .i64 0]) ∧ W.heap.size ≤ fb ∧ W.heap.size ≤ wb ∧ fb ≠ wb ∧ SBx W' fb (.pointer (some ⟨wb, 0, none⟩)) (.slice none 0 0) (rBc low nv 0) 63 ∧ WBx W' wb (.slice a' fs.length c') clock (.func (.func 38) #[.pointer (some ⟨fb, 0, none⟩)] #[]) spZ ∧ OwnF W' W.heap.size (.slice a' fs.length c') fs.length fs) := by
  have A1 := (Below.refl W.heap.size W).alloc (Nat.le_refl _) (.cells #[.slice a fs.length c] 24)
  have A2 := A1.alloc A1.size (.cells #[.int .i64 clock, .int .i64 low] 3)
  obtain ⟨k, hk⟩ : ∃ k, k = fs.length := ⟨_, rfl⟩
  have HR : Hid (∀ Z, Below W.heap.size W Z → RdF Z (.slice a k c) fs) := fun Z b => by rw [hk]; exact hr.later b
  obtain ⟨R, hR⟩ : ∃ R, R = boundsS C [clock, low] := ⟨_, rfl⟩
  have HRR := Lib.hid hR
  obtain ⟨Q, hQ⟩ : ∃ Q, Q = readerS C clock low nv := ⟨_, rfl⟩
  have HQ : Hid (Q = if R ≠ 0 then R else if nv < 1 ∨ 16 < nv then 32 else 0) := by unfold Hid; rw [hQ, hR]; rfl
  have HN := Lib.hid hn
  have HC := Lib.hid hC
  have HK := Lib.hid hk
  rw [← hk] at A1 A2 ⊢
  rw [← hQ]
  have HA2 := Lib.hid A2
  clear hr hn hC A1 A2 hR hk hQ
  go_enter Try.func23, Try.ntmps23
  go_wp2_with fail
  have HI : Hid (RdI ((W.alloc (.cells #[.slice a k c] 24)).alloc (.cells #[.int .i64 clock, .int .i64 low] 3)) (.slice (some ⟨W.heap.size + 1, 0, none⟩) 2 2) [clock, low]) := by
    refine ⟨W.heap.size + 1, 0, 2, rfl, by simp, fun i t hi => ?_⟩
    have hw : ((W.alloc (.cells #[.slice a k c] 24)).alloc (.cells #[.int .i64 clock, .int .i64 low] 3)).heap[W.heap.size + 1]? = some (.cells #[.int .i64 clock, .int .i64 low] 3 (0, 0)) := by
      have := heap_new (W.alloc (.cells #[.slice a k c] 24)) (.cells #[.int .i64 clock, .int .i64 low] 3)
      simpa using this
    match i, hi with
    | 0, hi => simp only [List.getElem?_cons_zero, Option.some.injEq] at hi; subst hi; exact cell_of hw rfl
    | 1, hi => simp only [List.getElem?_cons_succ, List.getElem?_cons_zero, Option.some.injEq] at hi; subst hi; exact cell_of hw rfl
    | i + 2, hi => simp at hi
  refine Calls.mono (checkBounds_any (HR.out _ HA2.out) C HC.out HI.out) ?_
  rintro z W1 ⟨rfl, b1⟩
  rw [← HRR.out]
  have B1 := HA2.out.trans (b1.mono HA2.out.size)
  have s0 : W1.cell? ⟨W.heap.size, 0, none⟩ = some (.slice a k c) := by
    rw [b1.cell (p := ⟨W.heap.size, 0, none⟩) (by simp; omega)]
    simp
  have HB1 := Lib.hid B1
  have HCz : Hid (R = 0 → fs.length ≤ 8) := fun z => ((HC.out.1.1 (bounds_ok (HRR.out.symm.trans z)).1).1).2
  clear b1 B1 HI HA2 HRR
  by_cases h0 : R = 0
  · have b0 : (R != 0) = false := by simp [h0]
    have H0 := Lib.hid h0
    clear h0
    by_cases h1 : nv < 1
    · have H1 := Lib.hid h1
      have q : Hid (Q = 32) := by unfold Hid; rw [HQ.out, if_neg (by simpa using H0.out), if_pos (.inl H1.out)]
      go_wp2
      go_ret2
      exact ⟨HB1.out, fun _ => by rw [q.out]; rfl, fun z => by have := q.out; omega⟩
    · have h1d : decide (nv < 1) = false := decide_eq_false h1
      have H1 : Hid (1 ≤ nv) := Int.not_lt.1 h1
      clear h1
      by_cases h2 : 16 < nv
      · have H2 := Lib.hid h2
        have q : Hid (Q = 32) := by unfold Hid; rw [HQ.out, if_neg (by simpa using H0.out), if_pos (.inr H2.out)]
        go_wp2
        go_ret2
        exact ⟨HB1.out, fun _ => by rw [q.out]; rfl, fun z => by have := q.out; omega⟩
      · have h2d : decide (16 < nv) = false := decide_eq_false h2
        have H2 : Hid (nv ≤ 16) := Int.not_lt.1 h2
        have q : Hid (Q = 0) := by unfold Hid; rw [HQ.out, if_neg (by simpa using H0.out), if_neg (by have := H1.out; have := H2.out; omega)]
        clear h2
        have A3 := (Below.refl W1.heap.size W1).alloc (Nat.le_refl _) (.cells #[.pointer none, .slice none 0 0, .int .i64 low, .int .i64 nv, .int .i64 0] 63)
        have sb : SBx (W1.alloc (.cells #[.pointer none, .slice none 0 0, .int .i64 low, .int .i64 nv, .int .i64 0] 63)) W1.heap.size (.pointer none) (.slice none 0 0) (rBc low nv 0) 63 := heap_new W1 _
        have s1 : (W1.alloc (.cells #[.pointer none, .slice none 0 0, .int .i64 low, .int .i64 nv, .int .i64 0] 63)).cell? ⟨W.heap.size, 0, none⟩ = some (.slice a k c) := by rw [A3.cell (p := ⟨W.heap.size, 0, none⟩) (World.block_lt_of_cell? W1 _ s0)]; exact s0
        have HA3 := Lib.hid A3
        have HSB := Lib.hid sb
        clear A3 sb s0
        go_wp2_with fail
        have hB3 := HB1.out.trans (HA3.out.mono HB1.out.size)
        have hnw := newWalk_any (by have := HR.out _ hB3; rw [HK.out] at this; exact this) HN.out (HCz.out H0.out) clock (.func (.func 38) #[.pointer (some ⟨W1.heap.size, 0, none⟩)] #[]) ⟨_, _, _, rfl⟩
        rw [← HK.out] at hnw
        refine Calls.mono hnw ?_
        rintro z W2 ⟨wb, a', c', rfl, hwb, hwx, hof, hb2⟩
        clear hnw
        have szX : (W1.alloc (.cells #[.pointer none, .slice none 0 0, .int .i64 low, .int .i64 nv, .int .i64 0] 63)).heap.size = W1.heap.size + 1 := by simp
        have sb2 := HSB.out.keep (hb2.block W1.heap.size HSB.out.lt)
        rw [szX] at hwb
        have hof2 : OwnF W2 (W1.heap.size + 1) (.slice a' k c') k fs := by rw [← szX]; exact hof
        have HB2 := Lib.hid (hB3.trans (hb2.mono hB3.size))
        have HW := Lib.hid hwx
        have HOf := Lib.hid hof2
        have HSB2 := Lib.hid sb2
        have HWB := Lib.hid hwb
        have p0 := sb2.c00
        have f0 := sb2.fz 0
        clear hb2 hwx hof hof2 sb2 hwb szX hB3 s1 HA3 HSB
        go_wp2
        go_ret2
        have hne : W1.heap.size ≠ wb := by have := HWB.out; omega
        have hG := grown1 W2 W1.heap.size 0 (.pointer (some ⟨wb, 0, none⟩))
        have b2 := HB2.out
        have l1 := HB1.out.size
        refine ⟨⟨b2.os, b2.tape, b2.output, Nat.le_trans b2.size hG.size, fun i hi => (hG.block i (Nat.lt_of_lt_of_le hi b2.size) (fun z => by cases z; omega)).trans (b2.block i hi)⟩, fun z => absurd q.out z, fun _ => ⟨W1.heap.size, wb, a', c', rfl, l1, by have := HWB.out; omega, hne, HSB2.out.set0 _, HW.out.keep (hG.block wb HW.out.lt (fun z => by cases z; exact hne rfl)), ?_⟩⟩
        obtain ⟨o1, o2⟩ := HOf.out
        exact ⟨o1, row_low (row_same o2 (fun g hg => hG.block g (o2.lt g hg).2 (fun z => by cases z; have := (o2.lt _ hg).1; omega))) (by omega)⟩
  · have b0 : (R != 0) = true := by simp [h0]
    have q : Hid (Q = R ∧ R ≠ 0) := ⟨by rw [HQ.out, if_pos h0], h0⟩
    clear h0
    go_wp2
    go_ret2
    exact ⟨HB1.out, fun _ => by rw [q.out.1]; rfl, fun z => absurd (q.out.1.symm.trans z) q.out.2⟩
end Go.Proofs.Ythhkpkfpifllkaa

namespace Go.Proofs.Ythhkpkfpifllkaa
open Go.RowKit
set_option linter.unusedVariables false

theorem Wk.start {W : World} {wb g rb B : Nat} {a : Option Addr} {c : Nat} {fs : List FamD} {clock : Int} {T : World → (Nat → Prop) → List Vd → Prop} (hb : WBx W wb (.slice a fs.length c) clock (.func (.func g) #[.pointer (some ⟨rb, 0, none⟩)] #[]) spZ) (hf : OwnF W B (.slice a fs.length c) fs.length fs) (hl : fs.length ≤ 8) (t : T W (fun i => i = rb) []) (hne : wb ≠ rb) (hr : ∃ cs ty, W.heap[rb]? = some (.cells cs ty (0, 0)) ∧ ty ≠ 73) :
    Wk W wb g rb (.slice a fs.length c) fs clock T W (fun i => i = rb) spZ [] := by
  have far : ∀ k, (Value.slice a fs.length c).ownBlock = some k → k ≠ wb ∧ k ≠ rb := fun k hk => by
    rcases hf.2.2 with ⟨h1, -⟩ | ⟨g, cap, cur, h1, -, h3, -⟩
    · rw [h1] at hk; cases hk
    · rw [h1] at hk
      cases hk
      refine ⟨fun z => ?_, fun z => ?_⟩
      · have := hb
        unfold WBx at this
        rw [← z, h3] at this
        simp at this
      · obtain ⟨cs, ty, k1, k2⟩ := hr
        rw [← z, h3] at k1
        simp at k1
        exact k2 k1.2.symm
  refine ⟨hb, fun Z hZ => ?_, t, ⟨⟨rfl, World.ownsRow_nil _ _ _ _⟩, ⟨rfl, World.ownsRow_nil _ _ _ _⟩, ⟨rfl, World.ownsRow_nil _ _ _ _⟩⟩, (fun k hk => by rcases hk with hk | hk | hk <;> cases hk), ⟨(fun k hk => by cases hk), (fun k hk => by cases hk)⟩, (fun k hk => by rcases hk with hk | hk | hk <;> cases hk), fun i hi => .inl hi, Nat.le_refl _, ⟨hb.lt, hne, fun z => z⟩, by simp [spZ], by simp [spZ], by simp [spZ, Bys], by simp [spZ], (fun z => by cases z), rfl, rfl, rfl, Nat.le_refl _, fun i _ _ _ _ => rfl⟩
  exact OwnF.rd ⟨hf.1, row_same hf.2 (fun g hg => hZ.2 g (hf.2.lt g hg).2 (far g hg).1 (far g hg).2 (fun z => z))⟩ hl
theorem TF.start {W : World} {fb N : Nat} {c0 : Value} {major : Bool} {low : Int} (hb : SBx W fb c0 (.slice none 0 0) (fBc major low ⟨0, 0, 0, 0, 0⟩) 70) (hN : N ≤ W.heap.size) : TF [] fb N c0 major low W (fun i => i = fb) [] :=
  ⟨⟨[], .slice none 0 0, fun _ => False, hb, Rw.nil _ _ _, fun z => z, fun _ z => z.elim, rfl⟩, by simp [cntS, Ct.Ok], rfl, fun i hi => by rw [hi]; exact hb.lt, hN⟩
theorem TR.start {W : World} {fb N : Nat} {cp : Option Addr} {tm n : Int} (hb : SBx W fb (.pointer cp) (.slice none 0 0) (rBc tm n 0) 63) (hN : N ≤ W.heap.size) : TR [] fb N cp tm n W (fun i => i = fb) [] :=
  ⟨⟨[], .slice none 0 0, fun _ => False, hb, Rw.nil _ _ _, fun z => z, fun _ z => z.elim, rfl⟩, by simp [showS], rfl, fun i hi => by rw [hi]; exact hb.lt, hN⟩
theorem TP.start {W : World} {pb : Nat} (hb : PBx W pb 0) : TP pb W (fun i => i = pb) [] := ⟨hb, fun _ => Iff.rfl⟩
def check3S (k : Nat) (e : EntD) : Int := if checkS e ≠ 0 then (checkS e : Int) else if (k : Int) ≤ e.fam then 21 else 0

set_option maxRecDepth 100000 in
set_option maxHeartbeats 4000000 in
theorem check3_any {W : World} {wb k c : Nat} {a : Option Addr} {clock : Int} {tv : Value} {s : SpD} {e : EntD} (hb : WBx W wb (.slice a k c) clock tv s) (hok : EntD.Ok W e) :
    Calls Try.prog 43 #[.pointer (some ⟨wb, 0, none⟩), .agg e.cells] W fun r W' => r = .returned (.int .i64 (check3S k e)) ∧ Below W.heap.size W W' := by
  have A := (Below.refl W.heap.size W).alloc (Nat.le_refl _) (.cells e.cells 45)
  have eb := EBox.new W e
  obtain ⟨X, hX⟩ : ∃ X, X = W.alloc (.cells e.cells 45) := ⟨_, rfl⟩
  rw [← hX] at A eb
  have HC := Lib.hid (check_any (hok.later A))
  have HEb := Lib.hid eb
  have HB := Lib.hid (hb.later A)
  have HA := Lib.hid A
  have HX := Lib.hid hX
  obtain ⟨C, hC⟩ : ∃ C, C = checkS e := ⟨_, rfl⟩
  rw [← hC] at HC
  obtain ⟨R, hR⟩ : ∃ R, R = check3S k e := ⟨_, rfl⟩
  have HR : Hid (R = if C ≠ 0 then (C : Int) else if (k : Int) ≤ e.fam then 21 else 0) := by unfold Hid; rw [hR, hC]; rfl
  rw [← hR]
  have xs := And.intro (EBox.vr eb) (And.intro (EBox.fam eb) (And.intro (EBox.vq eb) (And.intro (EBox.ts eb) (And.intro (EBox.seq eb) (And.intro (EBox.kind eb) (EBox.vv eb))))))
  rw [hX] at xs
  unfold EntD.cells at HX HC xs ⊢
  clear hb hok A eb hX hC hR
  obtain ⟨x0, x1, x2, x3, x4, x5, x6⟩ := xs
  go_enter Try.func43, Try.ntmps43
  go_wp2_with fail
  rw [← HX.out]
  refine Calls.mono HC.out ?_
  rintro z W1 ⟨rfl, b1⟩
  have HB1 := Lib.hid (HA.out.trans (b1.mono HA.out.size))
  have y1 : W1.cell? ⟨W.heap.size, 1, none⟩ = some (.int .i64 e.fam) := EBox.fam (HEb.out.later b1)
  have z0 : W1.cell? ⟨wb, 0, none⟩ = some (.slice a k c) := (HB.out.later b1).at 0
  clear b1 x0 x1 x2 x3 x4 x5 x6 HC HX HEb HB HA
  by_cases h0 : C = 0
  · have HR2 : Hid (R = if (k : Int) ≤ e.fam then 21 else 0) := by unfold Hid; rw [HR.out, if_neg (by simpa using h0)]
    subst h0
    clear HR
    by_cases h1 : (k : Int) ≤ e.fam
    · have q : Hid (R = 21) := by unfold Hid; rw [HR2.out, if_pos h1]
      go_upto_region 4 with fail
      go_region
      go_wp2
      go_ret
      exact ⟨by rw [q.out]; rfl, HB1.out.drew⟩
    · have q : Hid (R = 0) := by unfold Hid; rw [HR2.out, if_neg h1]
      have h1d : decide ((k : Int) ≤ e.fam) = false := decide_eq_false h1
      go_upto_region 4 with fail
      go_region
      go_wp2
      go_ret
      exact ⟨by rw [q.out]; rfl, HB1.out.drew⟩
  · have q : Hid (R = (C : Int)) := by unfold Hid; rw [HR.out, if_pos h0]
    have b0 : ((C : Int) != 0) = true := by simp; omega
    clear HR h0
    go_wp2
    go_ret
    exact ⟨by rw [q.out]; rfl, HB1.out⟩
theorem fit_of_check {k : Nat} {e : EntD} (h : check3S k e = 0) : Fit k e.dat := by
  unfold check3S at h
  by_cases hc : checkS e = 0
  · rw [if_neg (by simpa using hc)] at h
    by_cases hk : (k : Int) ≤ e.fam
    · rw [if_pos hk] at h; cases h
    · unfold checkS at hc
      repeat' split at hc
      all_goals first | (exfalso; omega) | skip
      refine ⟨?_, ?_, ?_, ?_, ?_, ?_, ?_⟩ <;> simp only [EntD.dat] <;> omega
  · rw [if_pos hc] at h
    omega
end Go.Proofs.Ythhkpkfpifllkaa

namespace Go.Proofs.Ythhkpkfpifllkaa
open Go.RowKit
set_option linter.unusedVariables false

def pushE (k : Nat) (s : SpD) (e : EntD) : Int := if check3S k e ≠ 0 then check3S k e else if s.begun = true then (if compareS e s.last < 0 then 30 else if sameS e s.last = true then 0 else if e.seq = s.last.seq then 31 else 0) else 0
def pushS (k : Nat) (fs : List (Int × Int)) (clock : Int) (s : SpD) (e : EntD) : List Vd × Sp := if pushE k s e ≠ 0 then ([], s.dat) else if s.begun = true ∧ sameS e s.last = true then ([⟨e.dat, 1, 0⟩], s.dat) else stepS fs clock s.dat e.dat
section
variable {W0 : Base} {W W' : World} {wb g rb : Nat} {fv : Value} {fs : List FamD} {clock : Int} {T : World → (Nat → Prop) → List Vd → Prop} {O : Nat → Prop} {s : SpD} {vs : List Vd} {e : EntD}
def Lst (s : SpD) (i : Nat) : Prop := s.last.vr.ownBlock = some i ∨ s.last.vq.ownBlock = some i ∨ s.last.vv.ownBlock = some i
theorem Wk.rebase (ht : Teller g rb T) (h : Wk W0 wb g rb fv fs clock T W O s vs) (hO : ∀ i, O i → i = rb) (hs : W.heap.size ≤ W'.heap.size) (hw : W'.heap[wb]? = W.heap[wb]?) (hr : W'.heap[rb]? = W.heap[rb]?) (hm : ∀ i, Lst s i → W'.heap[i]? = W.heap[i]?) (hf : ∀ Z, Fr0 ⟨W', W0.lo, Lst s⟩ wb rb Z → RdF Z fv fs) : Wk ⟨W', W0.lo, Lst s⟩ wb g rb fv fs clock T W' O s vs := by
  refine ⟨h.box.keep hw, hf, ht.keep h.tell (fun i hi => by rw [hO i hi]; exact hr) hs, ⟨own_same h.own.1 (fun k hk => hm k (.inl hk)), own_same h.own.2.1 (fun k hk => hm k (.inr (.inl hk))), own_same h.own.2.2 (fun k hk => hm k (.inr (.inr hk)))⟩, fun k hk => .inl hk, h.apart, h.apO, fun i hi => .inl (hO i hi), Nat.le_trans h.lo (Nat.le_trans h.fr.1 hs), ⟨Nat.lt_of_lt_of_le h.box.lt hs, h.wlow.2.1, fun k => h.lastw _ k rfl⟩, h.rank, h.mask, h.bys, h.few, h.wait, rfl, rfl, rfl, Nat.le_refl _, fun i _ _ _ _ => rfl⟩
end
end Go.Proofs.Ythhkpkfpifllkaa

namespace Go.Proofs.Ythhkpkfpifllkaa
open Go.RowKit
set_option linter.unusedVariables false

structure Hands (g fb N : Nat) (c0 : Value) (T : List En → World → (Nat → Prop) → List Vd → Prop) : Prop where
  tl : ∀ hd, Teller g fb (T hd)
  out : ∀ {hd : List En} {W : World} {O : Nat → Prop} {vs : List Vd}, T hd W O vs → ∃ (xs : List EntD) (a : Option Addr) (c : Nat) (cs : List Value) (ty : TypeId) (Or : Nat → Prop), SBx W fb c0 (.slice a xs.length c) cs ty ∧ Rw W N (.slice a xs.length c) xs Or ∧ ¬ Or fb ∧ (∀ i, Or i → O i) ∧ O fb ∧ ∀ W', SBx W' fb c0 (.slice none 0 0) cs ty → W.grownBy W' (some fb) → T (hd ++ xs.map EntD.dat) W' (fun i => i = fb) vs
theorem filter_hands (fb N : Nat) (c0 : Value) (major : Bool) (low : Int) : Hands 40 fb N c0 (fun hd => TF hd fb N c0 major low) := by
  refine ⟨fun hd => filter_teller hd fb N c0 major low, fun {hd W O vs} h => ?_⟩
  obtain ⟨xs, ov, Or, hb, hr, hno, hsub, hx⟩ := h.st
  obtain ⟨a, c, rfl⟩ := rows_form3 hr.row
  refine ⟨xs, a, c, _, _, Or, hb, hr, hno, hsub, h.of, fun W' sb gr => ?_⟩
  exact ⟨⟨[], .slice none 0 0, fun _ => False, sb, Rw.nil _ _ _, fun z => z, fun _ z => z.elim, by simpa using hx⟩, h.ok, rfl, fun i hi => by rw [hi]; exact sb.lt, Nat.le_trans h.low gr.size⟩
theorem reader_hands (fb N : Nat) (cp : Option Addr) (tm n : Int) : Hands 38 fb N (.pointer cp) (fun hd => TR hd fb N cp tm n) := by
  refine ⟨fun hd => reader_teller hd fb N cp tm n, fun {hd W O vs} h => ?_⟩
  obtain ⟨xs, ov, Or, hb, hr, hno, hsub, hx⟩ := h.st
  obtain ⟨a, c, rfl⟩ := rows_form3 hr.row
  refine ⟨xs, a, c, _, _, Or, hb, hr, hno, hsub, h.of, fun W' sb gr => ?_⟩
  exact ⟨⟨[], .slice none 0 0, fun _ => False, sb, Rw.nil _ _ _, fun z => z, fun _ z => z.elim, by simpa using hx⟩, h.ok, rfl, fun i hi => by rw [hi]; exact sb.lt, Nat.le_trans h.low gr.size⟩
section
variable {W0 : Base} {W W' : World} {wb g rb N : Nat} {fv : Value} {fs : List FamD} {clock : Int} {hd : List En} {T : List En → World → (Nat → Prop) → List Vd → Prop} {O O' : Nat → Prop} {s : SpD} {vs : List Vd} {e : EntD}
theorem Wk.swap {T0 T1 : World → (Nat → Prop) → List Vd → Prop} (h : Wk W0 wb g rb fv fs clock T0 W O s vs) (t : T1 W' O' vs) (f : Tf W W' O O') : Wk W0 wb g rb fv fs clock T1 W' O' s vs := by
  have hlt := h.lastlt
  have sm : ∀ k, s.last.vr.ownBlock = some k ∨ s.last.vq.ownBlock = some k ∨ s.last.vv.ownBlock = some k → W'.heap[k]? = W.heap[k]? := fun k hk => f.block k (hlt k hk).2 (h.apO k hk)
  refine ⟨h.box.keep (f.block wb h.box.lt h.notO), h.fam, t, ⟨own_same h.own.1 (fun k hk => sm k (.inl hk)), own_same h.own.2.1 (fun k hk => sm k (.inr (.inl hk))), own_same h.own.2.2 (fun k hk => sm k (.inr (.inr hk)))⟩, h.lastL, h.apart, fun k hk ho => ?_, fun i hi => ?_, h.lo, h.wlow, h.rank, h.mask, h.bys, h.few, h.wait, f.os.trans h.os, f.tape.trans h.tape, f.output.trans h.output, Nat.le_trans h.fr.1 f.size, fun i hi h1 h2 h3 => ?_⟩
  · rcases f.own k ho with k1 | k1
    · exact h.apO k hk k1
    · have := (hlt k hk).2; omega
  · rcases f.own i hi with k1 | k1
    · exact h.low i k1
    · exact .inr (Nat.le_trans h.fr.1 k1)
  · rw [f.block i (Nat.lt_of_lt_of_le hi h.fr.1) (fun k => by rcases h.low i k with e | e; exact h2 e; omega)]
    exact h.fr.2 i hi h1 h2 h3
structure Gone (W0 : Base) (wb g rb N : Nat) (fv : Value) (fs : List FamD) (clock : Int) (T : List En → World → (Nat → Prop) → List Vd → Prop) (hd : List En) (W' : World) (v : Value) (xs : List EntD) (Or : Nat → Prop) (s' : SpD) (vs : List Vd) : Prop where
  rw_ : Rw W' N v xs Or
  new : ∀ i, Or i → W0.heap.size ≤ i ∧ i < W'.heap.size
  ap : ∀ i, Or i → ¬ Lst s' i ∧ i ≠ wb ∧ i ≠ rb
  wk : Wk W0 wb g rb fv fs clock (T (hd ++ xs.map EntD.dat)) W' (fun i => i = rb) s' vs
theorem gone_of (H : Hands g rb N (.pointer (some ⟨wb, 0, none⟩)) T) (k : Wk W0 wb g rb fv fs clock (T hd) W O s vs) {xs : List EntD} {a : Option Addr} {c : Nat} {Or : Nat → Prop} (hr : Rw W N (.slice a xs.length c) xs Or) (hno : ¬ Or rb) (hsub : ∀ i, Or i → O i) (hof : O rb) (hre : T (hd ++ xs.map EntD.dat) W' (fun i => i = rb) vs) (gr : W.grownBy W' (some rb)) : Gone W0 wb g rb N fv fs clock T hd W' (.slice a xs.length c) xs Or s vs := by
  refine ⟨hr.keep (fun i hi => gr.block i ((H.tl hd).lt k.tell (hsub i hi)) (fun z => by cases z; exact hno hi)), fun i hi => ⟨?_, Nat.lt_of_lt_of_le ((H.tl hd).lt k.tell (hsub i hi)) gr.size⟩, fun i hi => ⟨fun l => k.apO i l (hsub i hi), fun z => k.notO (by rw [← z]; exact hsub i hi), fun z => hno (by rw [← z]; exact hi)⟩, k.swap hre ⟨gr.os, gr.tape, gr.output, gr.size, fun i hi hn => gr.block i hi (fun z => by cases z; exact hn hof), fun i hi => .inl (by rw [hi]; exact hof)⟩⟩
  rcases k.low i (hsub i hi) with z | z
  · exact absurd (by rw [← z]; exact hi) hno
  · exact z

end
end Go.Proofs.Ythhkpkfpifllkaa

namespace Go.Proofs.Ythhkpkfpifllkaa
open Go.RowKit
set_option linter.unusedVariables false

structure Rest (B wb g rb : Nat) (fv : Value) (fs : List FamD) (clock : Int) (T : World → (Nat → Prop) → List Vd → Prop) (W : World) (s : SpD) (vs : List Vd) : Prop where
  wk : Wk ⟨W, B, Lst s⟩ wb g rb fv fs clock T W (fun i => i = rb) s vs
  fam : ∃ a c, fv = .slice a fs.length c ∧ OwnF W B (.slice a fs.length c) fs.length fs
  far : ∀ k, fv.ownBlock = some k → k ≠ wb ∧ k ≠ rb ∧ ¬ Lst s k
  l8 : fs.length ≤ 8
def Its (wb rb : Nat) (fv : Value) (s : SpD) (i : Nat) : Prop := i = wb ∨ i = rb ∨ Lst s i ∨ fv.ownBlock = some i
section
variable {W0 : Base} {W W' : World} {B wb g rb N : Nat} {fv : Value} {fs : List FamD} {clock : Int} {hd : List En} {T : World → (Nat → Prop) → List Vd → Prop} {s s' : SpD} {vs us : List Vd} {e : EntD}
theorem fam_frame (hf : ∃ a c, fv = .slice a fs.length c ∧ OwnF W B (.slice a fs.length c) fs.length fs) (far : ∀ k, fv.ownBlock = some k → k ≠ wb ∧ k ≠ rb ∧ ¬ Lst s k) (l8 : fs.length ≤ 8) (Z : World) (hZ : Fr0 ⟨W, B, Lst s⟩ wb rb Z) : RdF Z fv fs := by
  obtain ⟨a, c, rfl, ho⟩ := hf
  refine OwnF.rd ⟨ho.1, row_same ho.2 (fun k hk => ?_)⟩ l8
  exact hZ.2 k (ho.2.lt k hk).2 (far k hk).1 (far k hk).2.1 (far k hk).2.2
theorem Rest.keep (ht : Teller g rb T) (h : Rest B wb g rb fv fs clock T W s vs) (hs : W.heap.size ≤ W'.heap.size) (hm : ∀ i, Its wb rb fv s i → W'.heap[i]? = W.heap[i]?) : Rest B wb g rb fv fs clock T W' s vs := by
  obtain ⟨a, c, e1, ho⟩ := h.fam
  have f2 : ∃ a c, fv = .slice a fs.length c ∧ OwnF W' B (.slice a fs.length c) fs.length fs := ⟨a, c, e1, ho.1, row_same ho.2 (fun k hk => hm k (.inr (.inr (.inr (by rw [e1]; exact hk)))))⟩
  exact ⟨h.wk.rebase ht (fun i hi => hi) hs (hm wb (.inl rfl)) (hm rb (.inr (.inl rfl))) (fun i hi => hm i (.inr (.inr (.inl hi)))) (fun Z hZ => fam_frame f2 h.far h.l8 Z hZ), f2, h.far, h.l8⟩
theorem Rest.lt (h : Rest B wb g rb fv fs clock T W s vs) (ht : Teller g rb T) (i : Nat) (hi : Its wb rb fv s i) : i < W.heap.size := by
  rcases hi with rfl | rfl | hi | hi
  · exact h.wk.box.lt
  · exact ht.lt h.wk.tell rfl
  · exact (h.wk.lastlt i hi).2
  · obtain ⟨a, c, e1, ho⟩ := h.fam
    rw [e1] at hi
    exact (ho.2.lt i hi).2
theorem Rest.later (ht : Teller g rb T) (h : Rest B wb g rb fv fs clock T W s vs) (b : Below W.heap.size W W') : Rest B wb g rb fv fs clock T W' s vs := h.keep ht b.size (fun i hi => b.block i (h.lt ht i hi))
structure Step (B wb g rb N : Nat) (fv : Value) (fs : List FamD) (clock : Int) (T : List En → World → (Nat → Prop) → List Vd → Prop) (hd : List En) (W W' : World) (s s' : SpD) (v : Value) (xs : List EntD) (Or : Nat → Prop) (vs : List Vd) : Prop where
  rest : Rest B wb g rb fv fs clock (T (hd ++ xs.map EntD.dat)) W' s' vs
  rw_ : Rw W' N v xs Or
  new : ∀ i, Or i → W.heap.size ≤ i ∧ i < W'.heap.size
  ap : ∀ i, Or i → ¬ Its wb rb fv s' i
  its : ∀ i, Its wb rb fv s' i → Its wb rb fv s i ∨ W.heap.size ≤ i
  os : W'.os = W.os
  tape : W'.tape = W.tape
  output : W'.output = W.output
  size : W.heap.size ≤ W'.heap.size
  block : ∀ i, i < W.heap.size → ¬ Its wb rb fv s i → W'.heap[i]? = W.heap[i]?
theorem Step.of {T : List En → World → (Nat → Prop) → List Vd → Prop} (H : Hands g rb N (.pointer (some ⟨wb, 0, none⟩)) T) {v : Value} {xs : List EntD} {Or : Nat → Prop} (h : Rest B wb g rb fv fs clock (T hd) W s vs) (k : Gone ⟨W, B, Lst s⟩ wb g rb N fv fs clock T hd W' v xs Or s' us) : Step B wb g rb N fv fs clock T hd W W' s s' v xs Or us := by
  obtain ⟨a, c, e1, ho⟩ := h.fam
  have hfl : ∀ i, fv.ownBlock = some i → i < W.heap.size := fun i hi => by rw [e1] at hi; exact (ho.2.lt i hi).2
  have f2 : ∃ a c, fv = .slice a fs.length c ∧ OwnF W' B (.slice a fs.length c) fs.length fs := ⟨a, c, e1, ho.1, row_same ho.2 (fun i hi => by
    have q := h.far i (by rw [e1]; exact hi)
    exact k.wk.fr.2 i (ho.2.lt i hi).2 q.1 q.2.1 q.2.2)⟩
  have far2 : ∀ i, fv.ownBlock = some i → i ≠ wb ∧ i ≠ rb ∧ ¬ Lst s' i := fun i hi => by
    refine ⟨(h.far i hi).1, (h.far i hi).2.1, fun l => ?_⟩
    rcases k.wk.lastL i l with z | z
    · exact (h.far i hi).2.2 z
    · have := hfl i hi
      exact absurd this (Nat.not_lt.2 z)
  refine ⟨⟨k.wk.rebase (H.tl _) (fun i hi => hi) (Nat.le_refl _) rfl rfl (fun _ _ => rfl) (fun Z hZ => fam_frame f2 far2 h.l8 Z hZ), f2, far2, h.l8⟩, k.rw_, k.new, fun i hi q => ?_, fun i hi => ?_, k.wk.os, k.wk.tape, k.wk.output, k.wk.fr.1, fun i hi hn => k.wk.fr.2 i hi (fun z => hn (.inl z)) (fun z => hn (.inr (.inl z))) (fun z => hn (.inr (.inr (.inl z))))⟩
  · rcases q with q | q | q | q
    · exact (k.ap i hi).2.1 q
    · exact (k.ap i hi).2.2 q
    · exact (k.ap i hi).1 q
    · exact absurd (hfl i q) (Nat.not_lt.2 (k.new i hi).1)
  · rcases hi with q | q | q | q
    · exact .inl (.inl q)
    · exact .inl (.inr (.inl q))
    · rcases k.wk.lastL i q with z | z
      · exact .inl (.inr (.inr (.inl z)))
      · exact .inr z
    · exact .inl (.inr (.inr (.inr q)))
theorem Step.box {T : List En → World → (Nat → Prop) → List Vd → Prop} {v : Value} {xs : List EntD} {Or : Nat → Prop} {q : Nat} (k : Step B wb g rb N fv fs clock T hd W W' s s' v xs Or us) (hq : EBox W q e) (hn : ¬ Its wb rb fv s q) : EBox W' q e := (k.block q (Array.getElem?_eq_some_iff.1 hq).1 hn).trans hq

end
end Go.Proofs.Ythhkpkfpifllkaa

namespace Go.Proofs.Ythhkpkfpifllkaa
open Go.RowKit Go.Maps
set_option linter.unusedVariables false

def addO (xs : List EntD) (e : EntD) : Option (List EntD) :=
  match xs.find? (fun x => x.seq == e.seq) with
  | none => some (xs ++ [e])
  | some x => if sameS x e then some xs else none
def onceS (l : List EntD) : Option (List EntD) := l.foldl (fun o e => o.bind fun xs => addO xs e) (some [])
theorem onceS_snoc (l : List EntD) (e : EntD) : onceS (l ++ [e]) = (onceS l).bind fun xs => addO xs e := by
  unfold onceS
  rw [List.foldl_append]
  rfl
theorem onceS_none (l r : List EntD) (h : onceS l = none) : onceS (l ++ r) = none := by
  unfold onceS at *
  rw [List.foldl_append, h]
  induction r with
  | nil => rfl
  | cons x r ih => exact ih
structure MapQ (D : DataW Unit) (xs : List EntD) : Prop where
  map : IsMap D
  has : ∀ n : Int, Maps.has D (.int .i64 n) = xs.any fun x => x.seq == n
  at_ : ∀ (i : Nat) x, xs[i]? = some x → ∀ z, D.atKey (.int .i64 x.seq) z = .lit (.int .i64 (i : Int))
  two : xs.Pairwise fun x y => x.seq ≠ y.seq
theorem isKey_int (n : Int) : WideAt.IsKeyLit (.int .i64 n) := trivial
theorem MapQ.nil : MapQ (.map []) [] := ⟨⟨[], rfl⟩, fun n => rfl, fun i x h => by simp at h, List.Pairwise.nil⟩
theorem MapQ.put {D : DataW Unit} {xs : List EntD} (h : MapQ D xs) {e : EntD} (hn : (xs.any fun x => x.seq == e.seq) = false) : MapQ (D.put (.int .i64 e.seq) (.lit (.int .i64 (xs.length : Int)))) (xs ++ [e]) := by
  have hne : ∀ x ∈ xs, x.seq ≠ e.seq := fun x hx z => by
    have := List.any_eq_false.1 hn x hx
    simp [z] at this
  refine ⟨?_, fun n => ?_, fun i x hi z => ?_, ?_⟩
  · obtain ⟨es, rfl⟩ := h.map
    exact ⟨_, rfl⟩
  · rw [List.any_append]
    by_cases q : n = e.seq
    · subst q
      rw [has_put_same h.map (isKey_int _)]
      simp
    · rw [has_put_other (by simpa using q), h.has]
      have : (e.seq == n) = false := by simpa using fun z => q z.symm
      simp [this]
  · by_cases q : i < xs.length
    · rw [List.getElem?_append_left q] at hi
      have := hne x (List.mem_of_getElem? hi)
      rw [atKey_put_other (by simpa using this)]
      exact h.at_ i x hi z
    · rw [List.getElem?_append_right (by omega)] at hi
      have hi0 : i - xs.length = 0 := by
        by_cases k : i - xs.length = 0
        · exact k
        · rw [List.getElem?_eq_none (by simp; omega)] at hi; cases hi
      rw [hi0] at hi
      simp only [List.getElem?_cons_zero, Option.some.injEq] at hi
      subst hi
      rw [atKey_put_same h.map (isKey_int _)]
      have : i = xs.length := by omega
      rw [this]
  · rw [List.pairwise_append]
    refine ⟨h.two, by simp, fun a ha b hb => ?_⟩
    simp only [List.mem_cons, List.not_mem_nil, or_false] at hb
    rw [hb]
    exact hne a ha
theorem MapQ.found {D : DataW Unit} {xs : List EntD} (h : MapQ D xs) {n : Int} (hn : (xs.any fun x => x.seq == n) = true) : ∃ (i : Nat) (x : EntD), xs[i]? = some x ∧ x.seq = n ∧ xs.find? (fun x => x.seq == n) = some x ∧ ∀ z, D.atKey (.int .i64 n) z = .lit (.int .i64 (i : Int)) := by
  cases hf : xs.find? (fun x => x.seq == n) with
  | none =>
    rw [List.find?_eq_none] at hf
    obtain ⟨x, hx, hs⟩ := List.any_eq_true.1 hn
    exact absurd hs (hf x hx)
  | some x =>
    have hs : x.seq = n := by simpa using List.find?_some hf
    obtain ⟨i, hi⟩ := List.getElem?_of_mem (List.mem_of_find?_eq_some hf)
    exact ⟨i, x, hi, hs, rfl, fun z => by rw [← hs]; exact h.at_ i x hi z⟩
theorem addO_new {xs : List EntD} {e : EntD} (hn : (xs.any fun x => x.seq == e.seq) = false) : addO xs e = some (xs ++ [e]) := by
  have : xs.find? (fun x => x.seq == e.seq) = none := by
    rw [List.find?_eq_none]
    exact fun x hx => by simpa using List.any_eq_false.1 hn x hx
  unfold addO
  rw [this]
theorem addO_old {xs : List EntD} {e x : EntD} (hf : xs.find? (fun x => x.seq == e.seq) = some x) : addO xs e = if sameS x e then some xs else none := by
  unfold addO
  rw [hf]
structure RdL3 (w : World) (a : Option Addr) (cap : Nat) (xs : List EntD) : Prop where
  cap : xs.length ≤ cap ∧ cap ≤ maxLen
  at_ : xs = [] ∨ ∃ b off, a = some ⟨b, off, none⟩ ∧ ∀ (i : Nat) x, xs[i]? = some x → ∀ (j : Nat) u, x.cells.toList[j]? = some u → w.cell? ⟨b, off + i * 7 + j, none⟩ = some u
  ok : ∀ x ∈ xs, EntD.Ok w x
theorem RdL3.later {w w' : World} {a : Option Addr} {cap : Nat} {xs : List EntD} (h : RdL3 w a cap xs) (hb : Below w.heap.size w w') : RdL3 w' a cap xs := by
  refine ⟨h.cap, ?_, fun x hx => (h.ok x hx).later hb⟩
  rcases h.at_ with h1 | ⟨b, off, rfl, hc⟩
  · exact .inl h1
  · exact .inr ⟨b, off, rfl, fun i x hi j u hj => by rw [hb.cell (p := ⟨b, off + i * 7 + j, none⟩) (World.block_lt_of_cell? w _ (hc i x hi j u hj))]; exact hc i x hi j u hj⟩
end Go.Proofs.Ythhkpkfpifllkaa

namespace Go.Proofs.Ythhkpkfpifllkaa
open Go.RowKit Go.Maps
set_option linter.unusedVariables false

theorem und_int3 : Try.prog.underlying 3 = some (.int .i64) := by kernel_rfl
theorem und_mii : Try.prog.underlying 98 = some (.map 3 3) := by kernel_rfl
theorem keyed3 : Keyed Try.prog 3 := int_keyed und_int3

theorem mkmap3 (w : World) (n : Int) : (Instr.makeMap 98 (some (.int .i64 n))).run Try.prog w = .ok (.map (some w.heap.size)) (w.alloc (.map #[] 0)) := by
  simp [Instr.makeMap, run_underlying und_mii, asInt, asIntOf, Result.andThen]
theorem zero3 (w : World) : (zeroValue 3).run Try.prog w = .ok (.int .i64 0) w := by kernel_rfl
theorem wf3 {n : Int} (h0 : 0 ≤ n) (h1 : n ≤ 17592186044431) : (Lit.int .i64 n).wf = true := by
  have e1 : IntKind.i64.min = -9223372036854775808 := by decide
  have e2 : IntKind.i64.max = 9223372036854775807 := by decide
  simp only [Lit.wf, e1, e2, Bool.and_eq_true, decide_eq_true_eq]
  omega
theorem key3 {n : Int} (h0 : 0 ≤ n) (h1 : n ≤ 17592186044431) : keyOf Try.prog 3 (.int .i64 n) = some (.int .i64 n) := keyOf_int_mk und_int3 (wf3 h0 h1)
theorem EntD.cells_len (x : EntD) : x.cells.toList.length = 7 := rfl
theorem evals_cons (y : EntD) (ys : List EntD) : evals (y :: ys) = y.cells.toList ++ evals ys := by simp [evals]
theorem evals_len (xs : List EntD) : (evals xs).length = xs.length * 7 := by
  induction xs with
  | nil => rfl
  | cons y ys ih => rw [evals_cons, List.length_append, ih, EntD.cells_len, List.length_cons]; omega
theorem evals_at {xs : List EntD} {i : Nat} {x : EntD} (h : xs[i]? = some x) {j : Nat} {u : Value} (hj : x.cells.toList[j]? = some u) : (evals xs)[i * 7 + j]? = some u := by
  have j7 : j < 7 := by have := (List.getElem?_eq_some_iff.1 hj).1; rwa [EntD.cells_len] at this
  induction xs generalizing i with
  | nil => simp at h
  | cons y ys ih =>
    rw [evals_cons]
    cases i with
    | zero =>
      simp only [List.getElem?_cons_zero, Option.some.injEq] at h
      subst h
      rw [List.getElem?_append_left (by rw [EntD.cells_len]; omega), Nat.zero_mul, Nat.zero_add]
      exact hj
    | succ i =>
      rw [List.getElem?_append_right (by rw [EntD.cells_len]; omega), EntD.cells_len]
      have : (i + 1) * 7 + j - 7 = i * 7 + j := by omega
      rw [this]
      exact ih (by simpa using h)
theorem row_cells3 {w : World} {B c : Nat} {a : Option Addr} {xs : List EntD} (h : w.ownsRow B 45 7 (.slice a xs.length c) xs.length (evals xs)) {i : Nat} {x : EntD} (hi : xs[i]? = some x) : ∃ g, a = some ⟨g, 0, none⟩ ∧ xs.length ≤ c ∧ c ≤ maxLen ∧ ∀ (j : Nat) u, x.cells.toList[j]? = some u → w.cell? ⟨g, i * 7 + j, none⟩ = some u := by
  have il := (List.getElem?_eq_some_iff.1 hi).1
  rcases h.2 with ⟨_, h2⟩ | ⟨g, cap, cur, h1, h2, h3, h4, h5, h6, h7⟩
  · omega
  · simp only [Value.slice.injEq] at h1
    obtain ⟨rfl, _, rfl⟩ := h1
    refine ⟨g, rfl, h4, h5, fun j u hj => ?_⟩
    have hv := evals_at hi hj
    have hlt : i * 7 + j < xs.length * 7 := by
      have := (List.getElem?_eq_some_iff.1 hv).1
      rwa [evals_len] at this
    rw [← h7, List.getElem?_take_of_lt hlt] at hv
    have e : cur[i * 7 + j]? = some u := by simpa using hv
    simp [World.cell?, h3, e]
theorem once_none (r : List EntD) : r.foldl (fun o e => o.bind fun xs => addO xs e) (none : Option (List EntD)) = none := by
  induction r with
  | nil => rfl
  | cons x r ih => exact ih
theorem once_mem (l : List EntD) : ∀ (acc xs : List EntD), l.foldl (fun o e => o.bind fun xs => addO xs e) (some acc) = some xs → ∀ x ∈ xs, x ∈ acc ∨ x ∈ l := by
  induction l with
  | nil => intro acc xs h; cases h; exact fun x hx => .inl hx
  | cons e r ih =>
    intro acc xs h x hx
    have h2 : r.foldl (fun o e => o.bind fun xs => addO xs e) (addO acc e) = some xs := h
    cases ha : addO acc e with
    | none => rw [ha, once_none] at h2; cases h2
    | some ys =>
      rw [ha] at h2
      rcases ih ys xs h2 x hx with k | k
      · unfold addO at ha
        split at ha
        · cases ha
          rcases List.mem_append.1 k with k | k
          · exact .inl k
          · simp only [List.mem_cons, List.not_mem_nil, or_false] at k
            exact .inr (by rw [k]; exact List.mem_cons_self)
        · split at ha
          · cases ha; exact .inl k
          · cases ha
      · exact .inr (List.mem_cons_of_mem _ k)
theorem onceS_mem {l xs : List EntD} (h : onceS l = some xs) : ∀ x ∈ xs, x ∈ l := fun x hx => (once_mem l [] xs h x hx).resolve_left (by simp)
theorem wpl_append_ent {w : World} {N : Nat} {v : Value} {xs : List EntD} {ops : Array Oper} {rest : List Oper} {o : Oper} {a : Act} {Q : Exit → Act → World → Prop} {x : EntD} (hgd : o.guard = none) (s y : Operand)
    (ho : o.op = .call { callee := .builtin .append, args := #[s, y], argTypes := #[25, 25] })
    (hs : a.eval s = v) (hr : w.ownsRow N 45 7 v xs.length (evals xs)) (ad : Addr) (hy : a.eval y = .slice (some ad) 1 1) (hc : ∀ j u, x.cells.toList[j]? = some u → w.cell? (ad.add j) = some u) (h1 : ∀ u ∈ x.cells.toList, u.oneCell' = true) (hn : (xs.length + 1) * 104 ≤ 140737488355328) (hN : N ≤ w.heap.size)
    (h : ∀ a' c' w', w'.ownsRow N 45 7 (.slice a' (xs ++ [x]).length c') (xs ++ [x]).length (evals (xs ++ [x])) → w.grownBy w' v.ownBlock → wpList Try.prog ops Q rest (a.put o.dst (.slice a' (xs ++ [x]).length c')) w') : wpList Try.prog ops Q (o :: rest) a w := by
  refine wpList_plain hgd fun K' hK' => ?_
  obtain ⟨v', w', hrn, h1', h2, h3⟩ := run_append_ent (ty := o.type) hr ad hc h1 hn hN
  obtain ⟨a', c', rfl⟩ := rows_form3 h1'
  unfold Oper.wp execOp
  rw [ho]
  simp only [resolve, invoke, builtin, Sem.run_bind, Sem.run_pure, Result.andThen_ok, List.map_toArray, List.map_cons, List.map_nil, hs, hy, hrn]
  exact hK' _ _ (h a' c' w' h1' h2)
structure Oc (W : World) (l : List EntD) (mb : Nat) (wr : World) (k : Nat) (xs : List EntD) (v : Value) : Prop where
  done : onceS (l.take k) = some xs
  row : wr.ownsRow W.heap.size 45 7 v xs.length (evals xs)
  map : ∃ n D, n ≤ k ∧ wr.ownsMap Try.prog 3 (plainElem Try.prog 3) mb n D ∧ MapQ D xs
  below : Below W.heap.size W wr
  few : xs.length ≤ k
  new : W.heap.size ≤ mb

theorem Oc.ne {W wr : World} {l : List EntD} {mb k : Nat} {xs : List EntD} {v : Value} (h : Oc W l mb wr k xs v) : v.ownBlock ≠ some mb := fun z => by
  obtain ⟨n, D, hn, hm, hq⟩ := h.map
  obtain ⟨es, clock, hb, _⟩ := hm
  rcases h.row.2 with ⟨h1, _⟩ | ⟨g, cap, cur, h1, _, h3, _⟩
  · rw [h1] at z; cases z
  · rw [h1] at z
    cases z
    rw [h3] at hb
    cases hb
theorem ebox_ne {X : World} {q mb n : Nat} {e : EntD} {D : DataW Unit} {R : Value → Option (DataW Unit × List MemPlace)} (h : EBox X q e) (hm : X.ownsMap Try.prog 3 R mb n D) : q ≠ mb := fun z => by
  obtain ⟨es, clock, hb, _⟩ := hm
  unfold EBox at h
  rw [z, hb] at h
  cases h
theorem Oc.later {W wr wr' : World} {l : List EntD} {mb k : Nat} {xs : List EntD} {v : Value} (h : Oc W l mb wr k xs v) (b : Below wr.heap.size wr wr') : Oc W l mb wr' k xs v := by
  obtain ⟨n, D, hn, hm, hq⟩ := h.map
  exact ⟨h.done, row_same h.row (fun g hg => b.block g (h.row.lt g hg).2), ⟨n, D, hn, hm.kept (row := none) ⟨b.os, b.tape, b.output, b.size, fun i hi _ => b.block i hi⟩ (by simp), hq⟩, h.below.trans (b.mono h.below.size), h.few, h.new⟩
set_option maxRecDepth 100000 in
set_option maxHeartbeats 4000000 in
theorem once_any {W : World} {a : Option Addr} {cap : Nat} {l : List EntD} (hr : RdL3 W a cap l) (hl : l.length ≤ 1353245080338) (hs : ∀ x ∈ l, 0 ≤ x.seq ∧ x.seq ≤ 17592186044431) :
    Calls Try.prog 33 #[.slice a l.length cap] W fun r W' => Below W.heap.size W W' ∧ (onceS l = none → r = .returned (.tuple #[.slice none 0 0, .int .i64 31])) ∧ (∀ xs, onceS l = some xs → ∃ a' c', r = .returned (.tuple #[.slice a' xs.length c', .int .i64 0]) ∧ W'.ownsRow W.heap.size 45 7 (.slice a' xs.length c') xs.length (evals xs)) := by
  obtain ⟨N, hN⟩ : ∃ N, N = l.length := ⟨_, rfl⟩
  rw [← hN] at hl ⊢
  have HN := Lib.hid hN
  have HR := Lib.hid hr
  have HS := Lib.hid hs
  have hmm := mkmap3 W (N : Int)
  obtain ⟨i0, hi0, hz0, hz1, hz2⟩ := info_parts info_ent3
  obtain ⟨W2, hms, own2, gr2⟩ := run_make_own (P := Try.prog) (W.alloc (.map #[] 0)) W.heap.size 25 45 i0 _ 7 und_ents3 hi0 hz0 hz1 .i64 .i64 N (by rw [hz2]; omega) (by unfold maxLen; omega) (by simp)
  have A1 := (Below.refl W.heap.size W).alloc (Nat.le_refl _) (.map #[] 0)
  have H2 : Hid (Oc W l W.heap.size W2 0 [] (.slice (some ⟨W.heap.size + 1, 0, none⟩) 0 N)) := by
    have own2' : W2.ownsRow W.heap.size 45 7 (.slice (some ⟨W.heap.size + 1, 0, none⟩) 0 N) 0 [] := by simpa using own2
    refine ⟨rfl, own2', ⟨0, .map [], Nat.le_refl _, (World.ownsMap_made W Try.prog 3 (plainElem Try.prog 3)).kept gr2 (by simp), MapQ.nil⟩, A1.grown gr2 A1.size (fun k hk => by cases hk), Nat.le_refl _, Nat.le_refl _⟩
  clear hN hr hs own2 gr2 A1 hi0 hz0 hz1 hz2
  have hsz : (W.alloc (.map #[] 0)).heap.size = W.heap.size + 1 := by simp
  rw [hsz] at hms
  clear hsz
  go_enter Try.func33, Try.ntmps33
  go_wp2
  go_loopw [5, 18] (fun o i wr => ∃ (k : Nat) (xs : List EntD) (a' : Option Addr) (c' : Nat), k ≤ N ∧ i = .int .i64 (k : Int) ∧ o = .slice a' xs.length c' ∧ Hid (Oc W l W.heap.size wr k xs (.slice a' xs.length c'))) (fun _ i _ => N - (intOf i).toNat)
  case atStart => exact ⟨0, [], _, _, Nat.zero_le _, rfl, rfl, H2⟩
  case round =>
    clear hmm hms H2
    obtain ⟨k, xs, a', c', hk, rfl, rfl, HO⟩ := hrel
    have k0 : (0 : Int) ≤ (k : Int) := by omega
    by_cases hlt : k < N
    · have hlt2 : (k : Int) < (N : Int) := by omega
      obtain ⟨e, he⟩ : ∃ e, l[k]? = some e := ⟨l[k]'(by rw [← HN.out]; exact hlt), List.getElem?_eq_getElem _⟩
      have hrd := HR.out.later HO.out.below
      have hok := hrd.ok e (List.mem_of_getElem? he)
      rcases hrd.at_ with h0 | ⟨b, off, rfl, hc⟩
      · rw [h0] at he; simp at he
      have d0 := hc k e he 0 e.vr rfl
      have d1 := hc k e he 1 (.int .i64 e.fam) rfl
      have d2 := hc k e he 2 e.vq rfl
      have d3 := hc k e he 3 (.int .i64 e.ts) rfl
      have d4 := hc k e he 4 (.int .i64 e.seq) rfl
      have d5 := hc k e he 5 (.int .i64 e.kind) rfl
      have d6 := hc k e he 6 e.vv rfl
      simp only [Nat.add_zero] at d0
      have HE := Lib.hid he
      have HOk := Lib.hid hok
      have A5 := (Below.refl wr.heap.size wr).alloc (Nat.le_refl _) (.cells e.cells 45)
      have eb := EBox.new wr e
      obtain ⟨X, hX⟩ : ∃ X, X = wr.alloc (.cells e.cells 45) := ⟨_, rfl⟩
      rw [← hX] at A5 eb
      have HEb := Lib.hid eb
      have HO2 := Lib.hid (HO.out.later A5)
      have HOk2 := Lib.hid (hok.later A5)
      obtain ⟨q, hq⟩ : ∃ q, q = wr.heap.size := ⟨_, rfl⟩
      have hq' := hq.symm
      rw [← hq] at HEb
      unfold EntD.cells at hX
      obtain ⟨_, a1, n1, e1, -⟩ := hok.1
      obtain ⟨_, a2, n2, e2, -⟩ := hok.2.1
      obtain ⟨_, a3, n3, e3, -⟩ := hok.2.2
      rw [e1] at d0
      rw [e2] at d2
      rw [e3] at d6
      rw [e1, e2, e3] at hX
      have HX := Lib.hid hX
      have HXe : Hid (e.cells = #[.slice a1 e.row.length n1, .int .i64 e.fam, .slice a2 e.qual.length n2, .int .i64 e.ts, .int .i64 e.seq, .int .i64 e.kind, .slice a3 e.val.length n3]) := by unfold Hid EntD.cells; rw [e1, e2, e3]
      have HF := Lib.hid (And.intro e1 (And.intro e2 e3))
      clear hrd hc he hok A5 eb hX hq e1 e2 e3
      go_upto_region 6 with fail
      rw [← HX.out]
      clear HX d0 d1 d2 d3 d4 d5 d6 HO HOk
      have x4 := HEb.out.seq
      obtain ⟨n, D, hnk, hm, hmq⟩ := HO2.out.map
      have HM := Lib.hid hm
      have HMQ := Lib.hid hmq
      have HSq := Lib.hid (HS.out e (List.mem_of_getElem? HE.out))
      clear hm hmq
      go_wp2_with (at_lookup; refine wpList_lookup_own_ok_int (H := Unit) X rfl _ _ 98 rfl 3 3 .i64 keyed3 und_mii und_int3 (zero3 X) W.heap.size n D rfl HM.out _ (.int .i64 e.seq) rfl (key3 HSq.out.1 HSq.out.2) ?_)
      intro c hat hwc
      rw [HMQ.out.has]
      by_cases hany : (xs.any fun x => x.seq == e.seq) = true
      · obtain ⟨i, x, hxi, hxs, hfind, hat2⟩ := HMQ.out.found hany
        have hci : c = (i : Int) := by
          have := hat.symm.trans (hat2 _)
          simpa using this
        subst hci
        rw [hany]
        have HXi := Lib.hid (And.intro hxi hfind)
        clear hat hwc hat2 hxs hfind hany hxi
        go_upto_region 10 with fail
        have D0 : Below X.heap.size X X.drew := (Below.refl _ _).drew
        obtain ⟨g, rfl, lc, cm, hcell⟩ := row_cells3 (HO2.out.later D0).row HXi.out.1
        have hxl : x ∈ l := List.mem_of_mem_take (onceS_mem HO2.out.done x (List.mem_of_getElem? HXi.out.1))
        have okx : EntD.Ok X.drew x := (HR.out.later (HO2.out.later D0).below).ok x hxl
        have hil := (List.getElem?_eq_some_iff.1 HXi.out.1).1
        have i1 : (i : Int) < (xs.length : Int) := by omega
        have i0' : (0 : Int) ≤ (i : Int) := by omega
        have y0 := hcell 0 x.vr rfl
        have y1 := hcell 1 (.int .i64 x.fam) rfl
        have y2 := hcell 2 x.vq rfl
        have y3 := hcell 3 (.int .i64 x.ts) rfl
        have y4 := hcell 4 (.int .i64 x.seq) rfl
        have y5 := hcell 5 (.int .i64 x.kind) rfl
        have y6 := hcell 6 x.vv rfl
        simp only [Nat.add_zero] at y0
        have eb2 := HEb.out.later D0
        have x0 := EBox.vr eb2
        have x1 := EBox.fam eb2
        have x2 := EBox.vq eb2
        have x3 := EBox.ts eb2
        have x4' := EBox.seq eb2
        have x5 := EBox.kind eb2
        have x6 := EBox.vv eb2
        have HCs := Lib.hid (same3_any okx (HOk2.out.later D0))
        obtain ⟨sB, hsB⟩ : ∃ sB, sB = sameS x e := ⟨_, rfl⟩
        rw [← hsB] at HCs
        have HSB := Lib.hid hsB
        have HKeep : Hid (∀ Z, Below X.drew.heap.size X.drew Z → (Z.cell? ⟨g, i * 7, none⟩ = some x.vr ∧ Z.cell? ⟨g, i * 7 + 1, none⟩ = some (.int .i64 x.fam) ∧ Z.cell? ⟨g, i * 7 + 2, none⟩ = some x.vq ∧ Z.cell? ⟨g, i * 7 + 3, none⟩ = some (.int .i64 x.ts) ∧ Z.cell? ⟨g, i * 7 + 4, none⟩ = some (.int .i64 x.seq) ∧ Z.cell? ⟨g, i * 7 + 5, none⟩ = some (.int .i64 x.kind) ∧ Z.cell? ⟨g, i * 7 + 6, none⟩ = some x.vv) ∧ EBox Z q e) := fun Z b => by
          refine ⟨⟨?_, ?_, ?_, ?_, ?_, ?_, ?_⟩, eb2.later b⟩
          all_goals (rw [b.cell (World.block_lt_of_cell? _ _ (by assumption))]; assumption)
        unfold EntD.cells at HCs
        have HD0 := Lib.hid D0
        clear hcell okx hsB eb2 x4 hxl D0
        go_region_held3 (fun Z => (Z.cell? ⟨g, i * 7, none⟩ = some x.vr ∧ Z.cell? ⟨g, i * 7 + 1, none⟩ = some (.int .i64 x.fam) ∧ Z.cell? ⟨g, i * 7 + 2, none⟩ = some x.vq ∧ Z.cell? ⟨g, i * 7 + 3, none⟩ = some (.int .i64 x.ts) ∧ Z.cell? ⟨g, i * 7 + 4, none⟩ = some (.int .i64 x.seq) ∧ Z.cell? ⟨g, i * 7 + 5, none⟩ = some (.int .i64 x.kind) ∧ Z.cell? ⟨g, i * 7 + 6, none⟩ = some x.vv) ∧ Z.cell? ⟨q, 0, none⟩ = some e.vr ∧ Z.cell? ⟨q, 1, none⟩ = some (.int .i64 e.fam) ∧ Z.cell? ⟨q, 2, none⟩ = some e.vq ∧ Z.cell? ⟨q, 3, none⟩ = some (.int .i64 e.ts) ∧ Z.cell? ⟨q, 4, none⟩ = some (.int .i64 e.seq) ∧ Z.cell? ⟨q, 5, none⟩ = some (.int .i64 e.kind) ∧ Z.cell? ⟨q, 6, none⟩ = some e.vv) (first | exact ⟨v3.1, EBox.vr v3.2, EBox.fam v3.2, EBox.vq v3.2, EBox.ts v3.2, EBox.seq v3.2, EBox.kind v3.2, EBox.vv v3.2⟩ | exact ⟨⟨y0, y1, y2, y3, y4, y5, y6⟩, x0, x1, x2, x3, x4', x5, x6⟩)
          ((go_at_call 46; refine Calls.mono HCs.out ?_; rintro z2 X2 ⟨rfl, b2⟩; have v3 := HKeep.out X2 b2))
        have HB2 := Lib.hid (HD0.out.trans (b2.mono HD0.out.size))
        clear b2 v3 x0 x1 x2 x3 x4' x5 x6 y0 y1 y2 y3 y4 y5 y6 HCs HKeep
        have hsnoc : onceS (l.take (k + 1)) = if sB then some xs else none := by
          rw [List.take_add_one, HE.out]
          show onceS (l.take k ++ [e]) = _
          rw [onceS_snoc, HO2.out.done, HSB.out]
          exact addO_old HXi.out.2
        have HSn := Lib.hid hsnoc
        clear hsnoc
        cases sB with
        | true =>
          have HO4 : Hid (Oc W l W.heap.size X2 (k + 1) xs (.slice (some ⟨g, 0, none⟩) xs.length c')) := by
            have o := HO2.out.later HB2.out
            obtain ⟨n', D', hn', hm', hq'⟩ := o.map
            exact ⟨HSn.out, o.row, ⟨n', D', by omega, hm', hq'⟩, o.below, Nat.le_succ_of_le o.few, o.new⟩
          go_wp2
          go_roundw
          case rel => exact ⟨k + 1, xs, _, c', by omega, by go_num, rfl, HO4⟩
          case measure => simp only [intOf]; omega
        | false =>
          go_wp2
          go_ret2
          have hno : onceS l = none := by
            rw [← List.take_append_drop (k + 1) l]
            exact onceS_none _ _ HSn.out
          refine ⟨(HO2.out.later HB2.out).below, fun _ => rfl, fun ys hy => ?_⟩
          rw [hno] at hy
          cases hy
      · have hany2 : (xs.any fun x => x.seq == e.seq) = false := by simpa using hany
        rw [hany2]
        have HAny := Lib.hid hany2
        clear hat hwc hany hany2
        have hnm : n < maxLen := by unfold maxLen; omega
        have hfew := HO2.out.few
        have hvl : plainElem (H := Unit) Try.prog 3 (.int .i64 (xs.length : Int)) = some (.lit (.int .i64 (xs.length : Int)), []) := plainElem_int und_int3 (wf3 (by omega) (by omega))
        have HVl := Lib.hid hvl
        clear hvl
        go_wp2_with (refine wpList_mapUpdate_own (H := Unit) X rfl _ _ _ 98 rfl 3 3 keyed3 und_mii (plainElem Try.prog 3) W.heap.size n D rfl HM.out hnm _ _ (.int .i64 e.seq) rfl rfl (key3 HSq.out.1 HSq.out.2) _ _ HVl.out ?_)
        intro X2 hm2 hg2
        have hqm := ebox_ne HEb.out HM.out
        have eb2 : EBox X2 q e := (hg2.block q (Array.getElem?_eq_some_iff.1 HEb.out).1 (fun z => by cases z; exact hqm rfl)).trans HEb.out
        have HO3 : Hid (Oc W l W.heap.size X k xs (.slice a' xs.length c')) := HO2
        have row2 : X2.ownsRow W.heap.size 45 7 (.slice a' xs.length c') xs.length (evals xs) := row_same HO2.out.row (fun g hg => hg2.block g (HO2.out.row.lt g hg).2 (fun z => by cases z; exact HO2.out.ne hg))
        have x0 := EBox.vr eb2
        have x1 := EBox.fam eb2
        have x2 := EBox.vq eb2
        have x3 := EBox.ts eb2
        have x4' := EBox.seq eb2
        have x5 := EBox.kind eb2
        have x6 := EBox.vv eb2
        rw [HF.out.1] at x0
        rw [HF.out.2.1] at x2
        rw [HF.out.2.2] at x6
        have A3 := (Below.refl X2.heap.size X2).alloc (Nat.le_refl _) (.cells #[.slice a1 e.row.length n1, .int .i64 e.fam, .slice a2 e.qual.length n2, .int .i64 e.ts, .int .i64 e.seq, .int .i64 e.kind, .slice a3 e.val.length n3] 45)
        have hent : ∀ j u, e.cells.toList[j]? = some u → (X2.alloc (.cells #[.slice a1 e.row.length n1, .int .i64 e.fam, .slice a2 e.qual.length n2, .int .i64 e.ts, .int .i64 e.seq, .int .i64 e.kind, .slice a3 e.val.length n3] 45)).cell? ((⟨X2.heap.size, 0, none⟩ : Addr).add j) = some u := by
          rw [← HXe.out]
          exact ent_new X2 e
        have hone : ∀ u ∈ e.cells.toList, u.oneCell' = true := by
          rw [HXe.out]
          intro u hu
          simp at hu
          rcases hu with rfl | rfl | rfl | rfl | rfl | rfl | rfl <;> rfl
        have row3 := row_same row2 (fun g hg => A3.block g (row2.lt g hg).2)
        have szB : W.heap.size ≤ X2.heap.size := Nat.le_trans HO2.out.below.size hg2.size
        have HRow := Lib.hid row3
        have HEnt := Lib.hid hent
        have HOne := Lib.hid hone
        have HA3 := Lib.hid A3
        have HM2 := Lib.hid hm2
        have HG2 := Lib.hid hg2
        have HSz := Lib.hid szB
        clear row2 row3 hent hone A3 hm2 hg2 szB eb2 hqm x4
        go_wp2_with (at_builtin; refine wpl_append_ent (x := e) (xs := xs) rfl _ _ rfl rfl HRow.out ⟨X2.heap.size, 0, none⟩ rfl HEnt.out HOne.out (by omega) (by have := HSz.out; simp; omega) ?_)
        intro a4 c4 X4 row4 gr4
        have HO4 : Hid (Oc W l W.heap.size X4 (k + 1) (xs ++ [e]) (.slice a4 (xs ++ [e]).length c4)) := by
          have o := HO2.out
          have A := HA3.out
          have hne := o.ne
          have hB2 : Below W.heap.size W X2 := o.below.grown HG2.out o.below.size (fun g z => by cases z; exact Nat.le_refl _)
          have hB3 := hB2.trans (A.mono hB2.size)
          refine ⟨?_, by rw [List.length_append]; exact row4, ⟨n + 1, _, by omega, (HM2.out.kept (row := none) ⟨A.os, A.tape, A.output, A.size, fun i hi _ => A.block i hi⟩ (by simp)).kept gr4 (fun z => hne z.symm), HMQ.out.put HAny.out⟩, hB3.grown gr4 hB3.size (fun g hg => (o.row.lt g hg).1), by rw [List.length_append]; simp only [List.length_cons, List.length_nil]; omega, o.new⟩
          rw [List.take_add_one, HE.out]
          show onceS (l.take k ++ [e]) = _
          rw [onceS_snoc, o.done]
          exact addO_new HAny.out
        clear row4 gr4 HRow HEnt HOne HA3 HM2 HG2 HSz x0 x1 x2 x3 x4' x5 x6
        go_wp2
        go_roundw
        case rel => exact ⟨k + 1, xs ++ [e], a4, c4, by omega, by go_num, by simp, HO4⟩
        case measure => simp only [intOf]; omega
    · have hge : ¬ (k : Int) < (N : Int) := by omega
      have hk2 : k = N := by omega
      go_wp2
      go_ret2
      have h := HO.out
      have hd := h.done
      rw [hk2, HN.out, List.take_length] at hd
      refine ⟨h.below, (fun z => by rw [hd] at z; cases z), fun ys hy => ?_⟩
      rw [hd] at hy
      cases hy
      exact ⟨a', c', rfl, h.row⟩
end Go.Proofs.Ythhkpkfpifllkaa
