import Derived.Test.YthhkpkfpifllkaaGreatK07
namespace Go.Proofs.YthhkpkfpifllkaaGreat
open Go.RowKit
set_option linter.unusedVariables false

def readerS (C : Nat) (clock low nv : Int) : Int := if boundsS C [clock, low] ≠ 0 then boundsS C [clock, low] else if nv < 1 ∨ 16 < nv then 32 else 0
set_option maxRecDepth 100000 in
set_option maxHeartbeats 4000000 in
theorem newReader_any {W : World} {a : Option Addr} {c : Nat} {fs : List FamD} (hr : RdF W (.slice a fs.length c) fs) (hn : a = none → c = 0) (C : Nat) (hC : (C = 0 ↔ SchemaOk fs) ∧ (C = 0 ∨ C = 28)) (clock low nv : Int) :
    Calls Tryz.prog 32 #[.agg #[.slice a fs.length c], .int .i64 clock, .int .i64 low, .int .i64 nv] W fun r W' => Below W.heap.size W W' ∧ (readerS C clock low nv ≠ 0 → r = .returned (.tuple #[.pointer none, .int .i64 (readerS C clock low nv)])) ∧ (readerS C clock low nv = 0 → ∃ fb wb a' c', r = .returned (.tuple #[.pointer (some ⟨fb, 0, none⟩), .int .i64 0]) ∧ W.heap.size ≤ fb ∧ W.heap.size ≤ wb ∧ fb ≠ wb ∧ SBx W' fb (.pointer (some ⟨wb, 0, none⟩)) (.slice none 0 0) (rBc low nv 0) 103 ∧ WBx W' wb (.slice a' fs.length c') clock (.func (.func 71) #[.pointer (some ⟨fb, 0, none⟩)] #[]) spZ ∧ OwnF W' W.heap.size (.slice a' fs.length c') fs.length fs) := by
  have A1 := (Below.refl W.heap.size W).alloc (Nat.le_refl _) (.cells #[.slice a fs.length c] 27)
  have A2 := A1.alloc A1.size (.cells #[.int .i64 clock, .int .i64 low] 3)
  obtain ⟨k, hk⟩ : ∃ k, k = fs.length := ⟨_, rfl⟩
  have HR : Hid (∀ Z, Below W.heap.size W Z → RdF Z (.slice a k c) fs) := fun Z b => by rw [hk]; exact hr.later b
  obtain ⟨R, hR⟩ : ∃ R, R = boundsS C [clock, low] := ⟨_, rfl⟩
  have HRR := Lib.hid hR
  obtain ⟨Q, hQ⟩ : ∃ Q, Q = readerS C clock low nv := ⟨_, rfl⟩
  have HQ : Hid (Q = if R ≠ 0 then R else if nv < 1 ∨ 16 < nv then 32 else 0) := by unfold Hid; rw [hQ, hR]; rfl
  have HN := Lib.hid hn
  have HC := Lib.hid hC
  have HK := Lib.hid hk
  rw [← hk] at A1 A2 ⊢
  rw [← hQ]
  have HA2 := Lib.hid A2
  clear hr hn hC A1 A2 hR hk hQ
  go_enter Tryz.func32, Tryz.ntmps32
  go_wp2_with fail
  have HI : Hid (RdI ((W.alloc (.cells #[.slice a k c] 27)).alloc (.cells #[.int .i64 clock, .int .i64 low] 3)) (.slice (some ⟨W.heap.size + 1, 0, none⟩) 2 2) [clock, low]) := by
    refine ⟨W.heap.size + 1, 0, 2, rfl, by simp, fun i t hi => ?_⟩
    have hw : ((W.alloc (.cells #[.slice a k c] 27)).alloc (.cells #[.int .i64 clock, .int .i64 low] 3)).heap[W.heap.size + 1]? = some (.cells #[.int .i64 clock, .int .i64 low] 3 (0, 0)) := by
      have := heap_new (W.alloc (.cells #[.slice a k c] 27)) (.cells #[.int .i64 clock, .int .i64 low] 3)
      simpa using this
    match i, hi with
    | 0, hi => simp only [List.getElem?_cons_zero, Option.some.injEq] at hi; subst hi; exact cell_of hw rfl
    | 1, hi => simp only [List.getElem?_cons_succ, List.getElem?_cons_zero, Option.some.injEq] at hi; subst hi; exact cell_of hw rfl
    | i + 2, hi => simp at hi
  refine Calls.mono (checkBounds_any (HR.out _ HA2.out) C HC.out HI.out) ?_
  rintro z W1 ⟨rfl, b1⟩
  rw [← HRR.out]
  have B1 := HA2.out.trans (b1.mono HA2.out.size)
  have s0 : W1.cell? ⟨W.heap.size, 0, none⟩ = some (.slice a k c) := by
    rw [b1.cell (p := ⟨W.heap.size, 0, none⟩) (by simp; omega)]
    simp
  have HB1 := Lib.hid B1
  have HCz : Hid (R = 0 → fs.length ≤ 8) := fun z => ((HC.out.1.1 (bounds_ok (HRR.out.symm.trans z)).1).1).2
  clear b1 B1 HI HA2 HRR
  by_cases h0 : R = 0
  · have b0 : (R != 0) = false := by simp [h0]
    have H0 := Lib.hid h0
    clear h0
    by_cases h1 : nv < 1
    · have H1 := Lib.hid h1
      have q : Hid (Q = 32) := by unfold Hid; rw [HQ.out, if_neg (by simpa using H0.out), if_pos (.inl H1.out)]
      go_wp2
      go_ret2
      exact ⟨HB1.out, fun _ => by rw [q.out]; rfl, fun z => by have := q.out; omega⟩
    · have h1d : decide (nv < 1) = false := decide_eq_false h1
      have H1 : Hid (1 ≤ nv) := Int.not_lt.1 h1
      clear h1
      by_cases h2 : 16 < nv
      · have H2 := Lib.hid h2
        have q : Hid (Q = 32) := by unfold Hid; rw [HQ.out, if_neg (by simpa using H0.out), if_pos (.inr H2.out)]
        go_wp2
        go_ret2
        exact ⟨HB1.out, fun _ => by rw [q.out]; rfl, fun z => by have := q.out; omega⟩
      · have h2d : decide (16 < nv) = false := decide_eq_false h2
        have H2 : Hid (nv ≤ 16) := Int.not_lt.1 h2
        have q : Hid (Q = 0) := by unfold Hid; rw [HQ.out, if_neg (by simpa using H0.out), if_neg (by have := H1.out; have := H2.out; omega)]
        clear h2
        have A3 := (Below.refl W1.heap.size W1).alloc (Nat.le_refl _) (.cells #[.pointer none, .slice none 0 0, .int .i64 low, .int .i64 nv, .int .i64 0] 103)
        have sb : SBx (W1.alloc (.cells #[.pointer none, .slice none 0 0, .int .i64 low, .int .i64 nv, .int .i64 0] 103)) W1.heap.size (.pointer none) (.slice none 0 0) (rBc low nv 0) 103 := heap_new W1 _
        have s1 : (W1.alloc (.cells #[.pointer none, .slice none 0 0, .int .i64 low, .int .i64 nv, .int .i64 0] 103)).cell? ⟨W.heap.size, 0, none⟩ = some (.slice a k c) := by rw [A3.cell (p := ⟨W.heap.size, 0, none⟩) (World.block_lt_of_cell? W1 _ s0)]; exact s0
        have HA3 := Lib.hid A3
        have HSB := Lib.hid sb
        clear A3 sb s0
        go_wp2_with fail
        have hB3 := HB1.out.trans (HA3.out.mono HB1.out.size)
        have hnw := newWalk_any (by have := HR.out _ hB3; rw [HK.out] at this; exact this) HN.out (HCz.out H0.out) clock (.func (.func 71) #[.pointer (some ⟨W1.heap.size, 0, none⟩)] #[]) ⟨_, _, _, rfl⟩
        rw [← HK.out] at hnw
        refine Calls.mono hnw ?_
        rintro z W2 ⟨wb, a', c', rfl, hwb, hwx, hof, hb2⟩
        clear hnw
        have szX : (W1.alloc (.cells #[.pointer none, .slice none 0 0, .int .i64 low, .int .i64 nv, .int .i64 0] 103)).heap.size = W1.heap.size + 1 := by simp
        have sb2 := HSB.out.keep (hb2.block W1.heap.size HSB.out.lt)
        rw [szX] at hwb
        have hof2 : OwnF W2 (W1.heap.size + 1) (.slice a' k c') k fs := by rw [← szX]; exact hof
        have HB2 := Lib.hid (hB3.trans (hb2.mono hB3.size))
        have HW := Lib.hid hwx
        have HOf := Lib.hid hof2
        have HSB2 := Lib.hid sb2
        have HWB := Lib.hid hwb
        have p0 := sb2.c00
        have f0 := sb2.fz 0
        clear hb2 hwx hof hof2 sb2 hwb szX hB3 s1 HA3 HSB
        go_wp2
        go_ret2
        have hne : W1.heap.size ≠ wb := by have := HWB.out; omega
        have hG := grown1 W2 W1.heap.size 0 (.pointer (some ⟨wb, 0, none⟩))
        have b2 := HB2.out
        have l1 := HB1.out.size
        refine ⟨⟨b2.os, b2.tape, b2.output, Nat.le_trans b2.size hG.size, fun i hi => (hG.block i (Nat.lt_of_lt_of_le hi b2.size) (fun z => by cases z; omega)).trans (b2.block i hi)⟩, fun z => absurd q.out z, fun _ => ⟨W1.heap.size, wb, a', c', rfl, l1, by have := HWB.out; omega, hne, HSB2.out.set0 _, HW.out.keep (hG.block wb HW.out.lt (fun z => by cases z; exact hne rfl)), ?_⟩⟩
        obtain ⟨o1, o2⟩ := HOf.out
        exact ⟨o1, row_low (row_same o2 (fun g hg => hG.block g (o2.lt g hg).2 (fun z => by cases z; have := (o2.lt _ hg).1; omega))) (by omega)⟩
  · have b0 : (R != 0) = true := by simp [h0]
    have q : Hid (Q = R ∧ R ≠ 0) := ⟨by rw [HQ.out, if_pos h0], h0⟩
    clear h0
    go_wp2
    go_ret2
    exact ⟨HB1.out, fun _ => by rw [q.out.1]; rfl, fun z => absurd (q.out.1.symm.trans z) q.out.2⟩
end Go.Proofs.YthhkpkfpifllkaaGreat

namespace Go.Proofs.YthhkpkfpifllkaaGreat
open Go.RowKit
set_option linter.unusedVariables false

theorem Wk.start {W : World} {wb g rb B : Nat} {a : Option Addr} {c : Nat} {fs : List FamD} {clock : Int} {T : World → (Nat → Prop) → List Vd → Prop} (hb : WBx W wb (.slice a fs.length c) clock (.func (.func g) #[.pointer (some ⟨rb, 0, none⟩)] #[]) spZ) (hf : OwnF W B (.slice a fs.length c) fs.length fs) (hl : fs.length ≤ 8) (t : T W (fun i => i = rb) []) (hne : wb ≠ rb) (hr : ∃ cs ty, W.heap[rb]? = some (.cells cs ty (0, 0)) ∧ ty ≠ 132) :
    Wk W wb g rb (.slice a fs.length c) fs clock T W (fun i => i = rb) spZ [] := by
  have far : ∀ k, (Value.slice a fs.length c).ownBlock = some k → k ≠ wb ∧ k ≠ rb := fun k hk => by
    rcases hf.2.2 with ⟨h1, -⟩ | ⟨g, cap, cur, h1, -, h3, -⟩
    · rw [h1] at hk; cases hk
    · rw [h1] at hk
      cases hk
      refine ⟨fun z => ?_, fun z => ?_⟩
      · have := hb
        unfold WBx at this
        rw [← z, h3] at this
        simp at this
      · obtain ⟨cs, ty, k1, k2⟩ := hr
        rw [← z, h3] at k1
        simp at k1
        exact k2 k1.2.symm
  refine ⟨hb, fun Z hZ => ?_, t, ⟨⟨rfl, World.ownsRow_nil _ _ _ _⟩, ⟨rfl, World.ownsRow_nil _ _ _ _⟩, ⟨rfl, World.ownsRow_nil _ _ _ _⟩⟩, (fun k hk => by rcases hk with hk | hk | hk <;> cases hk), ⟨(fun k hk => by cases hk), (fun k hk => by cases hk)⟩, (fun k hk => by rcases hk with hk | hk | hk <;> cases hk), fun i hi => .inl hi, Nat.le_refl _, ⟨hb.lt, hne, fun z => z⟩, by simp [spZ], by simp [spZ], by simp [spZ, Bys], by simp [spZ], (fun z => by cases z), rfl, rfl, rfl, Nat.le_refl _, fun i _ _ _ _ => rfl⟩
  exact OwnF.rd ⟨hf.1, row_same hf.2 (fun g hg => hZ.2 g (hf.2.lt g hg).2 (far g hg).1 (far g hg).2 (fun z => z))⟩ hl
theorem TF.start {W : World} {fb N : Nat} {c0 : Value} {major : Bool} {low : Int} (hb : SBx W fb c0 (.slice none 0 0) (fBc major low ⟨0, 0, 0, 0, 0⟩) 107) (hN : N ≤ W.heap.size) : TF [] fb N c0 major low W (fun i => i = fb) [] :=
  ⟨⟨[], .slice none 0 0, fun _ => False, hb, Rw.nil _ _ _, fun z => z, fun _ z => z.elim, rfl⟩, by simp [cntS, Ct.Ok], rfl, fun i hi => by rw [hi]; exact hb.lt, hN⟩
theorem TR.start {W : World} {fb N : Nat} {cp : Option Addr} {tm n : Int} (hb : SBx W fb (.pointer cp) (.slice none 0 0) (rBc tm n 0) 103) (hN : N ≤ W.heap.size) : TR [] fb N cp tm n W (fun i => i = fb) [] :=
  ⟨⟨[], .slice none 0 0, fun _ => False, hb, Rw.nil _ _ _, fun z => z, fun _ z => z.elim, rfl⟩, by simp [showS], rfl, fun i hi => by rw [hi]; exact hb.lt, hN⟩
theorem TP.start {W : World} {pb : Nat} (hb : PBx W pb 0) : TP pb W (fun i => i = pb) [] := ⟨hb, fun _ => Iff.rfl⟩
def check3S (k : Nat) (e : EntD) : Int := if checkS e ≠ 0 then (checkS e : Int) else if (k : Int) ≤ e.fam then 21 else 0

set_option maxRecDepth 100000 in
set_option maxHeartbeats 4000000 in
theorem check3_any {W : World} {wb k c : Nat} {a : Option Addr} {clock : Int} {tv : Value} {s : SpD} {e : EntD} (hb : WBx W wb (.slice a k c) clock tv s) (hok : EntD.Ok W e) :
    Calls Tryz.prog 94 #[.pointer (some ⟨wb, 0, none⟩), .agg e.cells] W fun r W' => r = .returned (.int .i64 (check3S k e)) ∧ Below W.heap.size W W' := by
  have A := (Below.refl W.heap.size W).alloc (Nat.le_refl _) (.cells e.cells 84)
  have eb := EBox.new W e
  obtain ⟨X, hX⟩ : ∃ X, X = W.alloc (.cells e.cells 84) := ⟨_, rfl⟩
  rw [← hX] at A eb
  have HC := Lib.hid (check_any (hok.later A))
  have HEb := Lib.hid eb
  have HB := Lib.hid (hb.later A)
  have HA := Lib.hid A
  have HX := Lib.hid hX
  obtain ⟨C, hC⟩ : ∃ C, C = checkS e := ⟨_, rfl⟩
  rw [← hC] at HC
  obtain ⟨R, hR⟩ : ∃ R, R = check3S k e := ⟨_, rfl⟩
  have HR : Hid (R = if C ≠ 0 then (C : Int) else if (k : Int) ≤ e.fam then 21 else 0) := by unfold Hid; rw [hR, hC]; rfl
  rw [← hR]
  have xs := And.intro (EBox.vr eb) (And.intro (EBox.fam eb) (And.intro (EBox.vq eb) (And.intro (EBox.ts eb) (And.intro (EBox.seq eb) (And.intro (EBox.kind eb) (EBox.vv eb))))))
  rw [hX] at xs
  unfold EntD.cells at HX HC xs ⊢
  clear hb hok A eb hX hC hR
  obtain ⟨x0, x1, x2, x3, x4, x5, x6⟩ := xs
  go_enter Tryz.func94, Tryz.ntmps94
  go_wp2_with fail
  rw [← HX.out]
  refine Calls.mono HC.out ?_
  rintro z W1 ⟨rfl, b1⟩
  have HB1 := Lib.hid (HA.out.trans (b1.mono HA.out.size))
  have y1 : W1.cell? ⟨W.heap.size, 1, none⟩ = some (.int .i64 e.fam) := EBox.fam (HEb.out.later b1)
  have z0 : W1.cell? ⟨wb, 0, none⟩ = some (.slice a k c) := (HB.out.later b1).at 0
  clear b1 x0 x1 x2 x3 x4 x5 x6 HC HX HEb HB HA
  by_cases h0 : C = 0
  · have HR2 : Hid (R = if (k : Int) ≤ e.fam then 21 else 0) := by unfold Hid; rw [HR.out, if_neg (by simpa using h0)]
    subst h0
    clear HR
    by_cases h1 : (k : Int) ≤ e.fam
    · have q : Hid (R = 21) := by unfold Hid; rw [HR2.out, if_pos h1]
      go_upto_region 4 with fail
      go_region
      go_wp2
      go_ret
      exact ⟨by rw [q.out]; rfl, HB1.out.drew⟩
    · have q : Hid (R = 0) := by unfold Hid; rw [HR2.out, if_neg h1]
      have h1d : decide ((k : Int) ≤ e.fam) = false := decide_eq_false h1
      go_upto_region 4 with fail
      go_region
      go_wp2
      go_ret
      exact ⟨by rw [q.out]; rfl, HB1.out.drew⟩
  · have q : Hid (R = (C : Int)) := by unfold Hid; rw [HR.out, if_pos h0]
    have b0 : ((C : Int) != 0) = true := by simp; omega
    clear HR h0
    go_wp2
    go_ret
    exact ⟨by rw [q.out]; rfl, HB1.out⟩
theorem fit_of_check {k : Nat} {e : EntD} (h : check3S k e = 0) : Fit k e.dat := by
  unfold check3S at h
  by_cases hc : checkS e = 0
  · rw [if_neg (by simpa using hc)] at h
    by_cases hk : (k : Int) ≤ e.fam
    · rw [if_pos hk] at h; cases h
    · unfold checkS at hc
      repeat' split at hc
      all_goals first | (exfalso; omega) | skip
      refine ⟨?_, ?_, ?_, ?_, ?_, ?_, ?_⟩ <;> simp only [EntD.dat] <;> omega
  · rw [if_pos hc] at h
    omega
end Go.Proofs.YthhkpkfpifllkaaGreat

namespace Go.Proofs.YthhkpkfpifllkaaGreat
open Go.RowKit
set_option linter.unusedVariables false

def pushE (k : Nat) (s : SpD) (e : EntD) : Int := if check3S k e ≠ 0 then check3S k e else if s.begun = true then (if compareS e s.last < 0 then 30 else if sameS e s.last = true then 0 else if e.seq = s.last.seq then 31 else 0) else 0
def pushS (k : Nat) (fs : List (Int × Int)) (clock : Int) (s : SpD) (e : EntD) : List Vd × Sp := if pushE k s e ≠ 0 then ([], s.dat) else if s.begun = true ∧ sameS e s.last = true then ([⟨e.dat, 1, 0⟩], s.dat) else stepS fs clock s.dat e.dat
section
variable {W0 : Base} {W W' : World} {wb g rb : Nat} {fv : Value} {fs : List FamD} {clock : Int} {T : World → (Nat → Prop) → List Vd → Prop} {O : Nat → Prop} {s : SpD} {vs : List Vd} {e : EntD}
def Lst (s : SpD) (i : Nat) : Prop := s.last.vr.ownBlock = some i ∨ s.last.vq.ownBlock = some i ∨ s.last.vv.ownBlock = some i
theorem Wk.rebase (ht : Teller g rb T) (h : Wk W0 wb g rb fv fs clock T W O s vs) (hO : ∀ i, O i → i = rb) (hs : W.heap.size ≤ W'.heap.size) (hw : W'.heap[wb]? = W.heap[wb]?) (hr : W'.heap[rb]? = W.heap[rb]?) (hm : ∀ i, Lst s i → W'.heap[i]? = W.heap[i]?) (hf : ∀ Z, Fr0 ⟨W', W0.lo, Lst s⟩ wb rb Z → RdF Z fv fs) : Wk ⟨W', W0.lo, Lst s⟩ wb g rb fv fs clock T W' O s vs := by
  refine ⟨h.box.keep hw, hf, ht.keep h.tell (fun i hi => by rw [hO i hi]; exact hr) hs, ⟨own_same h.own.1 (fun k hk => hm k (.inl hk)), own_same h.own.2.1 (fun k hk => hm k (.inr (.inl hk))), own_same h.own.2.2 (fun k hk => hm k (.inr (.inr hk)))⟩, fun k hk => .inl hk, h.apart, h.apO, fun i hi => .inl (hO i hi), Nat.le_trans h.lo (Nat.le_trans h.fr.1 hs), ⟨Nat.lt_of_lt_of_le h.box.lt hs, h.wlow.2.1, fun k => h.lastw _ k rfl⟩, h.rank, h.mask, h.bys, h.few, h.wait, rfl, rfl, rfl, Nat.le_refl _, fun i _ _ _ _ => rfl⟩
set_option maxRecDepth 100000 in
set_option maxHeartbeats 4000000 in
theorem wpush_any (ht : Teller g rb T) (h : Wk W0 wb g rb fv fs clock T W O s vs) (he : ∀ Z, Fr0 W0 wb rb Z → EntD.Ok Z e) (hv : vs.length + 4 < 1353245080339) (hfs : ∀ f ∈ fs, 0 ≤ f.tl ∧ f.tl ≤ 1099511627776) (hr : s.rank ≤ vs.length) (hwb : s.waiting = true → s.begun = true) :
    Calls Tryz.prog 107 #[.pointer (some ⟨wb, 0, none⟩), .agg e.cells] W fun r W' => r = .returned (.int .i64 (pushE fs.length s e)) ∧ ∃ O' s', Wk W0 wb g rb fv fs clock T W' O' s' (vs ++ (pushS fs.length (mt fs) clock s e).1) ∧ s'.dat = (pushS fs.length (mt fs) clock s e).2 := by
  have A := (Below.refl W.heap.size W).alloc (Nat.le_refl _) (.cells e.cells 84)
  have eb := EBox.new W e
  have h1 := h.later ht A
  obtain ⟨qb, hqb⟩ : ∃ q, q = W.heap.size := ⟨_, rfl⟩
  have hqb' := hqb.symm
  rw [← hqb] at eb
  obtain ⟨X, hX⟩ : ∃ X, X = W.alloc (.cells e.cells 84) := ⟨_, rfl⟩
  rw [← hX] at eb h1
  have HX := Lib.hid hX
  have HT := Lib.hid ht
  have HE := Lib.hid he
  have HFs := Lib.hid hfs
  have HWb := Lib.hid hwb
  have HU : Hid (∀ Z, Below X.heap.size X Z → Wk W0 wb g rb fv fs clock T Z O s vs ∧ EBox Z qb e ∧ EntD.Ok Z e ∧ EntD.Ok Z s.last) := fun Z b => by
    have k := h1.later ht b
    exact ⟨k, eb.later b, he Z k.fr, k.ok⟩
  have HCs : Hid (∀ Z, Below X.heap.size X Z → (Z.cell? ⟨qb, 0, none⟩ = some e.vr ∧ Z.cell? ⟨qb, 1, none⟩ = some (.int .i64 e.fam) ∧ Z.cell? ⟨qb, 2, none⟩ = some e.vq ∧ Z.cell? ⟨qb, 3, none⟩ = some (.int .i64 e.ts) ∧ Z.cell? ⟨qb, 4, none⟩ = some (.int .i64 e.seq) ∧ Z.cell? ⟨qb, 5, none⟩ = some (.int .i64 e.kind) ∧ Z.cell? ⟨qb, 6, none⟩ = some e.vv) ∧ (Z.cell? ⟨wb, 4, none⟩ = some s.last.vr ∧ Z.cell? ⟨wb, 5, none⟩ = some (.int .i64 s.last.fam) ∧ Z.cell? ⟨wb, 6, none⟩ = some s.last.vq ∧ Z.cell? ⟨wb, 7, none⟩ = some (.int .i64 s.last.ts) ∧ Z.cell? ⟨wb, 8, none⟩ = some (.int .i64 s.last.seq) ∧ Z.cell? ⟨wb, 9, none⟩ = some (.int .i64 s.last.kind) ∧ Z.cell? ⟨wb, 10, none⟩ = some s.last.vv)) := fun Z b => ⟨EBox.cells7 (HU.out Z b).2.1, (HU.out Z b).1.box.last7⟩
  have HC1 : Hid (Calls Tryz.prog 94 #[.pointer (some ⟨wb, 0, none⟩), .agg e.cells] X fun r W' => r = .returned (.int .i64 (check3S fs.length e)) ∧ Below X.heap.size X W') := by
    obtain ⟨k1, k2, k3, k4⟩ := HU.out X (Below.refl _ _)
    obtain ⟨fa, fc, hfv, -⟩ := k1.fam X k1.fr
    exact check3_any (by rw [← hfv]; exact k1.box) k3
  have HC2 : Hid (∀ Z, Below X.heap.size X Z → Calls Tryz.prog 81 #[.agg e.cells, .agg s.last.cells] Z fun r W' => r = .returned (.int .i64 (compareS e s.last)) ∧ Below X.heap.size X W') := fun Z b => (compare_any (HU.out Z b).2.2.1 (HU.out Z b).2.2.2).mono (fun r w' k => ⟨k.1, b.trans (k.2.mono b.size)⟩)
  have HC3 : Hid (∀ Z, Below X.heap.size X Z → Calls Tryz.prog 108 #[.agg e.cells, .agg s.last.cells] Z fun r W' => r = .returned (.bool (sameS e s.last)) ∧ Below X.heap.size X W') := fun Z b => (same3_any (HU.out Z b).2.2.1 (HU.out Z b).2.2.2).mono (fun r w' k => ⟨k.1, b.trans (k.2.mono b.size)⟩)
  have HC4 : Hid (∀ Z, Below X.heap.size X Z → check3S fs.length e = 0 → Calls Tryz.prog g #[.pointer (some ⟨rb, 0, none⟩), vdV e 1 0] Z fun r W' => r = .returned (.tuple #[]) ∧ ∃ O', Wk W0 wb g rb fv fs clock T W' O' s (vs ++ [⟨e.dat, 1, 0⟩]) ∧ EBox W' qb e) := fun Z b hc => (ht.say 1 0 (HU.out Z b).1.tell (HU.out Z b).2.2.1 (fit_of_check hc) (by omega)).mono (fun r w' k => ⟨k.1, k.2.choose, (HU.out Z b).1.told k.2.choose_spec.1 k.2.choose_spec.2, k.2.choose_spec.2.ebox (h.fresh ht (by rw [hqb]; exact Nat.le_refl _)) (HU.out Z b).2.1⟩)
  have HC5 : Hid (∀ Z, Below X.heap.size X Z → check3S fs.length e = 0 → Calls Tryz.prog 95 #[.pointer (some ⟨wb, 0, none⟩), .agg e.cells] Z fun r W' => r = .returned (.tuple #[]) ∧ ∃ O' s', Wk W0 wb g rb fv fs clock T W' O' s' (vs ++ (stepS (mt fs) clock s.dat e.dat).1) ∧ s'.dat = (stepS (mt fs) clock s.dat e.dat).2) := fun Z b hc => step_any HT.out (HU.out Z b).1 HE.out (fit_of_check hc) hv HFs.out hr HWb.out
  have HEE : Hid (pushE fs.length s e = if check3S fs.length e ≠ 0 then check3S fs.length e else if s.begun = true then (if compareS e s.last < 0 then 30 else if sameS e s.last = true then 0 else if e.seq = s.last.seq then 31 else 0) else 0) := rfl
  have HSS : Hid (pushS fs.length (mt fs) clock s e = if pushE fs.length s e ≠ 0 then ([], s.dat) else if s.begun = true ∧ sameS e s.last = true then ([⟨e.dat, 1, 0⟩], s.dat) else stepS (mt fs) clock s.dat e.dat) := rfl
  have HS0 : Hid (sameS e s.last = true → compareS e s.last = 0) := fun k => by unfold sameS at k; simp at k; exact k.1
  obtain ⟨C, hC⟩ : ∃ C, C = check3S fs.length e := ⟨_, rfl⟩
  obtain ⟨P, hP⟩ : ∃ P, P = compareS e s.last := ⟨_, rfl⟩
  obtain ⟨M, hM⟩ : ∃ M, M = sameS e s.last := ⟨_, rfl⟩
  obtain ⟨E, hE⟩ : ∃ E, E = pushE fs.length s e := ⟨_, rfl⟩
  obtain ⟨D, hD⟩ : ∃ D, D = pushS fs.length (mt fs) clock s e := ⟨_, rfl⟩
  rw [← hC] at HC1 HC4 HC5 HEE
  rw [← hP] at HC2 HS0 HEE
  rw [← hM] at HC3 HS0 HEE HSS
  rw [← hE] at HEE HSS ⊢
  rw [← hD] at HSS ⊢
  have eg := ht.enters
  have xs := (HCs.out X (Below.refl _ _)).1
  rw [hX] at xs
  obtain ⟨x0, x1, x2, x3, x4, x5, x6⟩ := xs
  unfold vdV at HC4
  unfold EntD.cells at HX HC1 HC2 HC3 HC5 x0 x1 x2 x3 x4 x5 x6 ⊢
  clear ht h he hfs hwb A eb h1 hX hqb hC hP hM hE hD
  go_enter Tryz.func107, Tryz.ntmps107
  go_wp2_with fail
  rw [← HX.out]
  (try rw [hqb'])
  refine Calls.mono HC1.out ?_
  rintro z X1 ⟨rfl, b1⟩
  have HB1 := Lib.hid b1
  clear x0 x1 x2 x3 x4 x5 x6 HC1 HX hqb' b1
  by_cases hc : C = 0
  · subst hc
    have c3 := (HU.out X1 HB1.out).1.box.c3
    obtain ⟨⟨x0, x1, x2, x3, x4, x5, x6⟩, y4, y5, y6, y7, y8, y9, y10⟩ := HCs.out X1 HB1.out
    cases hbg : s.begun with
    | false =>
      rw [hbg] at c3
      have HE0 : Hid (E = 0 ∧ D = stepS (mt fs) clock s.dat e.dat) := by
        have q : E = 0 := by rw [HEE.out]; simp [hbg]
        exact ⟨q, by rw [HSS.out]; simp [hbg, q]⟩
      have HC6 := Lib.hid (HC5.out X1 HB1.out rfl)
      clear hbg HEE HSS
      go_wp2_with fail
      refine Calls.mono HC6.out ?_
      rintro z2 X2 ⟨rfl, O', s', k1, k2⟩
      have HK := Lib.hid (And.intro k1 k2)
      clear k1 k2 HC6 c3 x0 x1 x2 x3 x4 x5 x6 y4 y5 y6 y7 y8 y9 y10
      go_wp2
      go_ret
      rw [HE0.out.2]
      exact ⟨by rw [HE0.out.1]; rfl, O', s', HK.out.1, HK.out.2⟩
    | true =>
      rw [hbg] at c3
      have HEE2 : Hid (E = if P < 0 then 30 else if M = true then 0 else if e.seq = s.last.seq then 31 else 0) := by unfold Hid; rw [HEE.out]; simp [hbg]
      have HSS2 : Hid (D = if E ≠ 0 then ([], s.dat) else if M = true then ([⟨e.dat, 1, 0⟩], s.dat) else stepS (mt fs) clock s.dat e.dat) := by unfold Hid; rw [HSS.out]; simp [hbg]
      clear hbg HEE HSS
      have D1 : Below X1.heap.size X1 X1.drew := (Below.refl _ _).drew
      have B2 := HB1.out.trans (D1.mono HB1.out.size)
      have HC6 := Lib.hid (HC2.out _ B2)
      have z1 := HCs.out _ B2
      go_upto_region 5 with fail
      go_region_held3 (fun Z => (Z.cell? ⟨qb, 0, none⟩ = some e.vr ∧ Z.cell? ⟨qb, 1, none⟩ = some (.int .i64 e.fam) ∧ Z.cell? ⟨qb, 2, none⟩ = some e.vq ∧ Z.cell? ⟨qb, 3, none⟩ = some (.int .i64 e.ts) ∧ Z.cell? ⟨qb, 4, none⟩ = some (.int .i64 e.seq) ∧ Z.cell? ⟨qb, 5, none⟩ = some (.int .i64 e.kind) ∧ Z.cell? ⟨qb, 6, none⟩ = some e.vv) ∧ (Z.cell? ⟨wb, 4, none⟩ = some s.last.vr ∧ Z.cell? ⟨wb, 5, none⟩ = some (.int .i64 s.last.fam) ∧ Z.cell? ⟨wb, 6, none⟩ = some s.last.vq ∧ Z.cell? ⟨wb, 7, none⟩ = some (.int .i64 s.last.ts) ∧ Z.cell? ⟨wb, 8, none⟩ = some (.int .i64 s.last.seq) ∧ Z.cell? ⟨wb, 9, none⟩ = some (.int .i64 s.last.kind) ∧ Z.cell? ⟨wb, 10, none⟩ = some s.last.vv)) (first | exact HCs.out _ b3 | exact z1) ((refine Calls.mono HC6.out ?_; rintro z2 X2 ⟨rfl, b3⟩))
      have HB3 := Lib.hid b3
      clear c3 x0 x1 x2 x3 x4 x5 x6 y4 y5 y6 y7 y8 y9 y10 z1 D1 B2 HC6 b3
      by_cases hp : P < 0
      · have q : Hid (E = 30 ∧ D = ([], s.dat)) := by
          have q1 : E = 30 := by rw [HEE2.out, if_pos hp]
          exact ⟨q1, by rw [HSS2.out, if_pos (by rw [q1]; decide)]⟩
        have hpd : decide (P < 0) = true := decide_eq_true hp
        clear HEE2 HSS2
        go_wp2
        go_ret
        rw [q.out.2]
        exact ⟨by rw [q.out.1]; rfl, O, s, by simpa using (HU.out _ HB3.out).1, rfl⟩
      · have hpd : decide (P < 0) = false := decide_eq_false hp
        have HEE3 : Hid (E = if M = true then 0 else if e.seq = s.last.seq then 31 else 0) := by unfold Hid; rw [HEE2.out, if_neg hp]
        clear HEE2
        go_upto_region 8 with fail
        go_cut [28] (fun c wx => c = .bool M ∧ Hid (Below X.heap.size X wx))
        case first =>
          by_cases h0 : P = 0
          · subst h0
            have D1 : Below X2.heap.size X2 X2.drew := (Below.refl _ _).drew
            have B2 := HB3.out.trans (D1.mono HB3.out.size)
            have HC6 := Lib.hid (HC3.out _ B2)
            have z1 := HCs.out _ B2
            go_region_held3 (fun Z => (Z.cell? ⟨qb, 0, none⟩ = some e.vr ∧ Z.cell? ⟨qb, 1, none⟩ = some (.int .i64 e.fam) ∧ Z.cell? ⟨qb, 2, none⟩ = some e.vq ∧ Z.cell? ⟨qb, 3, none⟩ = some (.int .i64 e.ts) ∧ Z.cell? ⟨qb, 4, none⟩ = some (.int .i64 e.seq) ∧ Z.cell? ⟨qb, 5, none⟩ = some (.int .i64 e.kind) ∧ Z.cell? ⟨qb, 6, none⟩ = some e.vv) ∧ (Z.cell? ⟨wb, 4, none⟩ = some s.last.vr ∧ Z.cell? ⟨wb, 5, none⟩ = some (.int .i64 s.last.fam) ∧ Z.cell? ⟨wb, 6, none⟩ = some s.last.vq ∧ Z.cell? ⟨wb, 7, none⟩ = some (.int .i64 s.last.ts) ∧ Z.cell? ⟨wb, 8, none⟩ = some (.int .i64 s.last.seq) ∧ Z.cell? ⟨wb, 9, none⟩ = some (.int .i64 s.last.kind) ∧ Z.cell? ⟨wb, 10, none⟩ = some s.last.vv)) (first | exact HCs.out _ b3 | exact z1) ((refine Calls.mono HC6.out ?_; rintro z3 X3 ⟨rfl, b3⟩))
            have HB4 := Lib.hid b3
            clear z1 D1 B2 HC6 b3
            go_wp2_with fail
            go_meet
            exact ⟨rfl, HB4.out⟩
          · have hM : M = false := by cases hm : M; rfl; exact absurd (HS0.out hm) h0
            subst hM
            have b0 : (P == 0) = false := by simp [h0]
            go_quiet (fail)
            go_wp2_with fail
            go_meet
            exact ⟨rfl, below_dn HB3.out _⟩
        case rest =>
        obtain ⟨rfl, HB4⟩ := hcut
        obtain ⟨X3, hX3⟩ : ∃ X3, X3 = wc := ⟨_, rfl⟩
        subst hX3
        have D1 : Below X3.heap.size X3 X3.drew := (Below.refl _ _).drew
        have B5 := HB4.out.trans (D1.mono HB4.out.size)
        cases M with
        | true =>
          have q : Hid (E = 0 ∧ D = ([⟨e.dat, 1, 0⟩], s.dat)) := by
            have q1 : E = 0 := by rw [HEE3.out, if_pos rfl]
            exact ⟨q1, by rw [HSS2.out, if_neg (by rw [q1]; decide), if_pos rfl]⟩
          have HC6 := Lib.hid (HC4.out _ B5 (by trivial))
          have z1 := (HU.out _ B5).1.box.c2
          have z2 := (HCs.out _ B5).1
          clear HEE3 HSS2
          go_upto_region 9 with fail
          go_region_held3 (fun Z => Z.cell? ⟨wb, 2, none⟩ = some (.func (.func g) #[.pointer (some ⟨rb, 0, none⟩)] #[]) ∧ (Z.cell? ⟨qb, 0, none⟩ = some e.vr ∧ Z.cell? ⟨qb, 1, none⟩ = some (.int .i64 e.fam) ∧ Z.cell? ⟨qb, 2, none⟩ = some e.vq ∧ Z.cell? ⟨qb, 3, none⟩ = some (.int .i64 e.ts) ∧ Z.cell? ⟨qb, 4, none⟩ = some (.int .i64 e.seq) ∧ Z.cell? ⟨qb, 5, none⟩ = some (.int .i64 e.kind) ∧ Z.cell? ⟨qb, 6, none⟩ = some e.vv)) (first | exact ⟨k5.box.c2, EBox.cells7 k6⟩ | exact ⟨z1, z2⟩) ((refine Calls.mono HC6.out ?_; rintro z4 X4 ⟨rfl, O4, k5, k6⟩))
          have HK := Lib.hid k5
          clear k5 k6 z1 z2 HC6 D1 B5
          go_wp2
          go_ret
          rw [q.out.2]
          exact ⟨by rw [q.out.1]; rfl, O4, s, HK.out, rfl⟩
        | false =>
          have HEE4 : Hid (E = if e.seq = s.last.seq then 31 else 0) := by unfold Hid; rw [HEE3.out, if_neg (by decide)]
          obtain ⟨⟨x0, x1, x2, x3, x4, x5, x6⟩, y4, y5, y6, y7, y8, y9, y10⟩ := HCs.out X3 HB4.out
          clear HEE3
          by_cases hq : e.seq = s.last.seq
          · have q : Hid (E = 31 ∧ D = ([], s.dat)) := by
              have q1 : E = 31 := by rw [HEE4.out, if_pos hq]
              exact ⟨q1, by rw [HSS2.out, if_pos (by rw [q1]; decide)]⟩
            have hqb : (e.seq == s.last.seq) = true := by simp [hq]
            clear HEE4 HSS2 hq
            go_upto_region 11 with fail
            go_region
            go_wp2
            go_ret
            rw [q.out.2]
            exact ⟨by rw [q.out.1]; rfl, O, s, by simpa using (HU.out _ B5).1, rfl⟩
          · have q : Hid (E = 0 ∧ D = stepS (mt fs) clock s.dat e.dat) := by
              have q1 : E = 0 := by rw [HEE4.out, if_neg hq]
              exact ⟨q1, by rw [HSS2.out, if_neg (by rw [q1]; decide), if_neg (by decide)]⟩
            have hqb : (e.seq == s.last.seq) = false := by simp [hq]
            have HC6 := Lib.hid (HC5.out _ B5 (by trivial))
            clear HEE4 HSS2 hq
            go_upto_region 11 with fail
            go_region
            clear x0 x1 x2 x3 x4 x5 x6 y4 y5 y6 y7 y8 y9 y10
            obtain ⟨x0, x1, x2, x3, x4, x5, x6⟩ := (HCs.out _ B5).1
            go_wp2_with fail
            refine Calls.mono HC6.out ?_
            rintro z4 X4 ⟨rfl, O', s', k1, k2⟩
            have HK := Lib.hid (And.intro k1 k2)
            clear k1 k2 HC6 x0 x1 x2 x3 x4 x5 x6 D1 B5
            go_wp2
            go_ret
            rw [q.out.2]
            exact ⟨by rw [q.out.1]; rfl, O', s', HK.out.1, HK.out.2⟩
  · have q : Hid (E = C ∧ D = ([], s.dat)) := by
      have q1 : E = C := by rw [HEE.out, if_pos hc]
      exact ⟨q1, by rw [HSS.out, if_pos (by rw [q1]; exact hc)]⟩
    have b0 : (C != 0) = true := by simp [hc]
    clear HEE HSS hc
    go_wp2
    go_ret
    rw [q.out.2]
    exact ⟨by rw [q.out.1]; rfl, O, s, by simpa using (HU.out _ HB1.out).1, rfl⟩
end
end Go.Proofs.YthhkpkfpifllkaaGreat

namespace Go.Proofs.YthhkpkfpifllkaaGreat
open Go.RowKit
set_option linter.unusedVariables false

structure Hands (g fb N : Nat) (c0 : Value) (T : List En → World → (Nat → Prop) → List Vd → Prop) : Prop where
  tl : ∀ hd, Teller g fb (T hd)
  out : ∀ {hd : List En} {W : World} {O : Nat → Prop} {vs : List Vd}, T hd W O vs → ∃ (xs : List EntD) (a : Option Addr) (c : Nat) (cs : List Value) (ty : TypeId) (Or : Nat → Prop), SBx W fb c0 (.slice a xs.length c) cs ty ∧ Rw W N (.slice a xs.length c) xs Or ∧ ¬ Or fb ∧ (∀ i, Or i → O i) ∧ O fb ∧ ∀ W', SBx W' fb c0 (.slice none 0 0) cs ty → W.grownBy W' (some fb) → T (hd ++ xs.map EntD.dat) W' (fun i => i = fb) vs
theorem filter_hands (fb N : Nat) (c0 : Value) (major : Bool) (low : Int) : Hands 70 fb N c0 (fun hd => TF hd fb N c0 major low) := by
  refine ⟨fun hd => filter_teller hd fb N c0 major low, fun {hd W O vs} h => ?_⟩
  obtain ⟨xs, ov, Or, hb, hr, hno, hsub, hx⟩ := h.st
  obtain ⟨a, c, rfl⟩ := rows_form3 hr.row
  refine ⟨xs, a, c, _, _, Or, hb, hr, hno, hsub, h.of, fun W' sb gr => ?_⟩
  exact ⟨⟨[], .slice none 0 0, fun _ => False, sb, Rw.nil _ _ _, fun z => z, fun _ z => z.elim, by simpa using hx⟩, h.ok, rfl, fun i hi => by rw [hi]; exact sb.lt, Nat.le_trans h.low gr.size⟩
theorem reader_hands (fb N : Nat) (cp : Option Addr) (tm n : Int) : Hands 71 fb N (.pointer cp) (fun hd => TR hd fb N cp tm n) := by
  refine ⟨fun hd => reader_teller hd fb N cp tm n, fun {hd W O vs} h => ?_⟩
  obtain ⟨xs, ov, Or, hb, hr, hno, hsub, hx⟩ := h.st
  obtain ⟨a, c, rfl⟩ := rows_form3 hr.row
  refine ⟨xs, a, c, _, _, Or, hb, hr, hno, hsub, h.of, fun W' sb gr => ?_⟩
  exact ⟨⟨[], .slice none 0 0, fun _ => False, sb, Rw.nil _ _ _, fun z => z, fun _ z => z.elim, by simpa using hx⟩, h.ok, rfl, fun i hi => by rw [hi]; exact sb.lt, Nat.le_trans h.low gr.size⟩
section
variable {W0 : Base} {W W' : World} {wb g rb N : Nat} {fv : Value} {fs : List FamD} {clock : Int} {hd : List En} {T : List En → World → (Nat → Prop) → List Vd → Prop} {O O' : Nat → Prop} {s : SpD} {vs : List Vd} {e : EntD}
theorem Wk.swap {T0 T1 : World → (Nat → Prop) → List Vd → Prop} (h : Wk W0 wb g rb fv fs clock T0 W O s vs) (t : T1 W' O' vs) (f : Tf W W' O O') : Wk W0 wb g rb fv fs clock T1 W' O' s vs := by
  have hlt := h.lastlt
  have sm : ∀ k, s.last.vr.ownBlock = some k ∨ s.last.vq.ownBlock = some k ∨ s.last.vv.ownBlock = some k → W'.heap[k]? = W.heap[k]? := fun k hk => f.block k (hlt k hk).2 (h.apO k hk)
  refine ⟨h.box.keep (f.block wb h.box.lt h.notO), h.fam, t, ⟨own_same h.own.1 (fun k hk => sm k (.inl hk)), own_same h.own.2.1 (fun k hk => sm k (.inr (.inl hk))), own_same h.own.2.2 (fun k hk => sm k (.inr (.inr hk)))⟩, h.lastL, h.apart, fun k hk ho => ?_, fun i hi => ?_, h.lo, h.wlow, h.rank, h.mask, h.bys, h.few, h.wait, f.os.trans h.os, f.tape.trans h.tape, f.output.trans h.output, Nat.le_trans h.fr.1 f.size, fun i hi h1 h2 h3 => ?_⟩
  · rcases f.own k ho with k1 | k1
    · exact h.apO k hk k1
    · have := (hlt k hk).2; omega
  · rcases f.own i hi with k1 | k1
    · exact h.low i k1
    · exact .inr (Nat.le_trans h.fr.1 k1)
  · rw [f.block i (Nat.lt_of_lt_of_le hi h.fr.1) (fun k => by rcases h.low i k with e | e; exact h2 e; omega)]
    exact h.fr.2 i hi h1 h2 h3
structure Gone (W0 : Base) (wb g rb N : Nat) (fv : Value) (fs : List FamD) (clock : Int) (T : List En → World → (Nat → Prop) → List Vd → Prop) (hd : List En) (W' : World) (v : Value) (xs : List EntD) (Or : Nat → Prop) (s' : SpD) (vs : List Vd) : Prop where
  rw_ : Rw W' N v xs Or
  new : ∀ i, Or i → W0.heap.size ≤ i ∧ i < W'.heap.size
  ap : ∀ i, Or i → ¬ Lst s' i ∧ i ≠ wb ∧ i ≠ rb
  wk : Wk W0 wb g rb fv fs clock (T (hd ++ xs.map EntD.dat)) W' (fun i => i = rb) s' vs
theorem gone_of (H : Hands g rb N (.pointer (some ⟨wb, 0, none⟩)) T) (k : Wk W0 wb g rb fv fs clock (T hd) W O s vs) {xs : List EntD} {a : Option Addr} {c : Nat} {Or : Nat → Prop} (hr : Rw W N (.slice a xs.length c) xs Or) (hno : ¬ Or rb) (hsub : ∀ i, Or i → O i) (hof : O rb) (hre : T (hd ++ xs.map EntD.dat) W' (fun i => i = rb) vs) (gr : W.grownBy W' (some rb)) : Gone W0 wb g rb N fv fs clock T hd W' (.slice a xs.length c) xs Or s vs := by
  refine ⟨hr.keep (fun i hi => gr.block i ((H.tl hd).lt k.tell (hsub i hi)) (fun z => by cases z; exact hno hi)), fun i hi => ⟨?_, Nat.lt_of_lt_of_le ((H.tl hd).lt k.tell (hsub i hi)) gr.size⟩, fun i hi => ⟨fun l => k.apO i l (hsub i hi), fun z => k.notO (by rw [← z]; exact hsub i hi), fun z => hno (by rw [← z]; exact hi)⟩, k.swap hre ⟨gr.os, gr.tape, gr.output, gr.size, fun i hi hn => gr.block i hi (fun z => by cases z; exact hn hof), fun i hi => .inl (by rw [hi]; exact hof)⟩⟩
  rcases k.low i (hsub i hi) with z | z
  · exact absurd (by rw [← z]; exact hi) hno
  · exact z

set_option maxRecDepth 100000 in
set_option maxHeartbeats 4000000 in
theorem spush_any (H : Hands g rb N (.pointer (some ⟨wb, 0, none⟩)) T) (h : Wk W0 wb g rb fv fs clock (T hd) W O s vs) (he : ∀ Z, Fr0 W0 wb rb Z → EntD.Ok Z e) (hv : vs.length + 4 < 1353245080339) (hfs : ∀ f ∈ fs, 0 ≤ f.tl ∧ f.tl ≤ 1099511627776) (hr : s.rank ≤ vs.length) (hwb : s.waiting = true → s.begun = true) :
    Calls Tryz.prog 73 #[.pointer (some ⟨rb, 0, none⟩), .agg e.cells] W fun r W' => ∃ xs a c Or s', r = .returned (.tuple #[.slice a xs.length c, .int .i64 (pushE fs.length s e)]) ∧ Gone W0 wb g rb N fv fs clock T hd W' (.slice a xs.length c) xs Or s' (vs ++ (pushS fs.length (mt fs) clock s e).1) ∧ s'.dat = (pushS fs.length (mt fs) clock s e).2 := by
  have A := (Below.refl W.heap.size W).alloc (Nat.le_refl _) (.cells e.cells 84)
  have eb := EBox.new W e
  have ht0 := H.tl hd
  have h1 := h.later ht0 A
  have hfr := h.fresh ht0 (Nat.le_refl W.heap.size)
  have hlt := h.lastlt
  obtain ⟨qb, hqb⟩ : ∃ q, q = W.heap.size := ⟨_, rfl⟩
  have hqb' := hqb.symm
  rw [← hqb] at eb hfr
  have K0 := h1.ext eb hfr (by rw [hqb]; exact h.fr.1) (fun k hk => by have := (hlt k hk).2; omega)
  have ht : Teller g rb (TE (T hd) qb (.cells e.cells 84 (0, 0))) := ht0.ext
  obtain ⟨TT, hTT⟩ : ∃ TT, TT = TE (T hd) qb (.cells e.cells 84 (0, 0)) := ⟨_, rfl⟩
  rw [← hTT] at K0 ht
  have HTT := Lib.hid hTT
  obtain ⟨X, hX⟩ : ∃ X, X = W.alloc (.cells e.cells 84) := ⟨_, rfl⟩
  rw [← hX] at K0
  have HX := Lib.hid hX
  have HH := Lib.hid H
  have HCE : Hid (∀ Z O' s' us, Wk W0 wb g rb fv fs clock TT Z O' s' us → Z.cell? ⟨rb, 0, none⟩ = some (.pointer (some ⟨wb, 0, none⟩)) ∧ Z.cell? ⟨qb, 0, none⟩ = some e.vr ∧ Z.cell? ⟨qb, 1, none⟩ = some (.int .i64 e.fam) ∧ Z.cell? ⟨qb, 2, none⟩ = some e.vq ∧ Z.cell? ⟨qb, 3, none⟩ = some (.int .i64 e.ts) ∧ Z.cell? ⟨qb, 4, none⟩ = some (.int .i64 e.seq) ∧ Z.cell? ⟨qb, 5, none⟩ = some (.int .i64 e.kind) ∧ Z.cell? ⟨qb, 6, none⟩ = some e.vv) := fun Z O' s' us k => by
    rw [hTT] at k
    obtain ⟨xs, a, c, cs, ty, Or, sb, -⟩ := H.out k.tell.2.2
    exact ⟨sb.c00, EBox.cells7 k.tell.1⟩
  have D4 : Below X.heap.size X X.drew := (Below.refl _ _).drew
  have K4 := K0.later ht D4
  have z1 := HCE.out _ _ _ _ K4
  have HC1 := Lib.hid (wpush_any ht K4 he hv hfs hr hwb)
  obtain ⟨E, hE⟩ : ∃ E, E = pushE fs.length s e := ⟨_, rfl⟩
  obtain ⟨D, hD⟩ : ∃ D, D = pushS fs.length (mt fs) clock s e := ⟨_, rfl⟩
  rw [← hE, ← hD] at HC1 ⊢
  unfold EntD.cells at HX HC1 ⊢
  clear H ht0 ht h he hv hfs hr hwb A eb h1 hfr hlt hX hqb K0 K4 D4 hE hD hTT
  go_enter Tryz.func73, Tryz.ntmps73
  go_upto_region 1 with fail
  rw [← HX.out]
  (try rw [hqb'])
  clear HX hqb'
  go_region_held3 (fun Z => Z.cell? ⟨rb, 0, none⟩ = some (.pointer (some ⟨wb, 0, none⟩)) ∧ Z.cell? ⟨qb, 0, none⟩ = some e.vr ∧ Z.cell? ⟨qb, 1, none⟩ = some (.int .i64 e.fam) ∧ Z.cell? ⟨qb, 2, none⟩ = some e.vq ∧ Z.cell? ⟨qb, 3, none⟩ = some (.int .i64 e.ts) ∧ Z.cell? ⟨qb, 4, none⟩ = some (.int .i64 e.seq) ∧ Z.cell? ⟨qb, 5, none⟩ = some (.int .i64 e.kind) ∧ Z.cell? ⟨qb, 6, none⟩ = some e.vv) (first | exact HCE.out _ _ _ _ K5 | exact z1) ((go_at_call 107; refine Calls.mono HC1.out ?_; rintro z X1 ⟨rfl, O1, s1, K5, d5⟩))
  rw [HTT.out] at K5
  have K6 := K5.unext
  obtain ⟨xs, a, c, cs, ty, Or, sb, rw1, hno, hsub, hof, hre⟩ := HH.out.out K6.tell
  have HO := Lib.hid (handOut_any sb)
  have HK : Hid (∀ X2, SBx X2 rb (.pointer (some ⟨wb, 0, none⟩)) (.slice none 0 0) cs ty → X1.grownBy X2 (some rb) → Gone W0 wb g rb N fv fs clock T hd X2 (.slice a xs.length c) xs Or s1 (vs ++ D.1)) := fun X2 sb2 gr2 => gone_of HH.out K6 rw1 hno hsub hof (hre X2 sb2 gr2) gr2
  have HD5 := Lib.hid d5
  obtain ⟨n, hn⟩ : ∃ n, n = xs.length := ⟨_, rfl⟩
  rw [← hn] at HO HK
  have HN := Lib.hid hn
  clear K5 K6 d5 z1 HCE HC1 sb rw1 hno hsub hof hre hn
  go_wp2_with fail
  refine Calls.mono HO.out ?_
  rintro z2 X2 ⟨rfl, sb2, gr2⟩
  have HG := Lib.hid (HK.out X2 sb2 gr2)
  clear sb2 gr2 HO HK
  go_wp2
  go_ret2
  exact ⟨xs, a, c, Or, s1, by rw [← HN.out]; rfl, by rw [← HN.out]; exact HG.out, HD5.out⟩

set_option maxRecDepth 100000 in
set_option maxHeartbeats 4000000 in
theorem send_any (H : Hands g rb N (.pointer (some ⟨wb, 0, none⟩)) T) (h : Wk W0 wb g rb fv fs clock (T hd) W O s vs) (hv : vs.length < 1353245080339) (hfs : ∀ f ∈ fs, 0 ≤ f.tl ∧ f.tl ≤ 1099511627776) (hr : s.rank ≤ vs.length) (hwb : s.waiting = true → s.begun = true) :
    Calls Tryz.prog 72 #[.pointer (some ⟨rb, 0, none⟩)] W fun r W' => ∃ xs a c Or, r = .returned (.slice a xs.length c) ∧ Gone W0 wb g rb N fv fs clock T hd W' (.slice a xs.length c) xs Or spZ (vs ++ (resolveS (mt fs) clock s.dat 3).1) := by
  have HC1 := Lib.hid (end_any (H.tl hd) h hv hfs hr hwb)
  have HH := Lib.hid H
  obtain ⟨xs, a, c, cs, ty, Or, sb, -⟩ := H.out h.tell
  have c0 := sb.c00
  obtain ⟨D, hD⟩ : ∃ D, D = (resolveS (mt fs) clock s.dat 3).1 := ⟨_, rfl⟩
  rw [← hD] at HC1 ⊢
  clear H h hv hfs hr hwb sb hD
  go_enter Tryz.func72, Tryz.ntmps72
  go_wp2_with fail
  refine Calls.mono HC1.out ?_
  rintro z X1 ⟨rfl, O1, K6⟩
  clear c0 HC1
  obtain ⟨xs, a, c, cs, ty, Or, sb, rw1, hno, hsub, hof, hre⟩ := HH.out.out K6.tell
  have HO := Lib.hid (handOut_any sb)
  have HK : Hid (∀ X2, SBx X2 rb (.pointer (some ⟨wb, 0, none⟩)) (.slice none 0 0) cs ty → X1.grownBy X2 (some rb) → Gone W0 wb g rb N fv fs clock T hd X2 (.slice a xs.length c) xs Or spZ (vs ++ D)) := fun X2 sb2 gr2 => gone_of HH.out K6 rw1 hno hsub hof (hre X2 sb2 gr2) gr2
  obtain ⟨n, hn⟩ : ∃ n, n = xs.length := ⟨_, rfl⟩
  rw [← hn] at HO HK
  have HN := Lib.hid hn
  clear K6 sb rw1 hno hsub hof hre hn
  go_wp2_with fail
  refine Calls.mono HO.out ?_
  rintro z2 X2 ⟨rfl, sb2, gr2⟩
  have HG := Lib.hid (HK.out X2 sb2 gr2)
  clear sb2 gr2 HO HK
  go_wp2
  go_ret
  exact ⟨xs, a, c, Or, by rw [← HN.out]; rfl, by rw [← HN.out]; exact HG.out⟩
end
end Go.Proofs.YthhkpkfpifllkaaGreat

namespace Go.Proofs.YthhkpkfpifllkaaGreat
open Go.RowKit
set_option linter.unusedVariables false

structure Rest (B wb g rb : Nat) (fv : Value) (fs : List FamD) (clock : Int) (T : World → (Nat → Prop) → List Vd → Prop) (W : World) (s : SpD) (vs : List Vd) : Prop where
  wk : Wk ⟨W, B, Lst s⟩ wb g rb fv fs clock T W (fun i => i = rb) s vs
  fam : ∃ a c, fv = .slice a fs.length c ∧ OwnF W B (.slice a fs.length c) fs.length fs
  far : ∀ k, fv.ownBlock = some k → k ≠ wb ∧ k ≠ rb ∧ ¬ Lst s k
  l8 : fs.length ≤ 8
def Its (wb rb : Nat) (fv : Value) (s : SpD) (i : Nat) : Prop := i = wb ∨ i = rb ∨ Lst s i ∨ fv.ownBlock = some i
section
variable {W0 : Base} {W W' : World} {B wb g rb N : Nat} {fv : Value} {fs : List FamD} {clock : Int} {hd : List En} {T : World → (Nat → Prop) → List Vd → Prop} {s s' : SpD} {vs us : List Vd} {e : EntD}
theorem fam_frame (hf : ∃ a c, fv = .slice a fs.length c ∧ OwnF W B (.slice a fs.length c) fs.length fs) (far : ∀ k, fv.ownBlock = some k → k ≠ wb ∧ k ≠ rb ∧ ¬ Lst s k) (l8 : fs.length ≤ 8) (Z : World) (hZ : Fr0 ⟨W, B, Lst s⟩ wb rb Z) : RdF Z fv fs := by
  obtain ⟨a, c, rfl, ho⟩ := hf
  refine OwnF.rd ⟨ho.1, row_same ho.2 (fun k hk => ?_)⟩ l8
  exact hZ.2 k (ho.2.lt k hk).2 (far k hk).1 (far k hk).2.1 (far k hk).2.2
theorem Rest.keep (ht : Teller g rb T) (h : Rest B wb g rb fv fs clock T W s vs) (hs : W.heap.size ≤ W'.heap.size) (hm : ∀ i, Its wb rb fv s i → W'.heap[i]? = W.heap[i]?) : Rest B wb g rb fv fs clock T W' s vs := by
  obtain ⟨a, c, e1, ho⟩ := h.fam
  have f2 : ∃ a c, fv = .slice a fs.length c ∧ OwnF W' B (.slice a fs.length c) fs.length fs := ⟨a, c, e1, ho.1, row_same ho.2 (fun k hk => hm k (.inr (.inr (.inr (by rw [e1]; exact hk)))))⟩
  exact ⟨h.wk.rebase ht (fun i hi => hi) hs (hm wb (.inl rfl)) (hm rb (.inr (.inl rfl))) (fun i hi => hm i (.inr (.inr (.inl hi)))) (fun Z hZ => fam_frame f2 h.far h.l8 Z hZ), f2, h.far, h.l8⟩
theorem Rest.lt (h : Rest B wb g rb fv fs clock T W s vs) (ht : Teller g rb T) (i : Nat) (hi : Its wb rb fv s i) : i < W.heap.size := by
  rcases hi with rfl | rfl | hi | hi
  · exact h.wk.box.lt
  · exact ht.lt h.wk.tell rfl
  · exact (h.wk.lastlt i hi).2
  · obtain ⟨a, c, e1, ho⟩ := h.fam
    rw [e1] at hi
    exact (ho.2.lt i hi).2
theorem Rest.later (ht : Teller g rb T) (h : Rest B wb g rb fv fs clock T W s vs) (b : Below W.heap.size W W') : Rest B wb g rb fv fs clock T W' s vs := h.keep ht b.size (fun i hi => b.block i (h.lt ht i hi))
structure Step (B wb g rb N : Nat) (fv : Value) (fs : List FamD) (clock : Int) (T : List En → World → (Nat → Prop) → List Vd → Prop) (hd : List En) (W W' : World) (s s' : SpD) (v : Value) (xs : List EntD) (Or : Nat → Prop) (vs : List Vd) : Prop where
  rest : Rest B wb g rb fv fs clock (T (hd ++ xs.map EntD.dat)) W' s' vs
  rw_ : Rw W' N v xs Or
  new : ∀ i, Or i → W.heap.size ≤ i ∧ i < W'.heap.size
  ap : ∀ i, Or i → ¬ Its wb rb fv s' i
  its : ∀ i, Its wb rb fv s' i → Its wb rb fv s i ∨ W.heap.size ≤ i
  os : W'.os = W.os
  tape : W'.tape = W.tape
  output : W'.output = W.output
  size : W.heap.size ≤ W'.heap.size
  block : ∀ i, i < W.heap.size → ¬ Its wb rb fv s i → W'.heap[i]? = W.heap[i]?
theorem Step.of {T : List En → World → (Nat → Prop) → List Vd → Prop} (H : Hands g rb N (.pointer (some ⟨wb, 0, none⟩)) T) {v : Value} {xs : List EntD} {Or : Nat → Prop} (h : Rest B wb g rb fv fs clock (T hd) W s vs) (k : Gone ⟨W, B, Lst s⟩ wb g rb N fv fs clock T hd W' v xs Or s' us) : Step B wb g rb N fv fs clock T hd W W' s s' v xs Or us := by
  obtain ⟨a, c, e1, ho⟩ := h.fam
  have hfl : ∀ i, fv.ownBlock = some i → i < W.heap.size := fun i hi => by rw [e1] at hi; exact (ho.2.lt i hi).2
  have f2 : ∃ a c, fv = .slice a fs.length c ∧ OwnF W' B (.slice a fs.length c) fs.length fs := ⟨a, c, e1, ho.1, row_same ho.2 (fun i hi => by
    have q := h.far i (by rw [e1]; exact hi)
    exact k.wk.fr.2 i (ho.2.lt i hi).2 q.1 q.2.1 q.2.2)⟩
  have far2 : ∀ i, fv.ownBlock = some i → i ≠ wb ∧ i ≠ rb ∧ ¬ Lst s' i := fun i hi => by
    refine ⟨(h.far i hi).1, (h.far i hi).2.1, fun l => ?_⟩
    rcases k.wk.lastL i l with z | z
    · exact (h.far i hi).2.2 z
    · have := hfl i hi
      exact absurd this (Nat.not_lt.2 z)
  refine ⟨⟨k.wk.rebase (H.tl _) (fun i hi => hi) (Nat.le_refl _) rfl rfl (fun _ _ => rfl) (fun Z hZ => fam_frame f2 far2 h.l8 Z hZ), f2, far2, h.l8⟩, k.rw_, k.new, fun i hi q => ?_, fun i hi => ?_, k.wk.os, k.wk.tape, k.wk.output, k.wk.fr.1, fun i hi hn => k.wk.fr.2 i hi (fun z => hn (.inl z)) (fun z => hn (.inr (.inl z))) (fun z => hn (.inr (.inr (.inl z))))⟩
  · rcases q with q | q | q | q
    · exact (k.ap i hi).2.1 q
    · exact (k.ap i hi).2.2 q
    · exact (k.ap i hi).1 q
    · exact absurd (hfl i q) (Nat.not_lt.2 (k.new i hi).1)
  · rcases hi with q | q | q | q
    · exact .inl (.inl q)
    · exact .inl (.inr (.inl q))
    · rcases k.wk.lastL i q with z | z
      · exact .inl (.inr (.inr (.inl z)))
      · exact .inr z
    · exact .inl (.inr (.inr (.inr q)))
theorem Step.box {T : List En → World → (Nat → Prop) → List Vd → Prop} {v : Value} {xs : List EntD} {Or : Nat → Prop} {q : Nat} (k : Step B wb g rb N fv fs clock T hd W W' s s' v xs Or us) (hq : EBox W q e) (hn : ¬ Its wb rb fv s q) : EBox W' q e := (k.block q (Array.getElem?_eq_some_iff.1 hq).1 hn).trans hq

set_option maxRecDepth 100000 in
set_option maxHeartbeats 4000000 in
theorem fPush_any {T : List En → World → (Nat → Prop) → List Vd → Prop} (H : Hands g rb N (.pointer (some ⟨wb, 0, none⟩)) T) (h : Rest B wb g rb fv fs clock (T hd) W s vs) (he : ∀ Z, Fr0 ⟨W, B, Lst s⟩ wb rb Z → EntD.Ok Z e) (hv : vs.length + 4 < 1353245080339) (hfs : ∀ f ∈ fs, 0 ≤ f.tl ∧ f.tl ≤ 1099511627776) (hr : s.rank ≤ vs.length) (hwb : s.waiting = true → s.begun = true) :
    Calls Tryz.prog 34 #[.pointer (some ⟨rb, 0, none⟩), .agg e.cells] W fun r W' => ∃ xs a c Or s', r = .returned (.tuple #[.slice a xs.length c, .int .i64 (pushE fs.length s e)]) ∧ Step B wb g rb N fv fs clock T hd W W' s s' (.slice a xs.length c) xs Or (vs ++ (pushS fs.length (mt fs) clock s e).1) ∧ s'.dat = (pushS fs.length (mt fs) clock s e).2 := by
  have A := (Below.refl W.heap.size W).alloc (Nat.le_refl _) (.cells e.cells 84)
  have eb := EBox.new W e
  have hlt := h.lt (H.tl hd)
  obtain ⟨qb, hqb⟩ : ∃ q, q = W.heap.size := ⟨_, rfl⟩
  have hqb' := hqb.symm
  have hqn : ¬ Its wb rb fv s qb := fun z => by have := hlt qb z; omega
  rw [← hqb] at eb
  obtain ⟨X, hX⟩ : ∃ X, X = W.alloc (.cells e.cells 84) := ⟨_, rfl⟩
  rw [← hX] at A eb
  have D4 : Below X.heap.size X X.drew := (Below.refl _ _).drew
  have A2 := A.trans (D4.mono A.size)
  have R2 := h.later (H.tl hd) A2
  have he2 : ∀ Z, Fr0 ⟨X.drew, B, Lst s⟩ wb rb Z → EntD.Ok Z e := fun Z hZ => he Z ⟨Nat.le_trans A2.size hZ.1, fun i hi h1 h2 h3 => (hZ.2 i (Nat.lt_of_lt_of_le hi A2.size) h1 h2 h3).trans (A2.block i hi)⟩
  have eb2 : EBox X.drew qb e := eb.later D4
  have HC1 : Hid (Calls Tryz.prog 73 #[.pointer (some ⟨rb, 0, none⟩), .agg e.cells] X.drew fun r W' => ∃ xs a c Or s', r = .returned (.tuple #[.slice a xs.length c, .int .i64 (pushE fs.length s e)]) ∧ (Step B wb g rb N fv fs clock T hd W W' s s' (.slice a xs.length c) xs Or (vs ++ (pushS fs.length (mt fs) clock s e).1) ∧ EBox W' qb e) ∧ s'.dat = (pushS fs.length (mt fs) clock s e).2) := by
    refine (spush_any H R2.wk he2 hv hfs hr hwb).mono ?_
    rintro r W' ⟨xs, a, c, Or, s', h1, h2, h3⟩
    have st := Step.of H R2 h2
    have sz : W.heap.size ≤ X.drew.heap.size := A2.size
    exact ⟨xs, a, c, Or, s', h1, ⟨⟨st.rest, st.rw_, fun i hi => ⟨Nat.le_trans sz (st.new i hi).1, (st.new i hi).2⟩, st.ap, fun i hi => (st.its i hi).imp id (Nat.le_trans sz), st.os.trans A2.os, st.tape.trans A2.tape, st.output.trans A2.output, Nat.le_trans sz st.size, fun i hi hn => (st.block i (Nat.lt_of_lt_of_le hi sz) hn).trans (A2.block i hi)⟩, st.box eb2 hqn⟩, h3⟩
  have z1 := EBox.cells7 eb2
  have HX := Lib.hid hX
  obtain ⟨E, hE⟩ : ∃ E, E = pushE fs.length s e := ⟨_, rfl⟩
  obtain ⟨D, hD⟩ : ∃ D, D = pushS fs.length (mt fs) clock s e := ⟨_, rfl⟩
  rw [← hE, ← hD] at HC1 ⊢
  unfold EntD.cells at HX HC1 ⊢
  clear H h he hv hfs hr hwb A eb hlt hX hqb hqn D4 A2 R2 he2 eb2 hE hD
  go_enter Tryz.func34, Tryz.ntmps34
  go_upto_region 1 with fail
  rw [← HX.out]
  (try rw [hqb'])
  clear HX hqb'
  go_region_held3 (fun Z => Z.cell? ⟨qb, 0, none⟩ = some e.vr ∧ Z.cell? ⟨qb, 1, none⟩ = some (.int .i64 e.fam) ∧ Z.cell? ⟨qb, 2, none⟩ = some e.vq ∧ Z.cell? ⟨qb, 3, none⟩ = some (.int .i64 e.ts) ∧ Z.cell? ⟨qb, 4, none⟩ = some (.int .i64 e.seq) ∧ Z.cell? ⟨qb, 5, none⟩ = some (.int .i64 e.kind) ∧ Z.cell? ⟨qb, 6, none⟩ = some e.vv) (first | exact EBox.cells7 k5.2 | exact z1) ((go_at_call 73; refine Calls.mono HC1.out ?_; rintro z X1 ⟨xs, a, c, Or, s1, rfl, k5, d5⟩))
  have HK := Lib.hid (And.intro k5.1 d5)
  clear k5 d5 z1 HC1
  go_wp2
  go_ret2
  exact ⟨xs, a, c, Or, s1, rfl, HK.out.1, HK.out.2⟩

set_option maxRecDepth 100000 in
set_option maxHeartbeats 4000000 in
theorem fEnd_any {T : List En → World → (Nat → Prop) → List Vd → Prop} (H : Hands g rb N (.pointer (some ⟨wb, 0, none⟩)) T) (h : Rest B wb g rb fv fs clock (T hd) W s vs) (hv : vs.length < 1353245080339) (hfs : ∀ f ∈ fs, 0 ≤ f.tl ∧ f.tl ≤ 1099511627776) (hr : s.rank ≤ vs.length) (hwb : s.waiting = true → s.begun = true) :
    Calls Tryz.prog 33 #[.pointer (some ⟨rb, 0, none⟩)] W fun r W' => ∃ xs a c Or, r = .returned (.slice a xs.length c) ∧ Step B wb g rb N fv fs clock T hd W W' s spZ (.slice a xs.length c) xs Or (vs ++ (resolveS (mt fs) clock s.dat 3).1) := by
  have HC1 : Hid (Calls Tryz.prog 72 #[.pointer (some ⟨rb, 0, none⟩)] W fun r W' => ∃ xs a c Or, r = .returned (.slice a xs.length c) ∧ Step B wb g rb N fv fs clock T hd W W' s spZ (.slice a xs.length c) xs Or (vs ++ (resolveS (mt fs) clock s.dat 3).1)) := by
    refine (send_any H h.wk hv hfs hr hwb).mono ?_
    rintro r W' ⟨xs, a, c, Or, h1, h2⟩
    exact ⟨xs, a, c, Or, h1, Step.of H h h2⟩
  clear H h hv hfs hr hwb
  go_enter Tryz.func33, Tryz.ntmps33
  go_wp2_with fail
  refine Calls.mono HC1.out ?_
  rintro z X1 ⟨xs, a, c, Or, rfl, k5⟩
  have HK := Lib.hid k5
  clear k5 HC1
  go_wp2
  go_ret
  exact ⟨xs, a, c, Or, rfl, HK.out⟩

set_option maxRecDepth 100000 in
set_option maxHeartbeats 4000000 in
theorem rPush_any {T : List En → World → (Nat → Prop) → List Vd → Prop} (H : Hands g rb N (.pointer (some ⟨wb, 0, none⟩)) T) (h : Rest B wb g rb fv fs clock (T hd) W s vs) (he : ∀ Z, Fr0 ⟨W, B, Lst s⟩ wb rb Z → EntD.Ok Z e) (hv : vs.length + 4 < 1353245080339) (hfs : ∀ f ∈ fs, 0 ≤ f.tl ∧ f.tl ≤ 1099511627776) (hr : s.rank ≤ vs.length) (hwb : s.waiting = true → s.begun = true) :
    Calls Tryz.prog 37 #[.pointer (some ⟨rb, 0, none⟩), .agg e.cells] W fun r W' => ∃ xs a c Or s', r = .returned (.tuple #[.slice a xs.length c, .int .i64 (pushE fs.length s e)]) ∧ Step B wb g rb N fv fs clock T hd W W' s s' (.slice a xs.length c) xs Or (vs ++ (pushS fs.length (mt fs) clock s e).1) ∧ s'.dat = (pushS fs.length (mt fs) clock s e).2 := by
  have A := (Below.refl W.heap.size W).alloc (Nat.le_refl _) (.cells e.cells 84)
  have eb := EBox.new W e
  have hlt := h.lt (H.tl hd)
  obtain ⟨qb, hqb⟩ : ∃ q, q = W.heap.size := ⟨_, rfl⟩
  have hqb' := hqb.symm
  have hqn : ¬ Its wb rb fv s qb := fun z => by have := hlt qb z; omega
  rw [← hqb] at eb
  obtain ⟨X, hX⟩ : ∃ X, X = W.alloc (.cells e.cells 84) := ⟨_, rfl⟩
  rw [← hX] at A eb
  have D4 : Below X.heap.size X X.drew := (Below.refl _ _).drew
  have A2 := A.trans (D4.mono A.size)
  have R2 := h.later (H.tl hd) A2
  have he2 : ∀ Z, Fr0 ⟨X.drew, B, Lst s⟩ wb rb Z → EntD.Ok Z e := fun Z hZ => he Z ⟨Nat.le_trans A2.size hZ.1, fun i hi h1 h2 h3 => (hZ.2 i (Nat.lt_of_lt_of_le hi A2.size) h1 h2 h3).trans (A2.block i hi)⟩
  have eb2 : EBox X.drew qb e := eb.later D4
  have HC1 : Hid (Calls Tryz.prog 73 #[.pointer (some ⟨rb, 0, none⟩), .agg e.cells] X.drew fun r W' => ∃ xs a c Or s', r = .returned (.tuple #[.slice a xs.length c, .int .i64 (pushE fs.length s e)]) ∧ (Step B wb g rb N fv fs clock T hd W W' s s' (.slice a xs.length c) xs Or (vs ++ (pushS fs.length (mt fs) clock s e).1) ∧ EBox W' qb e) ∧ s'.dat = (pushS fs.length (mt fs) clock s e).2) := by
    refine (spush_any H R2.wk he2 hv hfs hr hwb).mono ?_
    rintro r W' ⟨xs, a, c, Or, s', h1, h2, h3⟩
    have st := Step.of H R2 h2
    have sz : W.heap.size ≤ X.drew.heap.size := A2.size
    exact ⟨xs, a, c, Or, s', h1, ⟨⟨st.rest, st.rw_, fun i hi => ⟨Nat.le_trans sz (st.new i hi).1, (st.new i hi).2⟩, st.ap, fun i hi => (st.its i hi).imp id (Nat.le_trans sz), st.os.trans A2.os, st.tape.trans A2.tape, st.output.trans A2.output, Nat.le_trans sz st.size, fun i hi hn => (st.block i (Nat.lt_of_lt_of_le hi sz) hn).trans (A2.block i hi)⟩, st.box eb2 hqn⟩, h3⟩
  have z1 := EBox.cells7 eb2
  have HX := Lib.hid hX
  obtain ⟨E, hE⟩ : ∃ E, E = pushE fs.length s e := ⟨_, rfl⟩
  obtain ⟨D, hD⟩ : ∃ D, D = pushS fs.length (mt fs) clock s e := ⟨_, rfl⟩
  rw [← hE, ← hD] at HC1 ⊢
  unfold EntD.cells at HX HC1 ⊢
  clear H h he hv hfs hr hwb A eb hlt hX hqb hqn D4 A2 R2 he2 eb2 hE hD
  go_enter Tryz.func37, Tryz.ntmps37
  go_upto_region 1 with fail
  rw [← HX.out]
  (try rw [hqb'])
  clear HX hqb'
  go_region_held3 (fun Z => Z.cell? ⟨qb, 0, none⟩ = some e.vr ∧ Z.cell? ⟨qb, 1, none⟩ = some (.int .i64 e.fam) ∧ Z.cell? ⟨qb, 2, none⟩ = some e.vq ∧ Z.cell? ⟨qb, 3, none⟩ = some (.int .i64 e.ts) ∧ Z.cell? ⟨qb, 4, none⟩ = some (.int .i64 e.seq) ∧ Z.cell? ⟨qb, 5, none⟩ = some (.int .i64 e.kind) ∧ Z.cell? ⟨qb, 6, none⟩ = some e.vv) (first | exact EBox.cells7 k5.2 | exact z1) ((go_at_call 73; refine Calls.mono HC1.out ?_; rintro z X1 ⟨xs, a, c, Or, s1, rfl, k5, d5⟩))
  have HK := Lib.hid (And.intro k5.1 d5)
  clear k5 d5 z1 HC1
  go_wp2
  go_ret2
  exact ⟨xs, a, c, Or, s1, rfl, HK.out.1, HK.out.2⟩

set_option maxRecDepth 100000 in
set_option maxHeartbeats 4000000 in
theorem rEnd_any {T : List En → World → (Nat → Prop) → List Vd → Prop} (H : Hands g rb N (.pointer (some ⟨wb, 0, none⟩)) T) (h : Rest B wb g rb fv fs clock (T hd) W s vs) (hv : vs.length < 1353245080339) (hfs : ∀ f ∈ fs, 0 ≤ f.tl ∧ f.tl ≤ 1099511627776) (hr : s.rank ≤ vs.length) (hwb : s.waiting = true → s.begun = true) :
    Calls Tryz.prog 36 #[.pointer (some ⟨rb, 0, none⟩)] W fun r W' => ∃ xs a c Or, r = .returned (.slice a xs.length c) ∧ Step B wb g rb N fv fs clock T hd W W' s spZ (.slice a xs.length c) xs Or (vs ++ (resolveS (mt fs) clock s.dat 3).1) := by
  have HC1 : Hid (Calls Tryz.prog 72 #[.pointer (some ⟨rb, 0, none⟩)] W fun r W' => ∃ xs a c Or, r = .returned (.slice a xs.length c) ∧ Step B wb g rb N fv fs clock T hd W W' s spZ (.slice a xs.length c) xs Or (vs ++ (resolveS (mt fs) clock s.dat 3).1)) := by
    refine (send_any H h.wk hv hfs hr hwb).mono ?_
    rintro r W' ⟨xs, a, c, Or, h1, h2⟩
    exact ⟨xs, a, c, Or, h1, Step.of H h h2⟩
  clear H h hv hfs hr hwb
  go_enter Tryz.func36, Tryz.ntmps36
  go_wp2_with fail
  refine Calls.mono HC1.out ?_
  rintro z X1 ⟨xs, a, c, Or, rfl, k5⟩
  have HK := Lib.hid k5
  clear k5 HC1
  go_wp2
  go_ret
  exact ⟨xs, a, c, Or, rfl, HK.out⟩
end
end Go.Proofs.YthhkpkfpifllkaaGreat
