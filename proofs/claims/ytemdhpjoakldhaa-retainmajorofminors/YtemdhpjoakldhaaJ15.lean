import Derived.Test.YtemdhpjoakldhaaJ14
import Derived.Maps.OwnSet
namespace Go.Proofs.Ytemdhpjoakldhaa
open Go.RowKit
set_option linter.unusedVariables false

/-- What NewReader answers. -/
def readerS (C : Nat) (clock low nv : Int) : Int := if boundsS C [clock, low] ≠ 0 then boundsS C [clock, low] else if nv < 1 ∨ 16 < nv then 32 else 0
set_option maxRecDepth 100000 in
set_option maxHeartbeats 4000000 in
theorem newReader_any {W : World} {a : Option Addr} {c : Nat} {fs : List FamD} (hr : RdF W (.slice a fs.length c) fs) (hn : a = none → c = 0) (C : Nat) (hC : (C = 0 ↔ SchemaOk fs) ∧ (C = 0 ∨ C = 28)) (clock low nv : Int) :
    Calls Try.prog 37 #[.agg #[.slice a fs.length c], .int .i64 clock, .int .i64 low, .int .i64 nv] W fun r W' => Below W.heap.size W W' ∧ (readerS C clock low nv ≠ 0 → r = .returned (.tuple #[.pointer none, .int .i64 (readerS C clock low nv)])) ∧ (readerS C clock low nv = 0 → ∃ fb wb a' c', r = .returned (.tuple #[.pointer (some ⟨fb, 0, none⟩), .int .i64 0]) ∧ W.heap.size ≤ fb ∧ W.heap.size ≤ wb ∧ fb ≠ wb ∧ SBx W' fb (.pointer (some ⟨wb, 0, none⟩)) (.slice none 0 0) (rBc low nv 0) 82 ∧ WBx W' wb (.slice a' fs.length c') clock (.func (.func 51) #[.pointer (some ⟨fb, 0, none⟩)] #[]) spZ ∧ OwnF W' W.heap.size (.slice a' fs.length c') fs.length fs) := by
  have A1 := (Below.refl W.heap.size W).alloc (Nat.le_refl _) (.cells #[.slice a fs.length c] 24)
  have A2 := A1.alloc A1.size (.cells #[.int .i64 clock, .int .i64 low] 3)
  obtain ⟨k, hk⟩ : ∃ k, k = fs.length := ⟨_, rfl⟩
  have HR : Hid (∀ Z, Below W.heap.size W Z → RdF Z (.slice a k c) fs) := fun Z b => by rw [hk]; exact hr.later b
  obtain ⟨R, hR⟩ : ∃ R, R = boundsS C [clock, low] := ⟨_, rfl⟩
  have HRR := Lib.hid hR
  obtain ⟨Q, hQ⟩ : ∃ Q, Q = readerS C clock low nv := ⟨_, rfl⟩
  have HQ : Hid (Q = if R ≠ 0 then R else if nv < 1 ∨ 16 < nv then 32 else 0) := by unfold Hid; rw [hQ, hR]; rfl
  have HN := Lib.hid hn
  have HC := Lib.hid hC
  have HK := Lib.hid hk
  rw [← hk] at A1 A2 ⊢
  rw [← hQ]
  have HA2 := Lib.hid A2
  clear hr hn hC A1 A2 hR hk hQ
  go_enter Try.func37, Try.ntmps37
  go_wp2_with fail
  have HI : Hid (RdI ((W.alloc (.cells #[.slice a k c] 24)).alloc (.cells #[.int .i64 clock, .int .i64 low] 3)) (.slice (some ⟨W.heap.size + 1, 0, none⟩) 2 2) [clock, low]) := by
    refine ⟨W.heap.size + 1, 0, 2, rfl, by simp, fun i t hi => ?_⟩
    have hw : ((W.alloc (.cells #[.slice a k c] 24)).alloc (.cells #[.int .i64 clock, .int .i64 low] 3)).heap[W.heap.size + 1]? = some (.cells #[.int .i64 clock, .int .i64 low] 3 (0, 0)) := by
      have := heap_new (W.alloc (.cells #[.slice a k c] 24)) (.cells #[.int .i64 clock, .int .i64 low] 3)
      simpa using this
    match i, hi with
    | 0, hi => simp only [List.getElem?_cons_zero, Option.some.injEq] at hi; subst hi; exact cell_of hw rfl
    | 1, hi => simp only [List.getElem?_cons_succ, List.getElem?_cons_zero, Option.some.injEq] at hi; subst hi; exact cell_of hw rfl
    | i + 2, hi => simp at hi
  refine Calls.mono (checkBounds_any (HR.out _ HA2.out) C HC.out HI.out) ?_
  rintro z W1 ⟨rfl, b1⟩
  rw [← HRR.out]
  have B1 := HA2.out.trans (b1.mono HA2.out.size)
  have s0 : W1.cell? ⟨W.heap.size, 0, none⟩ = some (.slice a k c) := by
    rw [b1.cell (p := ⟨W.heap.size, 0, none⟩) (by simp; omega)]
    simp
  have HB1 := Lib.hid B1
  have HCz : Hid (R = 0 → fs.length ≤ 8) := fun z => ((HC.out.1.1 (bounds_ok (HRR.out.symm.trans z)).1).1).2
  clear b1 B1 HI HA2 HRR
  by_cases h0 : R = 0
  · have b0 : (R != 0) = false := by simp [h0]
    have H0 := Lib.hid h0
    clear h0
    by_cases h1 : nv < 1
    · have H1 := Lib.hid h1
      have q : Hid (Q = 32) := by unfold Hid; rw [HQ.out, if_neg (by simpa using H0.out), if_pos (.inl H1.out)]
      go_wp2
      go_ret2
      exact ⟨HB1.out, fun _ => by rw [q.out]; rfl, fun z => by have := q.out; omega⟩
    · have h1d : decide (nv < 1) = false := decide_eq_false h1
      have H1 : Hid (1 ≤ nv) := Int.not_lt.1 h1
      clear h1
      by_cases h2 : 16 < nv
      · have H2 := Lib.hid h2
        have q : Hid (Q = 32) := by unfold Hid; rw [HQ.out, if_neg (by simpa using H0.out), if_pos (.inr H2.out)]
        go_wp2
        go_ret2
        exact ⟨HB1.out, fun _ => by rw [q.out]; rfl, fun z => by have := q.out; omega⟩
      · have h2d : decide (16 < nv) = false := decide_eq_false h2
        have H2 : Hid (nv ≤ 16) := Int.not_lt.1 h2
        have q : Hid (Q = 0) := by unfold Hid; rw [HQ.out, if_neg (by simpa using H0.out), if_neg (by have := H1.out; have := H2.out; omega)]
        clear h2
        have A3 := (Below.refl W1.heap.size W1).alloc (Nat.le_refl _) (.cells #[.pointer none, .slice none 0 0, .int .i64 low, .int .i64 nv, .int .i64 0] 82)
        have sb : SBx (W1.alloc (.cells #[.pointer none, .slice none 0 0, .int .i64 low, .int .i64 nv, .int .i64 0] 82)) W1.heap.size (.pointer none) (.slice none 0 0) (rBc low nv 0) 82 := heap_new W1 _
        have s1 : (W1.alloc (.cells #[.pointer none, .slice none 0 0, .int .i64 low, .int .i64 nv, .int .i64 0] 82)).cell? ⟨W.heap.size, 0, none⟩ = some (.slice a k c) := by rw [A3.cell (p := ⟨W.heap.size, 0, none⟩) (World.block_lt_of_cell? W1 _ s0)]; exact s0
        have HA3 := Lib.hid A3
        have HSB := Lib.hid sb
        clear A3 sb s0
        go_wp2_with fail
        have hB3 := HB1.out.trans (HA3.out.mono HB1.out.size)
        have hnw := newWalk_any (by have := HR.out _ hB3; rw [HK.out] at this; exact this) HN.out (HCz.out H0.out) clock (.func (.func 51) #[.pointer (some ⟨W1.heap.size, 0, none⟩)] #[]) ⟨_, _, _, rfl⟩
        rw [← HK.out] at hnw
        refine Calls.mono hnw ?_
        rintro z W2 ⟨wb, a', c', rfl, hwb, hwx, hof, hb2⟩
        clear hnw
        have szX : (W1.alloc (.cells #[.pointer none, .slice none 0 0, .int .i64 low, .int .i64 nv, .int .i64 0] 82)).heap.size = W1.heap.size + 1 := by simp
        have sb2 := HSB.out.keep (hb2.block W1.heap.size HSB.out.lt)
        rw [szX] at hwb
        have hof2 : OwnF W2 (W1.heap.size + 1) (.slice a' k c') k fs := by rw [← szX]; exact hof
        have HB2 := Lib.hid (hB3.trans (hb2.mono hB3.size))
        have HW := Lib.hid hwx
        have HOf := Lib.hid hof2
        have HSB2 := Lib.hid sb2
        have HWB := Lib.hid hwb
        have p0 := sb2.c00
        have f0 := sb2.fz 0
        clear hb2 hwx hof hof2 sb2 hwb szX hB3 s1 HA3 HSB
        go_wp2
        go_ret2
        have hne : W1.heap.size ≠ wb := by have := HWB.out; omega
        have hG := grown1 W2 W1.heap.size 0 (.pointer (some ⟨wb, 0, none⟩))
        have b2 := HB2.out
        have l1 := HB1.out.size
        refine ⟨⟨b2.os, b2.tape, b2.output, Nat.le_trans b2.size hG.size, fun i hi => (hG.block i (Nat.lt_of_lt_of_le hi b2.size) (fun z => by cases z; omega)).trans (b2.block i hi)⟩, fun z => absurd q.out z, fun _ => ⟨W1.heap.size, wb, a', c', rfl, l1, by have := HWB.out; omega, hne, HSB2.out.set0 _, HW.out.keep (hG.block wb HW.out.lt (fun z => by cases z; exact hne rfl)), ?_⟩⟩
        obtain ⟨o1, o2⟩ := HOf.out
        exact ⟨o1, row_low (row_same o2 (fun g hg => hG.block g (o2.lt g hg).2 (fun z => by cases z; have := (o2.lt _ hg).1; omega))) (by omega)⟩
  · have b0 : (R != 0) = true := by simp [h0]
    have q : Hid (Q = R ∧ R ≠ 0) := ⟨by rw [HQ.out, if_pos h0], h0⟩
    clear h0
    go_wp2
    go_ret2
    exact ⟨HB1.out, fun _ => by rw [q.out.1]; rfl, fun z => absurd (q.out.1.symm.trans z) q.out.2⟩
end Go.Proofs.Ytemdhpjoakldhaa

namespace Go.Proofs.Ytemdhpjoakldhaa
open Go.RowKit
set_option linter.unusedVariables false

/-- A walk that has seen nothing. -/
theorem Wk.start {W : World} {wb g rb B : Nat} {a : Option Addr} {c : Nat} {fs : List FamD} {clock : Int} {T : World → (Nat → Prop) → List Vd → Prop} (hb : WBx W wb (.slice a fs.length c) clock (.func (.func g) #[.pointer (some ⟨rb, 0, none⟩)] #[]) spZ) (hf : OwnF W B (.slice a fs.length c) fs.length fs) (hl : fs.length ≤ 8) (t : T W (fun i => i = rb) []) (hne : wb ≠ rb) (hr : ∃ cs ty, W.heap[rb]? = some (.cells cs ty (0, 0)) ∧ ty ≠ 47) :
    Wk W wb g rb (.slice a fs.length c) fs clock T W (fun i => i = rb) spZ [] := by
  have far : ∀ k, (Value.slice a fs.length c).ownBlock = some k → k ≠ wb ∧ k ≠ rb := fun k hk => by
    rcases hf.2.2 with ⟨h1, -⟩ | ⟨g, cap, cur, h1, -, h3, -⟩
    · rw [h1] at hk; cases hk
    · rw [h1] at hk
      cases hk
      refine ⟨fun z => ?_, fun z => ?_⟩
      · have := hb
        unfold WBx at this
        rw [← z, h3] at this
        simp at this
      · obtain ⟨cs, ty, k1, k2⟩ := hr
        rw [← z, h3] at k1
        simp at k1
        exact k2 k1.2.symm
  refine ⟨hb, fun Z hZ => ?_, t, ⟨⟨rfl, World.ownsRow_nil _ _ _ _⟩, ⟨rfl, World.ownsRow_nil _ _ _ _⟩, ⟨rfl, World.ownsRow_nil _ _ _ _⟩⟩, ⟨(fun k hk => by cases hk), (fun k hk => by cases hk)⟩, (fun k hk => by rcases hk with hk | hk | hk <;> cases hk), fun i hi => .inl hi, ⟨hb.lt, hne⟩, by simp [spZ], by simp [spZ], by simp [spZ, Bys], by simp [spZ], (fun z => by cases z), rfl, rfl, rfl, Nat.le_refl _, fun i _ _ _ => rfl⟩
  exact OwnF.rd ⟨hf.1, row_same hf.2 (fun g hg => hZ.2 g (hf.2.lt g hg).2 (far g hg).1 (far g hg).2)⟩ hl
/-- A filter that has seen nothing. -/
theorem TF.start {W : World} {fb N : Nat} {c0 : Value} {major : Bool} {low : Int} (hb : SBx W fb c0 (.slice none 0 0) (fBc major low ⟨0, 0, 0, 0, 0⟩) 74) (hN : N ≤ W.heap.size) : TF fb N c0 major low W (fun i => i = fb) [] :=
  ⟨⟨[], .slice none 0 0, fun _ => False, hb, Rw.nil _ _ _, fun z => z, fun _ z => z.elim, rfl⟩, by simp [cntS, Ct.Ok], rfl, fun i hi => by rw [hi]; exact hb.lt, hN⟩
theorem TR.start {W : World} {fb N : Nat} {cp : Option Addr} {tm n : Int} (hb : SBx W fb (.pointer cp) (.slice none 0 0) (rBc tm n 0) 82) (hN : N ≤ W.heap.size) : TR fb N cp tm n W (fun i => i = fb) [] :=
  ⟨⟨[], .slice none 0 0, fun _ => False, hb, Rw.nil _ _ _, fun z => z, fun _ z => z.elim, rfl⟩, by simp [showS], rfl, fun i hi => by rw [hi]; exact hb.lt, hN⟩
theorem TP.start {W : World} {pb : Nat} (hb : PBx W pb 0) : TP pb W (fun i => i = pb) [] := ⟨hb, fun _ => Iff.rfl⟩
/-- What a walk says of an entry. -/
def check3S (k : Nat) (e : EntD) : Int := if checkS e ≠ 0 then (checkS e : Int) else if (k : Int) ≤ e.fam then 21 else 0

set_option maxRecDepth 100000 in
set_option maxHeartbeats 4000000 in
theorem check3_any {W : World} {wb k c : Nat} {a : Option Addr} {clock : Int} {tv : Value} {s : SpD} {e : EntD} (hb : WBx W wb (.slice a k c) clock tv s) (hok : EntD.Ok W e) :
    Calls Try.prog 54 #[.pointer (some ⟨wb, 0, none⟩), .agg e.cells] W fun r W' => r = .returned (.int .i64 (check3S k e)) ∧ Below W.heap.size W W' := by
  have A := (Below.refl W.heap.size W).alloc (Nat.le_refl _) (.cells e.cells 38)
  have eb := EBox.new W e
  obtain ⟨X, hX⟩ : ∃ X, X = W.alloc (.cells e.cells 38) := ⟨_, rfl⟩
  rw [← hX] at A eb
  have HC := Lib.hid (check_any (hok.later A))
  have HEb := Lib.hid eb
  have HB := Lib.hid (hb.later A)
  have HA := Lib.hid A
  have HX := Lib.hid hX
  obtain ⟨C, hC⟩ : ∃ C, C = checkS e := ⟨_, rfl⟩
  rw [← hC] at HC
  obtain ⟨R, hR⟩ : ∃ R, R = check3S k e := ⟨_, rfl⟩
  have HR : Hid (R = if C ≠ 0 then (C : Int) else if (k : Int) ≤ e.fam then 21 else 0) := by unfold Hid; rw [hR, hC]; rfl
  rw [← hR]
  have xs := And.intro (EBox.vr eb) (And.intro (EBox.fam eb) (And.intro (EBox.vq eb) (And.intro (EBox.ts eb) (And.intro (EBox.seq eb) (And.intro (EBox.kind eb) (EBox.vv eb))))))
  rw [hX] at xs
  unfold EntD.cells at HX HC xs ⊢
  clear hb hok A eb hX hC hR
  obtain ⟨x0, x1, x2, x3, x4, x5, x6⟩ := xs
  go_enter Try.func54, Try.ntmps54
  go_wp2_with fail
  rw [← HX.out]
  refine Calls.mono HC.out ?_
  rintro z W1 ⟨rfl, b1⟩
  have HB1 := Lib.hid (HA.out.trans (b1.mono HA.out.size))
  have y1 : W1.cell? ⟨W.heap.size, 1, none⟩ = some (.int .i64 e.fam) := EBox.fam (HEb.out.later b1)
  have z0 : W1.cell? ⟨wb, 0, none⟩ = some (.slice a k c) := (HB.out.later b1).at 0
  clear b1 x0 x1 x2 x3 x4 x5 x6 HC HX HEb HB HA
  by_cases h0 : C = 0
  · have HR2 : Hid (R = if (k : Int) ≤ e.fam then 21 else 0) := by unfold Hid; rw [HR.out, if_neg (by simpa using h0)]
    subst h0
    clear HR
    by_cases h1 : (k : Int) ≤ e.fam
    · have q : Hid (R = 21) := by unfold Hid; rw [HR2.out, if_pos h1]
      go_upto_region 4 with fail
      go_region
      go_wp2
      go_ret
      exact ⟨by rw [q.out]; rfl, HB1.out.drew⟩
    · have q : Hid (R = 0) := by unfold Hid; rw [HR2.out, if_neg h1]
      have h1d : decide ((k : Int) ≤ e.fam) = false := decide_eq_false h1
      go_upto_region 4 with fail
      go_region
      go_wp2
      go_ret
      exact ⟨by rw [q.out]; rfl, HB1.out.drew⟩
  · have q : Hid (R = (C : Int)) := by unfold Hid; rw [HR.out, if_pos h0]
    have b0 : ((C : Int) != 0) = true := by simp; omega
    clear HR h0
    go_wp2
    go_ret
    exact ⟨by rw [q.out]; rfl, HB1.out⟩
theorem fit_of_check {k : Nat} {e : EntD} (h : check3S k e = 0) : Fit k e.dat := by
  unfold check3S at h
  by_cases hc : checkS e = 0
  · rw [if_neg (by simpa using hc)] at h
    by_cases hk : (k : Int) ≤ e.fam
    · rw [if_pos hk] at h; cases h
    · unfold checkS at hc
      repeat' split at hc
      all_goals first | (exfalso; omega) | skip
      refine ⟨?_, ?_, ?_, ?_, ?_, ?_, ?_⟩ <;> simp only [EntD.dat] <;> omega
  · rw [if_pos hc] at h
    omega
end Go.Proofs.Ytemdhpjoakldhaa

namespace Go.Proofs.Ytemdhpjoakldhaa
open Go.RowKit Go.Maps
set_option linter.unusedVariables false

/-- One entry more, if it is not there: the same Seq is the same entry. -/
def addO (xs : List EntD) (e : EntD) : Option (List EntD) :=
  match xs.find? (fun x => x.seq == e.seq) with
  | none => some (xs ++ [e])
  | some x => if sameS x e then some xs else none
/-- What once hands out; none: twice the same Seq, and not the same. -/
def onceS (l : List EntD) : Option (List EntD) := l.foldl (fun o e => o.bind fun xs => addO xs e) (some [])
theorem onceS_snoc (l : List EntD) (e : EntD) : onceS (l ++ [e]) = (onceS l).bind fun xs => addO xs e := by
  unfold onceS
  rw [List.foldl_append]
  rfl
theorem onceS_none (l r : List EntD) (h : onceS l = none) : onceS (l ++ r) = none := by
  unfold onceS at *
  rw [List.foldl_append, h]
  induction r with
  | nil => rfl
  | cons x r ih => exact ih
/-- What the map holds: of each Seq its place. -/
structure MapQ (D : DataW Unit) (xs : List EntD) : Prop where
  map : IsMap D
  has : ∀ n : Int, Maps.has D (.int .i64 n) = xs.any fun x => x.seq == n
  at_ : ∀ (i : Nat) x, xs[i]? = some x → ∀ z, D.atKey (.int .i64 x.seq) z = .lit (.int .i64 (i : Int))
  two : xs.Pairwise fun x y => x.seq ≠ y.seq
theorem isKey_int (n : Int) : WideAt.IsKeyLit (.int .i64 n) := trivial
theorem MapQ.nil : MapQ (.map []) [] := ⟨⟨[], rfl⟩, fun n => rfl, fun i x h => by simp at h, List.Pairwise.nil⟩
theorem MapQ.put {D : DataW Unit} {xs : List EntD} (h : MapQ D xs) {e : EntD} (hn : (xs.any fun x => x.seq == e.seq) = false) : MapQ (D.put (.int .i64 e.seq) (.lit (.int .i64 (xs.length : Int)))) (xs ++ [e]) := by
  have hne : ∀ x ∈ xs, x.seq ≠ e.seq := fun x hx z => by
    have := List.any_eq_false.1 hn x hx
    simp [z] at this
  refine ⟨?_, fun n => ?_, fun i x hi z => ?_, ?_⟩
  · obtain ⟨es, rfl⟩ := h.map
    exact ⟨_, rfl⟩
  · rw [List.any_append]
    by_cases q : n = e.seq
    · subst q
      rw [has_put_same h.map (isKey_int _)]
      simp
    · rw [has_put_other (by simpa using q), h.has]
      have : (e.seq == n) = false := by simpa using fun z => q z.symm
      simp [this]
  · by_cases q : i < xs.length
    · rw [List.getElem?_append_left q] at hi
      have := hne x (List.mem_of_getElem? hi)
      rw [atKey_put_other (by simpa using this)]
      exact h.at_ i x hi z
    · rw [List.getElem?_append_right (by omega)] at hi
      have hi0 : i - xs.length = 0 := by
        by_cases k : i - xs.length = 0
        · exact k
        · rw [List.getElem?_eq_none (by simp; omega)] at hi; cases hi
      rw [hi0] at hi
      simp only [List.getElem?_cons_zero, Option.some.injEq] at hi
      subst hi
      rw [atKey_put_same h.map (isKey_int _)]
      have : i = xs.length := by omega
      rw [this]
  · rw [List.pairwise_append]
    refine ⟨h.two, by simp, fun a ha b hb => ?_⟩
    simp only [List.mem_cons, List.not_mem_nil, or_false] at hb
    rw [hb]
    exact hne a ha
/-- Where a Seq is found. -/
theorem MapQ.found {D : DataW Unit} {xs : List EntD} (h : MapQ D xs) {n : Int} (hn : (xs.any fun x => x.seq == n) = true) : ∃ (i : Nat) (x : EntD), xs[i]? = some x ∧ x.seq = n ∧ xs.find? (fun x => x.seq == n) = some x ∧ ∀ z, D.atKey (.int .i64 n) z = .lit (.int .i64 (i : Int)) := by
  cases hf : xs.find? (fun x => x.seq == n) with
  | none =>
    rw [List.find?_eq_none] at hf
    obtain ⟨x, hx, hs⟩ := List.any_eq_true.1 hn
    exact absurd hs (hf x hx)
  | some x =>
    have hs : x.seq = n := by simpa using List.find?_some hf
    obtain ⟨i, hi⟩ := List.getElem?_of_mem (List.mem_of_find?_eq_some hf)
    exact ⟨i, x, hi, hs, rfl, fun z => by rw [← hs]; exact h.at_ i x hi z⟩
theorem addO_new {xs : List EntD} {e : EntD} (hn : (xs.any fun x => x.seq == e.seq) = false) : addO xs e = some (xs ++ [e]) := by
  have : xs.find? (fun x => x.seq == e.seq) = none := by
    rw [List.find?_eq_none]
    exact fun x hx => by simpa using List.any_eq_false.1 hn x hx
  unfold addO
  rw [this]
theorem addO_old {xs : List EntD} {e x : EntD} (hf : xs.find? (fun x => x.seq == e.seq) = some x) : addO xs e = if sameS x e then some xs else none := by
  unfold addO
  rw [hf]
/-- A list of entries that is handed in: each lies somewhere. -/
structure RdL3 (w : World) (a : Option Addr) (cap : Nat) (xs : List EntD) : Prop where
  cap : xs.length ≤ cap ∧ cap ≤ maxLen
  at_ : xs = [] ∨ ∃ b off, a = some ⟨b, off, none⟩ ∧ ∀ (i : Nat) x, xs[i]? = some x → ∀ (j : Nat) u, x.cells.toList[j]? = some u → w.cell? ⟨b, off + i * 7 + j, none⟩ = some u
  ok : ∀ x ∈ xs, EntD.Ok w x
theorem RdL3.later {w w' : World} {a : Option Addr} {cap : Nat} {xs : List EntD} (h : RdL3 w a cap xs) (hb : Below w.heap.size w w') : RdL3 w' a cap xs := by
  refine ⟨h.cap, ?_, fun x hx => (h.ok x hx).later hb⟩
  rcases h.at_ with h1 | ⟨b, off, rfl, hc⟩
  · exact .inl h1
  · exact .inr ⟨b, off, rfl, fun i x hi j u hj => by rw [hb.cell (p := ⟨b, off + i * 7 + j, none⟩) (World.block_lt_of_cell? w _ (hc i x hi j u hj))]; exact hc i x hi j u hj⟩
end Go.Proofs.Ytemdhpjoakldhaa
