import Derived.Test.YthhkpkfpifllkaaGreatK10
namespace Go.Proofs.YthhkpkfpifllkaaGreat
open Go.RowKit
set_option linter.unusedVariables false

section
variable {fs : List (Int × Int)} {clock : Int}
def whyV (major : Bool) (low : Int) (v : Vd) : Int := if staysS major low v then 0 else if v.fate = 1 then 1 else if v.fate = 2 then 2 else if v.fate = 3 then 3 else if v.fate = 4 then 4 else 5
theorem why_sv {m : List En} {major : Bool} {low : Int} {e : En} (hm : e ∈ m) : whyV major low (sv fs clock m e) = fateN fs clock major low m e := by
  unfold fateN
  by_cases k : 4 ≤ e.kind
  · rw [if_pos k, sv_mark k]
    cases sh : shadow m e with
    | true => simp [whyV, staysS]
    | false =>
      cases major with
      | false => simp [whyV, staysS]
      | true =>
        by_cases z : e.ts ≤ low
        · have : ¬ low < e.ts := by omega
          simp [whyV, staysS, z, this]
        · have : low < e.ts := by omega
          simp [whyV, staysS, z, this]
  · rw [if_neg k]
    unfold sv
    rw [if_neg k]
    cases d : decidesS m e with
    | false => simp [whyV, staysS]
    | true =>
      rw [if_pos rfl, if_neg (by decide)]
      have pk := kd_put hm (by omega : e.kind ≤ 3)
      unfold decideS
      by_cases t : e.ts ≤ maskOf m e
      · rw [if_pos t]
        simp [whyV, staysS, t]
      · rw [if_neg t]
        by_cases x : expS fs clock e = true
        · have x2 : 0 < (famAt fs e.fam).2 ∧ e.ts + (famAt fs e.fam).2 ≤ clock := by unfold expS at x; simpa using x
          rw [if_pos x]
          simp [whyV, staysS, t, x2]
        · have x2 : ¬ (0 < (famAt fs e.fam).2 ∧ e.ts + (famAt fs e.fam).2 ≤ clock) := by unfold expS at x; simpa using x
          rw [if_neg x]
          have g1 : ∀ α (a b : α), (if ({ e with kind := kd m e } : En).ts ≤ ({ Sp.zero with mask := maskOf m e, rank := above fs clock m e } : Sp).mask then a else b) = b := fun α a b => if_neg t
          rw [g1]
          have g2 : ∀ α (a b : α), (if 0 < (famAt fs ({ e with kind := kd m e } : En).fam).2 ∧ ({ e with kind := kd m e } : En).ts + (famAt fs ({ e with kind := kd m e } : En).fam).2 ≤ clock then a else b) = b := fun α a b => if_neg x2
          rw [g2]
          cases p : hasPut m e with
          | false =>
            have kd3 : kd m e = 3 := by
              by_cases z : kd m e = 3
              · exact z
              · have := pk.1 z; rw [p] at this; cases this
            rw [if_pos kd3, if_pos rfl]
            cases major <;> simp [whyV, staysS]
          | true =>
            have kd3 : kd m e ≠ 3 := pk.2 p
            rw [if_neg kd3, if_neg (by decide : ¬ (true = false))]
            by_cases r : (famAt fs e.fam).1 < above fs clock m e + 1
            · simp [whyV, staysS, r]
            · simp [whyV, staysS, r]
def refCt (fs : List (Int × Int)) (clock : Int) (major : Bool) (low : Int) (n : Nat) (m : List En) : Ct :=
  ⟨((n : Int) - m.length) + ((m.filter fun e => decide (fateN fs clock major low m e = 1)).length : Nat), ((m.filter fun e => decide (fateN fs clock major low m e = 2)).length : Nat), ((m.filter fun e => decide (fateN fs clock major low m e = 3)).length : Nat), ((m.filter fun e => decide (fateN fs clock major low m e = 4)).length : Nat), ((m.filter fun e => decide (fateN fs clock major low m e = 5)).length : Nat)⟩
theorem why_is (major : Bool) (low : Int) (v : Vd) : (v.fate = 1 ↔ whyV major low v = 1) ∧ (v.fate = 2 ↔ whyV major low v = 2) ∧ (v.fate = 3 ↔ whyV major low v = 3) ∧ (v.fate = 4 ↔ whyV major low v = 4) ∧ ((!staysS major low v && !decide (v.fate = 1) && !decide (v.fate = 2) && !decide (v.fate = 3) && !decide (v.fate = 4)) = true ↔ whyV major low v = 5) := by
  have hs : staysS major low v = true → v.fate ≠ 1 ∧ v.fate ≠ 2 ∧ v.fate ≠ 3 ∧ v.fate ≠ 4 := fun h => by
    unfold staysS at h
    refine ⟨fun z => ?_, fun z => ?_, fun z => ?_, fun z => ?_⟩ <;> simp [z] at h
  unfold whyV
  cases h : staysS major low v with
  | true =>
    obtain ⟨h1, h2, h3, h4⟩ := hs h
    simp [h1, h2, h3, h4]
  | false =>
    by_cases f1 : v.fate = 1
    · simp [f1]
    · by_cases f2 : v.fate = 2
      · simp [f2]
      · by_cases f3 : v.fate = 3
        · simp [f3]
        · by_cases f4 : v.fate = 4
          · simp [f4]
          · simp [f1, f2, f3, f4]
theorem filter_kept_len (us : List Vd) (p : Vd → Bool) (hp : ∀ v, v.fate = 1 → p v = false) : (us.filter p).length = ((us.filter kept).filter p).length := by
  rw [List.filter_filter]
  congr 1
  refine List.filter_congr fun v _ => ?_
  unfold kept
  by_cases h : v.fate = 1
  · simp [h, hp v h]
  · simp [h]
theorem one_len (us : List Vd) : (us.filter fun v => decide (v.fate = 1)).length + (us.filter kept).length = us.length := by
  induction us with
  | nil => rfl
  | cons v us ih =>
    by_cases h : v.fate = 1
    · rw [List.filter_cons_of_pos (by simpa using h), List.filter_cons_of_neg (by simp [kept, h])]
      simp only [List.length_cons]; omega
    · rw [List.filter_cons_of_neg (by simpa using h), List.filter_cons_of_pos (by simp [kept, h])]
      simp only [List.length_cons]; omega
theorem map_filter_len (m : List En) (f : En → Vd) (p : Vd → Bool) (q : En → Bool) (h : ∀ e ∈ m, p (f e) = q e) : ((m.map f).filter p).length = (m.filter q).length := by
  rw [List.filter_map, List.length_map]
  congr 1
  exact List.filter_congr fun e he => h e he
theorem cnt_ref {m : List En} {us : List Vd} {n : Nat} (major : Bool) (low : Int) (h : us.filter kept = (m.map (sv fs clock m)).filter kept) (hl : us.length = n) : cntS major low us = refCt fs clock major low n m := by
  rw [cnt_is]
  unfold refCt fCnt
  have w : ∀ e ∈ m, whyV major low (sv fs clock m e) = fateN fs clock major low m e := fun e he => why_sv he
  have part : ∀ (p : Vd → Bool) (k : Int), (∀ v, v.fate = 1 → p v = false) → (∀ v, p v = true ↔ whyV major low v = k) → (us.filter p).length = (m.filter fun e => decide (fateN fs clock major low m e = k)).length := fun p k hp hk => by
    rw [filter_kept_len us p hp, h, ← filter_kept_len _ p hp]
    refine map_filter_len m _ p _ fun e he => ?_
    rw [← w e he]
    have := hk (sv fs clock m e)
    cases q : p (sv fs clock m e) with
    | true => rw [decide_eq_true (this.1 q)]
    | false => rw [decide_eq_false (fun z => by have := this.2 z; rw [q] at this; cases this)]
  have p2 := part (fun v => decide (v.fate = 2)) 2 (fun v z => by simp [z]) (fun v => by rw [decide_eq_true_eq]; exact (why_is major low v).2.1)
  have p3 := part (fun v => decide (v.fate = 3)) 3 (fun v z => by simp [z]) (fun v => by rw [decide_eq_true_eq]; exact (why_is major low v).2.2.1)
  have p4 := part (fun v => decide (v.fate = 4)) 4 (fun v z => by simp [z]) (fun v => by rw [decide_eq_true_eq]; exact (why_is major low v).2.2.2.1)
  have p5 := part (fun v => !staysS major low v && !decide (v.fate = 1) && !decide (v.fate = 2) && !decide (v.fate = 3) && !decide (v.fate = 4)) 5 (fun v z => by simp [z]) (fun v => (why_is major low v).2.2.2.2)
  have l1 := one_len us
  have l2 := one_len (m.map (sv fs clock m))
  rw [← h, List.length_map] at l2
  have p1 : ((m.map (sv fs clock m)).filter fun v => decide (v.fate = 1)).length = (m.filter fun e => decide (fateN fs clock major low m e = 1)).length := map_filter_len m _ _ _ fun e he => by
    rw [← w e he]
    have := (why_is major low (sv fs clock m e)).1
    by_cases z : (sv fs clock m e).fate = 1
    · rw [decide_eq_true z, decide_eq_true (this.1 z)]
    · rw [decide_eq_false z, decide_eq_false (fun y => z (this.2 y))]
  rw [p2, p3, p4, p5]
  congr 1
  omega
def refCtP (fs : List (Int × Int)) (clock : Int) (major : Bool) (low : Int) (n : Nat) (m p : List En) : Ct :=
  ⟨((n : Int) - m.length) + ((p.filter fun e => decide (fateN fs clock major low m e = 1)).length : Nat), ((p.filter fun e => decide (fateN fs clock major low m e = 2)).length : Nat), ((p.filter fun e => decide (fateN fs clock major low m e = 3)).length : Nat), ((p.filter fun e => decide (fateN fs clock major low m e = 4)).length : Nat), ((p.filter fun e => decide (fateN fs clock major low m e = 5)).length : Nat)⟩
def Ct.incN (c : Ct) (k : Int) : Ct := if k = 1 then { c with o := c.o + 1 } else if k = 2 then { c with m := c.m + 1 } else if k = 3 then { c with x := c.x + 1 } else if k = 4 then { c with a := c.a + 1 } else if k = 5 then { c with k := c.k + 1 } else c
theorem fateN_range {m : List En} {major : Bool} {low : Int} {e : En} : 0 ≤ fateN fs clock major low m e ∧ fateN fs clock major low m e ≤ 5 := by
  unfold fateN
  repeat' split
  all_goals omega
theorem refCtP_snoc {m p : List En} {major : Bool} {low : Int} {n : Nat} {e : En} : refCtP fs clock major low n m (p ++ [e]) = (refCtP fs clock major low n m p).incN (fateN fs clock major low m e) := by
  have r := fateN_range (fs := fs) (clock := clock) (m := m) (major := major) (low := low) (e := e)
  unfold refCtP Ct.incN
  simp only [List.filter_append, List.length_append]
  generalize hk : fateN fs clock major low m e = k at *
  have : k = 0 ∨ k = 1 ∨ k = 2 ∨ k = 3 ∨ k = 4 ∨ k = 5 := by omega
  rcases this with rfl | rfl | rfl | rfl | rfl | rfl <;> simp [hk, Int.add_assoc]
theorem refCtP_ok {m p : List En} {major : Bool} {low : Int} {n : Nat} (h1 : m.length ≤ n) (h2 : p.length ≤ m.length) : (refCtP fs clock major low n m p).Ok (n + m.length) := by
  have l := fun (q : En → Bool) => List.length_filter_le q p
  unfold refCtP Ct.Ok
  refine ⟨⟨?_, ?_⟩, ⟨?_, ?_⟩, ⟨?_, ?_⟩, ⟨?_, ?_⟩, ?_, ?_⟩
  all_goals simp only
  all_goals first | omega | (have a := l (fun e => decide (fateN fs clock major low m e = 1)); have b := l (fun e => decide (fateN fs clock major low m e = 2)); have c := l (fun e => decide (fateN fs clock major low m e = 3)); have d := l (fun e => decide (fateN fs clock major low m e = 4)); have f := l (fun e => decide (fateN fs clock major low m e = 5)); omega)
end
end Go.Proofs.YthhkpkfpifllkaaGreat

namespace Go.Proofs.YthhkpkfpifllkaaGreat
open Go.RowKit
set_option linter.unusedVariables false

section
variable {fs : List (Int × Int)} {clock : Int}
theorem cnt_append (major : Bool) (low : Int) (us ws : List Vd) : cntS major low (us ++ ws) = ⟨(cntS major low us).o + (cntS major low ws).o, (cntS major low us).m + (cntS major low ws).m, (cntS major low us).x + (cntS major low ws).x, (cntS major low us).a + (cntS major low ws).a, (cntS major low us).k + (cntS major low ws).k⟩ := by
  rw [cnt_is, cnt_is, cnt_is]
  unfold fCnt
  simp only [List.filter_append, List.length_append, Int.natCast_add]
def Gd : Bool → List Vd → Prop
  | true, _ => True
  | false, [] => True
  | false, v :: us => (v.rank = 1 ∧ Gd true us) ∨ (v.fate ≠ 5 ∧ v.rank ≠ 1 ∧ Gd false us)
def Qr (V : List Vd) (s : Sp) : Prop := Gd false V ∧ ((∃ v ∈ V, v.rank = 1) ∨ s.rank = 0)
theorem gd_append {us ws : List Vd} (h : Gd false us) (k : (∃ v ∈ us, v.rank = 1) ∨ Gd false ws) : Gd false (us ++ ws) := by
  induction us with
  | nil =>
    rcases k with ⟨v, hv, -⟩ | k
    · cases hv
    · exact k
  | cons v us ih =>
    rcases h with ⟨h1, -⟩ | ⟨h5, h1, hg⟩
    · exact .inl ⟨h1, by simp [Gd]⟩
    · refine .inr ⟨h5, h1, ih hg ?_⟩
      rcases k with ⟨y, hy, e⟩ | k
      · rcases List.mem_cons.1 hy with z | z
        · rw [z] at e; exact absurd e h1
        · exact .inl ⟨y, z, e⟩
      · exact .inr k
theorem Qr.app {V1 V2 : List Vd} {s1 s2 : Sp} (h : Qr V1 s1) (k : s1.rank = 0 → Qr V2 s2) : Qr (V1 ++ V2) s2 := by
  rcases h.2 with ⟨v, hv, e⟩ | z
  · exact ⟨gd_append h.1 (.inl ⟨v, hv, e⟩), .inl ⟨v, List.mem_append_left _ hv, e⟩⟩
  · have q := k z
    refine ⟨gd_append h.1 (.inr q.1), ?_⟩
    rcases q.2 with ⟨v, hv, e⟩ | y
    · exact .inl ⟨v, List.mem_append_right _ hv, e⟩
    · exact .inr y
theorem Qr.same {V : List Vd} {s s' : Sp} (h : Qr V s) (e : s.rank = 0 → s'.rank = 0) : Qr V s' := ⟨h.1, h.2.imp id e⟩
theorem qr_nil {s : Sp} (h : s.rank = 0) : Qr [] s := ⟨by simp [Gd], .inr h⟩
theorem qr_decide {s : Sp} (h : s.rank = 0) (e : En) : Qr [(decideS fs clock s e).1] (decideS fs clock s e).2 := by
  unfold decideS
  by_cases h1 : e.ts ≤ s.mask
  · simp [if_pos h1, Qr, Gd, h]
  · by_cases h2 : 0 < (famAt fs e.fam).2 ∧ e.ts + (famAt fs e.fam).2 ≤ clock
    · simp [if_neg h1, if_pos h2, Qr, Gd, h]
    · by_cases h3 : e.kind = 3
      · simp [if_neg h1, if_neg h2, if_pos h3, Qr, Gd, h]
      · simp [if_neg h1, if_neg h2, if_neg h3, Qr, Gd, h]
theorem qr_resolve {s : Sp} (h : s.rank = 0) (k : Int) : Qr (resolveS fs clock s k).1 (resolveS fs clock s k).2 := by
  unfold resolveS
  split
  · exact qr_decide (s := { s with waiting := false }) h _
  · exact qr_nil h
theorem left_rank0 (s : Sp) (f c : Bool) (h : s.rank = 0) : (leftS s f c).rank = 0 := by
  unfold leftS
  cases f <;> cases c <;> simp [h]
theorem qr_enter {s : Sp} (h : s.rank = 0) (e : En) : Qr (enterS fs clock s e).1 (enterS fs clock s e).2 := by
  unfold enterS
  split
  · exact qr_nil h
  · exact (qr_resolve h 3).same (left_rank0 _ _ _)
theorem qr_stretch {s : Sp} (h : s.rank = 0) (e : En) : Qr [(stretchS s e).1] (stretchS s e).2 := by
  unfold stretchS
  split <;> simp [Qr, Gd, h]
theorem qr_step {s : Sp} (h : s.rank = 0) (e : En) : Qr (stepS fs clock s e).1 (stepS fs clock s e).2 := by
  have q := qr_enter (fs := fs) (clock := clock) h e
  have one : ∀ {s : Sp}, s.rank = 0 → Qr [⟨e, 1, 0⟩] s := fun h => by simp [Qr, Gd, h]
  unfold stepS
  split
  · exact (q.app (fun z => qr_stretch z e)).same (fun z => z)
  · split
    · split
      · exact (q.app (fun z => (qr_resolve z 2).app (fun y => one y))).same (fun z => z)
      · exact (q.app (fun z => one z)).same (fun z => z)
    · split
      · exact q.same (fun z => z)
      · exact (q.app (fun z => qr_decide z e)).same (fun z => z)
theorem Pushed.qr {k : Nat} {l m : List EntD} {s : Sp} {vs : List Vd} (h : Pushed fs clock k l m s vs) : Qr vs s := by
  induction h with
  | nil => exact qr_nil rfl
  | twin h hy he ih => exact ih.app (fun z => by simp [Qr, Gd, z])
  | step h ho hc ih => exact ih.app (fun z => qr_step z _)
theorem Pushed.gd {k : Nat} {l m : List EntD} {s : Sp} {vs : List Vd} (h : Pushed fs clock k l m s vs) : Gd false vs ∧ Gd false (vs ++ (resolveS fs clock s 3).1) := ⟨h.qr.1, (h.qr.app (fun z => qr_resolve z 3)).1⟩
end
end Go.Proofs.YthhkpkfpifllkaaGreat

namespace Go.Proofs.YthhkpkfpifllkaaGreat
open Go.RowKit
set_option linter.unusedVariables false

def pushE (k : Nat) (s : SpD) (e : EntD) : Int := if check3S k e ≠ 0 then check3S k e else if s.begun = true then (if compareS e s.last < 0 then 30 else if sameS e s.last = true then 0 else if e.seq = s.last.seq then 31 else 0) else 0
def pushS (k : Nat) (fs : List (Int × Int)) (clock : Int) (s : SpD) (e : EntD) : List Vd × Sp := if pushE k s e ≠ 0 then ([], s.dat) else if s.begun = true ∧ sameS e s.last = true then ([⟨e.dat, 1, 0⟩], s.dat) else stepS fs clock s.dat e.dat
section
variable {W0 : Base} {W W' : World} {wb g rb : Nat} {fv : Value} {fs : List FamD} {clock : Int} {T : World → (Nat → Prop) → List Vd → Prop} {O : Nat → Prop} {s : SpD} {vs : List Vd} {e : EntD}
def Lst (s : SpD) (i : Nat) : Prop := s.last.vr.ownBlock = some i ∨ s.last.vq.ownBlock = some i ∨ s.last.vv.ownBlock = some i
theorem Wk.rebase (ht : Teller g rb T) (h : Wk W0 wb g rb fv fs clock T W O s vs) (hO : ∀ i, O i → i = rb) (hs : W.heap.size ≤ W'.heap.size) (hw : W'.heap[wb]? = W.heap[wb]?) (hr : W'.heap[rb]? = W.heap[rb]?) (hm : ∀ i, Lst s i → W'.heap[i]? = W.heap[i]?) (hf : ∀ Z, Fr0 ⟨W', W0.lo, Lst s⟩ wb rb Z → RdF Z fv fs) : Wk ⟨W', W0.lo, Lst s⟩ wb g rb fv fs clock T W' O s vs := by
  refine ⟨h.box.keep hw, hf, ht.keep h.tell (fun i hi => by rw [hO i hi]; exact hr) hs, ⟨own_same h.own.1 (fun k hk => hm k (.inl hk)), own_same h.own.2.1 (fun k hk => hm k (.inr (.inl hk))), own_same h.own.2.2 (fun k hk => hm k (.inr (.inr hk)))⟩, fun k hk => .inl hk, h.apart, h.apO, fun i hi => .inl (hO i hi), Nat.le_trans h.lo (Nat.le_trans h.fr.1 hs), ⟨Nat.lt_of_lt_of_le h.box.lt hs, h.wlow.2.1, fun k => h.lastw _ k rfl⟩, h.rank, h.mask, h.bys, h.few, h.wait, rfl, rfl, rfl, Nat.le_refl _, fun i _ _ _ _ => rfl⟩
set_option maxRecDepth 100000 in
set_option maxHeartbeats 4000000 in
theorem wpush_any (ht : Teller g rb T) (h : Wk W0 wb g rb fv fs clock T W O s vs) (he : ∀ Z, Fr0 W0 wb rb Z → EntD.Ok Z e) (hv : vs.length + 4 < 1353245080339) (hfs : ∀ f ∈ fs, 0 ≤ f.tl ∧ f.tl ≤ 1099511627776) (hr : s.rank ≤ vs.length) (hwb : s.waiting = true → s.begun = true) :
    Calls Tryz.prog 107 #[.pointer (some ⟨wb, 0, none⟩), .agg e.cells] W fun r W' => r = .returned (.int .i64 (pushE fs.length s e)) ∧ ∃ O' s', Wk W0 wb g rb fv fs clock T W' O' s' (vs ++ (pushS fs.length (mt fs) clock s e).1) ∧ s'.dat = (pushS fs.length (mt fs) clock s e).2 := by
  have A := (Below.refl W.heap.size W).alloc (Nat.le_refl _) (.cells e.cells 84)
  have eb := EBox.new W e
  have h1 := h.later ht A
  obtain ⟨qb, hqb⟩ : ∃ q, q = W.heap.size := ⟨_, rfl⟩
  have hqb' := hqb.symm
  rw [← hqb] at eb
  obtain ⟨X, hX⟩ : ∃ X, X = W.alloc (.cells e.cells 84) := ⟨_, rfl⟩
  rw [← hX] at eb h1
  have HX := Lib.hid hX
  have HT := Lib.hid ht
  have HE := Lib.hid he
  have HFs := Lib.hid hfs
  have HWb := Lib.hid hwb
  have HU : Hid (∀ Z, Below X.heap.size X Z → Wk W0 wb g rb fv fs clock T Z O s vs ∧ EBox Z qb e ∧ EntD.Ok Z e ∧ EntD.Ok Z s.last) := fun Z b => by
    have k := h1.later ht b
    exact ⟨k, eb.later b, he Z k.fr, k.ok⟩
  have HCs : Hid (∀ Z, Below X.heap.size X Z → (Z.cell? ⟨qb, 0, none⟩ = some e.vr ∧ Z.cell? ⟨qb, 1, none⟩ = some (.int .i64 e.fam) ∧ Z.cell? ⟨qb, 2, none⟩ = some e.vq ∧ Z.cell? ⟨qb, 3, none⟩ = some (.int .i64 e.ts) ∧ Z.cell? ⟨qb, 4, none⟩ = some (.int .i64 e.seq) ∧ Z.cell? ⟨qb, 5, none⟩ = some (.int .i64 e.kind) ∧ Z.cell? ⟨qb, 6, none⟩ = some e.vv) ∧ (Z.cell? ⟨wb, 4, none⟩ = some s.last.vr ∧ Z.cell? ⟨wb, 5, none⟩ = some (.int .i64 s.last.fam) ∧ Z.cell? ⟨wb, 6, none⟩ = some s.last.vq ∧ Z.cell? ⟨wb, 7, none⟩ = some (.int .i64 s.last.ts) ∧ Z.cell? ⟨wb, 8, none⟩ = some (.int .i64 s.last.seq) ∧ Z.cell? ⟨wb, 9, none⟩ = some (.int .i64 s.last.kind) ∧ Z.cell? ⟨wb, 10, none⟩ = some s.last.vv)) := fun Z b => ⟨EBox.cells7 (HU.out Z b).2.1, (HU.out Z b).1.box.last7⟩
  have HC1 : Hid (Calls Tryz.prog 94 #[.pointer (some ⟨wb, 0, none⟩), .agg e.cells] X fun r W' => r = .returned (.int .i64 (check3S fs.length e)) ∧ Below X.heap.size X W') := by
    obtain ⟨k1, k2, k3, k4⟩ := HU.out X (Below.refl _ _)
    obtain ⟨fa, fc, hfv, -⟩ := k1.fam X k1.fr
    exact check3_any (by rw [← hfv]; exact k1.box) k3
  have HC2 : Hid (∀ Z, Below X.heap.size X Z → Calls Tryz.prog 81 #[.agg e.cells, .agg s.last.cells] Z fun r W' => r = .returned (.int .i64 (compareS e s.last)) ∧ Below X.heap.size X W') := fun Z b => (compare_any (HU.out Z b).2.2.1 (HU.out Z b).2.2.2).mono (fun r w' k => ⟨k.1, b.trans (k.2.mono b.size)⟩)
  have HC3 : Hid (∀ Z, Below X.heap.size X Z → Calls Tryz.prog 108 #[.agg e.cells, .agg s.last.cells] Z fun r W' => r = .returned (.bool (sameS e s.last)) ∧ Below X.heap.size X W') := fun Z b => (same3_any (HU.out Z b).2.2.1 (HU.out Z b).2.2.2).mono (fun r w' k => ⟨k.1, b.trans (k.2.mono b.size)⟩)
  have HC4 : Hid (∀ Z, Below X.heap.size X Z → check3S fs.length e = 0 → Calls Tryz.prog g #[.pointer (some ⟨rb, 0, none⟩), vdV e 1 0] Z fun r W' => r = .returned (.tuple #[]) ∧ ∃ O', Wk W0 wb g rb fv fs clock T W' O' s (vs ++ [⟨e.dat, 1, 0⟩]) ∧ EBox W' qb e) := fun Z b hc => (ht.say 1 0 (HU.out Z b).1.tell (HU.out Z b).2.2.1 (fit_of_check hc) (by omega)).mono (fun r w' k => ⟨k.1, k.2.choose, (HU.out Z b).1.told k.2.choose_spec.1 k.2.choose_spec.2, k.2.choose_spec.2.ebox (h.fresh ht (by rw [hqb]; exact Nat.le_refl _)) (HU.out Z b).2.1⟩)
  have HC5 : Hid (∀ Z, Below X.heap.size X Z → check3S fs.length e = 0 → Calls Tryz.prog 95 #[.pointer (some ⟨wb, 0, none⟩), .agg e.cells] Z fun r W' => r = .returned (.tuple #[]) ∧ ∃ O' s', Wk W0 wb g rb fv fs clock T W' O' s' (vs ++ (stepS (mt fs) clock s.dat e.dat).1) ∧ s'.dat = (stepS (mt fs) clock s.dat e.dat).2) := fun Z b hc => step_any HT.out (HU.out Z b).1 HE.out (fit_of_check hc) hv HFs.out hr HWb.out
  have HEE : Hid (pushE fs.length s e = if check3S fs.length e ≠ 0 then check3S fs.length e else if s.begun = true then (if compareS e s.last < 0 then 30 else if sameS e s.last = true then 0 else if e.seq = s.last.seq then 31 else 0) else 0) := rfl
  have HSS : Hid (pushS fs.length (mt fs) clock s e = if pushE fs.length s e ≠ 0 then ([], s.dat) else if s.begun = true ∧ sameS e s.last = true then ([⟨e.dat, 1, 0⟩], s.dat) else stepS (mt fs) clock s.dat e.dat) := rfl
  have HS0 : Hid (sameS e s.last = true → compareS e s.last = 0) := fun k => by unfold sameS at k; simp at k; exact k.1
  obtain ⟨C, hC⟩ : ∃ C, C = check3S fs.length e := ⟨_, rfl⟩
  obtain ⟨P, hP⟩ : ∃ P, P = compareS e s.last := ⟨_, rfl⟩
  obtain ⟨M, hM⟩ : ∃ M, M = sameS e s.last := ⟨_, rfl⟩
  obtain ⟨E, hE⟩ : ∃ E, E = pushE fs.length s e := ⟨_, rfl⟩
  obtain ⟨D, hD⟩ : ∃ D, D = pushS fs.length (mt fs) clock s e := ⟨_, rfl⟩
  rw [← hC] at HC1 HC4 HC5 HEE
  rw [← hP] at HC2 HS0 HEE
  rw [← hM] at HC3 HS0 HEE HSS
  rw [← hE] at HEE HSS ⊢
  rw [← hD] at HSS ⊢
  have eg := ht.enters
  have xs := (HCs.out X (Below.refl _ _)).1
  rw [hX] at xs
  obtain ⟨x0, x1, x2, x3, x4, x5, x6⟩ := xs
  unfold vdV at HC4
  unfold EntD.cells at HX HC1 HC2 HC3 HC5 x0 x1 x2 x3 x4 x5 x6 ⊢
  clear ht h he hfs hwb A eb h1 hX hqb hC hP hM hE hD
  go_enter Tryz.func107, Tryz.ntmps107
  go_wp2_with fail
  rw [← HX.out]
  (try rw [hqb'])
  refine Calls.mono HC1.out ?_
  rintro z X1 ⟨rfl, b1⟩
  have HB1 := Lib.hid b1
  clear x0 x1 x2 x3 x4 x5 x6 HC1 HX hqb' b1
  by_cases hc : C = 0
  · subst hc
    have c3 := (HU.out X1 HB1.out).1.box.c3
    obtain ⟨⟨x0, x1, x2, x3, x4, x5, x6⟩, y4, y5, y6, y7, y8, y9, y10⟩ := HCs.out X1 HB1.out
    cases hbg : s.begun with
    | false =>
      rw [hbg] at c3
      have HE0 : Hid (E = 0 ∧ D = stepS (mt fs) clock s.dat e.dat) := by
        have q : E = 0 := by rw [HEE.out]; simp [hbg]
        exact ⟨q, by rw [HSS.out]; simp [hbg, q]⟩
      have HC6 := Lib.hid (HC5.out X1 HB1.out rfl)
      clear hbg HEE HSS
      go_wp2_with fail
      refine Calls.mono HC6.out ?_
      rintro z2 X2 ⟨rfl, O', s', k1, k2⟩
      have HK := Lib.hid (And.intro k1 k2)
      clear k1 k2 HC6 c3 x0 x1 x2 x3 x4 x5 x6 y4 y5 y6 y7 y8 y9 y10
      go_wp2
      go_ret
      rw [HE0.out.2]
      exact ⟨by rw [HE0.out.1]; rfl, O', s', HK.out.1, HK.out.2⟩
    | true =>
      rw [hbg] at c3
      have HEE2 : Hid (E = if P < 0 then 30 else if M = true then 0 else if e.seq = s.last.seq then 31 else 0) := by unfold Hid; rw [HEE.out]; simp [hbg]
      have HSS2 : Hid (D = if E ≠ 0 then ([], s.dat) else if M = true then ([⟨e.dat, 1, 0⟩], s.dat) else stepS (mt fs) clock s.dat e.dat) := by unfold Hid; rw [HSS.out]; simp [hbg]
      clear hbg HEE HSS
      have D1 : Below X1.heap.size X1 X1.drew := (Below.refl _ _).drew
      have B2 := HB1.out.trans (D1.mono HB1.out.size)
      have HC6 := Lib.hid (HC2.out _ B2)
      have z1 := HCs.out _ B2
      go_upto_region 5 with fail
      go_region_held3 (fun Z => (Z.cell? ⟨qb, 0, none⟩ = some e.vr ∧ Z.cell? ⟨qb, 1, none⟩ = some (.int .i64 e.fam) ∧ Z.cell? ⟨qb, 2, none⟩ = some e.vq ∧ Z.cell? ⟨qb, 3, none⟩ = some (.int .i64 e.ts) ∧ Z.cell? ⟨qb, 4, none⟩ = some (.int .i64 e.seq) ∧ Z.cell? ⟨qb, 5, none⟩ = some (.int .i64 e.kind) ∧ Z.cell? ⟨qb, 6, none⟩ = some e.vv) ∧ (Z.cell? ⟨wb, 4, none⟩ = some s.last.vr ∧ Z.cell? ⟨wb, 5, none⟩ = some (.int .i64 s.last.fam) ∧ Z.cell? ⟨wb, 6, none⟩ = some s.last.vq ∧ Z.cell? ⟨wb, 7, none⟩ = some (.int .i64 s.last.ts) ∧ Z.cell? ⟨wb, 8, none⟩ = some (.int .i64 s.last.seq) ∧ Z.cell? ⟨wb, 9, none⟩ = some (.int .i64 s.last.kind) ∧ Z.cell? ⟨wb, 10, none⟩ = some s.last.vv)) (first | exact HCs.out _ b3 | exact z1) ((refine Calls.mono HC6.out ?_; rintro z2 X2 ⟨rfl, b3⟩))
      have HB3 := Lib.hid b3
      clear c3 x0 x1 x2 x3 x4 x5 x6 y4 y5 y6 y7 y8 y9 y10 z1 D1 B2 HC6 b3
      by_cases hp : P < 0
      · have q : Hid (E = 30 ∧ D = ([], s.dat)) := by
          have q1 : E = 30 := by rw [HEE2.out, if_pos hp]
          exact ⟨q1, by rw [HSS2.out, if_pos (by rw [q1]; decide)]⟩
        have hpd : decide (P < 0) = true := decide_eq_true hp
        clear HEE2 HSS2
        go_wp2
        go_ret
        rw [q.out.2]
        exact ⟨by rw [q.out.1]; rfl, O, s, by simpa using (HU.out _ HB3.out).1, rfl⟩
      · have hpd : decide (P < 0) = false := decide_eq_false hp
        have HEE3 : Hid (E = if M = true then 0 else if e.seq = s.last.seq then 31 else 0) := by unfold Hid; rw [HEE2.out, if_neg hp]
        clear HEE2
        go_upto_region 8 with fail
        go_cut [28] (fun c wx => c = .bool M ∧ Hid (Below X.heap.size X wx))
        case first =>
          by_cases h0 : P = 0
          · subst h0
            have D1 : Below X2.heap.size X2 X2.drew := (Below.refl _ _).drew
            have B2 := HB3.out.trans (D1.mono HB3.out.size)
            have HC6 := Lib.hid (HC3.out _ B2)
            have z1 := HCs.out _ B2
            go_region_held3 (fun Z => (Z.cell? ⟨qb, 0, none⟩ = some e.vr ∧ Z.cell? ⟨qb, 1, none⟩ = some (.int .i64 e.fam) ∧ Z.cell? ⟨qb, 2, none⟩ = some e.vq ∧ Z.cell? ⟨qb, 3, none⟩ = some (.int .i64 e.ts) ∧ Z.cell? ⟨qb, 4, none⟩ = some (.int .i64 e.seq) ∧ Z.cell? ⟨qb, 5, none⟩ = some (.int .i64 e.kind) ∧ Z.cell? ⟨qb, 6, none⟩ = some e.vv) ∧ (Z.cell? ⟨wb, 4, none⟩ = some s.last.vr ∧ Z.cell? ⟨wb, 5, none⟩ = some (.int .i64 s.last.fam) ∧ Z.cell? ⟨wb, 6, none⟩ = some s.last.vq ∧ Z.cell? ⟨wb, 7, none⟩ = some (.int .i64 s.last.ts) ∧ Z.cell? ⟨wb, 8, none⟩ = some (.int .i64 s.last.seq) ∧ Z.cell? ⟨wb, 9, none⟩ = some (.int .i64 s.last.kind) ∧ Z.cell? ⟨wb, 10, none⟩ = some s.last.vv)) (first | exact HCs.out _ b3 | exact z1) ((refine Calls.mono HC6.out ?_; rintro z3 X3 ⟨rfl, b3⟩))
            have HB4 := Lib.hid b3
            clear z1 D1 B2 HC6 b3
            go_wp2_with fail
            go_meet
            exact ⟨rfl, HB4.out⟩
          · have hM : M = false := by cases hm : M; rfl; exact absurd (HS0.out hm) h0
            subst hM
            have b0 : (P == 0) = false := by simp [h0]
            go_quiet (fail)
            go_wp2_with fail
            go_meet
            exact ⟨rfl, below_dn HB3.out _⟩
        case rest =>
        obtain ⟨rfl, HB4⟩ := hcut
        obtain ⟨X3, hX3⟩ : ∃ X3, X3 = wc := ⟨_, rfl⟩
        subst hX3
        have D1 : Below X3.heap.size X3 X3.drew := (Below.refl _ _).drew
        have B5 := HB4.out.trans (D1.mono HB4.out.size)
        cases M with
        | true =>
          have q : Hid (E = 0 ∧ D = ([⟨e.dat, 1, 0⟩], s.dat)) := by
            have q1 : E = 0 := by rw [HEE3.out, if_pos rfl]
            exact ⟨q1, by rw [HSS2.out, if_neg (by rw [q1]; decide), if_pos rfl]⟩
          have HC6 := Lib.hid (HC4.out _ B5 (by trivial))
          have z1 := (HU.out _ B5).1.box.c2
          have z2 := (HCs.out _ B5).1
          clear HEE3 HSS2
          go_upto_region 9 with fail
          go_region_held3 (fun Z => Z.cell? ⟨wb, 2, none⟩ = some (.func (.func g) #[.pointer (some ⟨rb, 0, none⟩)] #[]) ∧ (Z.cell? ⟨qb, 0, none⟩ = some e.vr ∧ Z.cell? ⟨qb, 1, none⟩ = some (.int .i64 e.fam) ∧ Z.cell? ⟨qb, 2, none⟩ = some e.vq ∧ Z.cell? ⟨qb, 3, none⟩ = some (.int .i64 e.ts) ∧ Z.cell? ⟨qb, 4, none⟩ = some (.int .i64 e.seq) ∧ Z.cell? ⟨qb, 5, none⟩ = some (.int .i64 e.kind) ∧ Z.cell? ⟨qb, 6, none⟩ = some e.vv)) (first | exact ⟨k5.box.c2, EBox.cells7 k6⟩ | exact ⟨z1, z2⟩) ((refine Calls.mono HC6.out ?_; rintro z4 X4 ⟨rfl, O4, k5, k6⟩))
          have HK := Lib.hid k5
          clear k5 k6 z1 z2 HC6 D1 B5
          go_wp2
          go_ret
          rw [q.out.2]
          exact ⟨by rw [q.out.1]; rfl, O4, s, HK.out, rfl⟩
        | false =>
          have HEE4 : Hid (E = if e.seq = s.last.seq then 31 else 0) := by unfold Hid; rw [HEE3.out, if_neg (by decide)]
          obtain ⟨⟨x0, x1, x2, x3, x4, x5, x6⟩, y4, y5, y6, y7, y8, y9, y10⟩ := HCs.out X3 HB4.out
          clear HEE3
          by_cases hq : e.seq = s.last.seq
          · have q : Hid (E = 31 ∧ D = ([], s.dat)) := by
              have q1 : E = 31 := by rw [HEE4.out, if_pos hq]
              exact ⟨q1, by rw [HSS2.out, if_pos (by rw [q1]; decide)]⟩
            have hqb : (e.seq == s.last.seq) = true := by simp [hq]
            clear HEE4 HSS2 hq
            go_upto_region 11 with fail
            go_region
            go_wp2
            go_ret
            rw [q.out.2]
            exact ⟨by rw [q.out.1]; rfl, O, s, by simpa using (HU.out _ B5).1, rfl⟩
          · have q : Hid (E = 0 ∧ D = stepS (mt fs) clock s.dat e.dat) := by
              have q1 : E = 0 := by rw [HEE4.out, if_neg hq]
              exact ⟨q1, by rw [HSS2.out, if_neg (by rw [q1]; decide), if_neg (by decide)]⟩
            have hqb : (e.seq == s.last.seq) = false := by simp [hq]
            have HC6 := Lib.hid (HC5.out _ B5 (by trivial))
            clear HEE4 HSS2 hq
            go_upto_region 11 with fail
            go_region
            clear x0 x1 x2 x3 x4 x5 x6 y4 y5 y6 y7 y8 y9 y10
            obtain ⟨x0, x1, x2, x3, x4, x5, x6⟩ := (HCs.out _ B5).1
            go_wp2_with fail
            refine Calls.mono HC6.out ?_
            rintro z4 X4 ⟨rfl, O', s', k1, k2⟩
            have HK := Lib.hid (And.intro k1 k2)
            clear k1 k2 HC6 x0 x1 x2 x3 x4 x5 x6 D1 B5
            go_wp2
            go_ret
            rw [q.out.2]
            exact ⟨by rw [q.out.1]; rfl, O', s', HK.out.1, HK.out.2⟩
  · have q : Hid (E = C ∧ D = ([], s.dat)) := by
      have q1 : E = C := by rw [HEE.out, if_pos hc]
      exact ⟨q1, by rw [HSS.out, if_pos (by rw [q1]; exact hc)]⟩
    have b0 : (C != 0) = true := by simp [hc]
    clear HEE HSS hc
    go_wp2
    go_ret
    rw [q.out.2]
    exact ⟨by rw [q.out.1]; rfl, O, s, by simpa using (HU.out _ HB1.out).1, rfl⟩
end
end Go.Proofs.YthhkpkfpifllkaaGreat

namespace Go.Proofs.YthhkpkfpifllkaaGreat
open Go.RowKit
set_option linter.unusedVariables false

structure Hands (g fb N : Nat) (c0 : Value) (T : List En → World → (Nat → Prop) → List Vd → Prop) : Prop where
  tl : ∀ hd, Teller g fb (T hd)
  out : ∀ {hd : List En} {W : World} {O : Nat → Prop} {vs : List Vd}, T hd W O vs → ∃ (xs : List EntD) (a : Option Addr) (c : Nat) (cs : List Value) (ty : TypeId) (Or : Nat → Prop), SBx W fb c0 (.slice a xs.length c) cs ty ∧ Rw W N (.slice a xs.length c) xs Or ∧ ¬ Or fb ∧ (∀ i, Or i → O i) ∧ O fb ∧ ∀ W', SBx W' fb c0 (.slice none 0 0) cs ty → W.grownBy W' (some fb) → T (hd ++ xs.map EntD.dat) W' (fun i => i = fb) vs
theorem filter_hands (fb N : Nat) (c0 : Value) (major : Bool) (low : Int) : Hands 70 fb N c0 (fun hd => TF hd fb N c0 major low) := by
  refine ⟨fun hd => filter_teller hd fb N c0 major low, fun {hd W O vs} h => ?_⟩
  obtain ⟨xs, ov, Or, hb, hr, hno, hsub, hx⟩ := h.st
  obtain ⟨a, c, rfl⟩ := rows_form3 hr.row
  refine ⟨xs, a, c, _, _, Or, hb, hr, hno, hsub, h.of, fun W' sb gr => ?_⟩
  exact ⟨⟨[], .slice none 0 0, fun _ => False, sb, Rw.nil _ _ _, fun z => z, fun _ z => z.elim, by simpa using hx⟩, h.ok, rfl, fun i hi => by rw [hi]; exact sb.lt, Nat.le_trans h.low gr.size⟩
section
variable {W0 : Base} {W W' : World} {wb g rb N : Nat} {fv : Value} {fs : List FamD} {clock : Int} {hd : List En} {T : List En → World → (Nat → Prop) → List Vd → Prop} {O O' : Nat → Prop} {s : SpD} {vs : List Vd} {e : EntD}
theorem Wk.swap {T0 T1 : World → (Nat → Prop) → List Vd → Prop} (h : Wk W0 wb g rb fv fs clock T0 W O s vs) (t : T1 W' O' vs) (f : Tf W W' O O') : Wk W0 wb g rb fv fs clock T1 W' O' s vs := by
  have hlt := h.lastlt
  have sm : ∀ k, s.last.vr.ownBlock = some k ∨ s.last.vq.ownBlock = some k ∨ s.last.vv.ownBlock = some k → W'.heap[k]? = W.heap[k]? := fun k hk => f.block k (hlt k hk).2 (h.apO k hk)
  refine ⟨h.box.keep (f.block wb h.box.lt h.notO), h.fam, t, ⟨own_same h.own.1 (fun k hk => sm k (.inl hk)), own_same h.own.2.1 (fun k hk => sm k (.inr (.inl hk))), own_same h.own.2.2 (fun k hk => sm k (.inr (.inr hk)))⟩, h.lastL, h.apart, fun k hk ho => ?_, fun i hi => ?_, h.lo, h.wlow, h.rank, h.mask, h.bys, h.few, h.wait, f.os.trans h.os, f.tape.trans h.tape, f.output.trans h.output, Nat.le_trans h.fr.1 f.size, fun i hi h1 h2 h3 => ?_⟩
  · rcases f.own k ho with k1 | k1
    · exact h.apO k hk k1
    · have := (hlt k hk).2; omega
  · rcases f.own i hi with k1 | k1
    · exact h.low i k1
    · exact .inr (Nat.le_trans h.fr.1 k1)
  · rw [f.block i (Nat.lt_of_lt_of_le hi h.fr.1) (fun k => by rcases h.low i k with e | e; exact h2 e; omega)]
    exact h.fr.2 i hi h1 h2 h3
structure Gone (W0 : Base) (wb g rb N : Nat) (fv : Value) (fs : List FamD) (clock : Int) (T : List En → World → (Nat → Prop) → List Vd → Prop) (hd : List En) (W' : World) (v : Value) (xs : List EntD) (Or : Nat → Prop) (s' : SpD) (vs : List Vd) : Prop where
  rw_ : Rw W' N v xs Or
  new : ∀ i, Or i → W0.heap.size ≤ i ∧ i < W'.heap.size
  ap : ∀ i, Or i → ¬ Lst s' i ∧ i ≠ wb ∧ i ≠ rb
  wk : Wk W0 wb g rb fv fs clock (T (hd ++ xs.map EntD.dat)) W' (fun i => i = rb) s' vs
theorem gone_of (H : Hands g rb N (.pointer (some ⟨wb, 0, none⟩)) T) (k : Wk W0 wb g rb fv fs clock (T hd) W O s vs) {xs : List EntD} {a : Option Addr} {c : Nat} {Or : Nat → Prop} (hr : Rw W N (.slice a xs.length c) xs Or) (hno : ¬ Or rb) (hsub : ∀ i, Or i → O i) (hof : O rb) (hre : T (hd ++ xs.map EntD.dat) W' (fun i => i = rb) vs) (gr : W.grownBy W' (some rb)) : Gone W0 wb g rb N fv fs clock T hd W' (.slice a xs.length c) xs Or s vs := by
  refine ⟨hr.keep (fun i hi => gr.block i ((H.tl hd).lt k.tell (hsub i hi)) (fun z => by cases z; exact hno hi)), fun i hi => ⟨?_, Nat.lt_of_lt_of_le ((H.tl hd).lt k.tell (hsub i hi)) gr.size⟩, fun i hi => ⟨fun l => k.apO i l (hsub i hi), fun z => k.notO (by rw [← z]; exact hsub i hi), fun z => hno (by rw [← z]; exact hi)⟩, k.swap hre ⟨gr.os, gr.tape, gr.output, gr.size, fun i hi hn => gr.block i hi (fun z => by cases z; exact hn hof), fun i hi => .inl (by rw [hi]; exact hof)⟩⟩
  rcases k.low i (hsub i hi) with z | z
  · exact absurd (by rw [← z]; exact hi) hno
  · exact z

set_option maxRecDepth 100000 in
set_option maxHeartbeats 4000000 in
theorem spush_any (H : Hands g rb N (.pointer (some ⟨wb, 0, none⟩)) T) (h : Wk W0 wb g rb fv fs clock (T hd) W O s vs) (he : ∀ Z, Fr0 W0 wb rb Z → EntD.Ok Z e) (hv : vs.length + 4 < 1353245080339) (hfs : ∀ f ∈ fs, 0 ≤ f.tl ∧ f.tl ≤ 1099511627776) (hr : s.rank ≤ vs.length) (hwb : s.waiting = true → s.begun = true) :
    Calls Tryz.prog 73 #[.pointer (some ⟨rb, 0, none⟩), .agg e.cells] W fun r W' => ∃ xs a c Or s', r = .returned (.tuple #[.slice a xs.length c, .int .i64 (pushE fs.length s e)]) ∧ Gone W0 wb g rb N fv fs clock T hd W' (.slice a xs.length c) xs Or s' (vs ++ (pushS fs.length (mt fs) clock s e).1) ∧ s'.dat = (pushS fs.length (mt fs) clock s e).2 := by
  have A := (Below.refl W.heap.size W).alloc (Nat.le_refl _) (.cells e.cells 84)
  have eb := EBox.new W e
  have ht0 := H.tl hd
  have h1 := h.later ht0 A
  have hfr := h.fresh ht0 (Nat.le_refl W.heap.size)
  have hlt := h.lastlt
  obtain ⟨qb, hqb⟩ : ∃ q, q = W.heap.size := ⟨_, rfl⟩
  have hqb' := hqb.symm
  rw [← hqb] at eb hfr
  have K0 := h1.ext eb hfr (by rw [hqb]; exact h.fr.1) (fun k hk => by have := (hlt k hk).2; omega)
  have ht : Teller g rb (TE (T hd) qb (.cells e.cells 84 (0, 0))) := ht0.ext
  obtain ⟨TT, hTT⟩ : ∃ TT, TT = TE (T hd) qb (.cells e.cells 84 (0, 0)) := ⟨_, rfl⟩
  rw [← hTT] at K0 ht
  have HTT := Lib.hid hTT
  obtain ⟨X, hX⟩ : ∃ X, X = W.alloc (.cells e.cells 84) := ⟨_, rfl⟩
  rw [← hX] at K0
  have HX := Lib.hid hX
  have HH := Lib.hid H
  have HCE : Hid (∀ Z O' s' us, Wk W0 wb g rb fv fs clock TT Z O' s' us → Z.cell? ⟨rb, 0, none⟩ = some (.pointer (some ⟨wb, 0, none⟩)) ∧ Z.cell? ⟨qb, 0, none⟩ = some e.vr ∧ Z.cell? ⟨qb, 1, none⟩ = some (.int .i64 e.fam) ∧ Z.cell? ⟨qb, 2, none⟩ = some e.vq ∧ Z.cell? ⟨qb, 3, none⟩ = some (.int .i64 e.ts) ∧ Z.cell? ⟨qb, 4, none⟩ = some (.int .i64 e.seq) ∧ Z.cell? ⟨qb, 5, none⟩ = some (.int .i64 e.kind) ∧ Z.cell? ⟨qb, 6, none⟩ = some e.vv) := fun Z O' s' us k => by
    rw [hTT] at k
    obtain ⟨xs, a, c, cs, ty, Or, sb, -⟩ := H.out k.tell.2.2
    exact ⟨sb.c00, EBox.cells7 k.tell.1⟩
  have D4 : Below X.heap.size X X.drew := (Below.refl _ _).drew
  have K4 := K0.later ht D4
  have z1 := HCE.out _ _ _ _ K4
  have HC1 := Lib.hid (wpush_any ht K4 he hv hfs hr hwb)
  obtain ⟨E, hE⟩ : ∃ E, E = pushE fs.length s e := ⟨_, rfl⟩
  obtain ⟨D, hD⟩ : ∃ D, D = pushS fs.length (mt fs) clock s e := ⟨_, rfl⟩
  rw [← hE, ← hD] at HC1 ⊢
  unfold EntD.cells at HX HC1 ⊢
  clear H ht0 ht h he hv hfs hr hwb A eb h1 hfr hlt hX hqb K0 K4 D4 hE hD hTT
  go_enter Tryz.func73, Tryz.ntmps73
  go_upto_region 1 with fail
  rw [← HX.out]
  (try rw [hqb'])
  clear HX hqb'
  go_region_held3 (fun Z => Z.cell? ⟨rb, 0, none⟩ = some (.pointer (some ⟨wb, 0, none⟩)) ∧ Z.cell? ⟨qb, 0, none⟩ = some e.vr ∧ Z.cell? ⟨qb, 1, none⟩ = some (.int .i64 e.fam) ∧ Z.cell? ⟨qb, 2, none⟩ = some e.vq ∧ Z.cell? ⟨qb, 3, none⟩ = some (.int .i64 e.ts) ∧ Z.cell? ⟨qb, 4, none⟩ = some (.int .i64 e.seq) ∧ Z.cell? ⟨qb, 5, none⟩ = some (.int .i64 e.kind) ∧ Z.cell? ⟨qb, 6, none⟩ = some e.vv) (first | exact HCE.out _ _ _ _ K5 | exact z1) ((go_at_call 107; refine Calls.mono HC1.out ?_; rintro z X1 ⟨rfl, O1, s1, K5, d5⟩))
  rw [HTT.out] at K5
  have K6 := K5.unext
  obtain ⟨xs, a, c, cs, ty, Or, sb, rw1, hno, hsub, hof, hre⟩ := HH.out.out K6.tell
  have HO := Lib.hid (handOut_any sb)
  have HK : Hid (∀ X2, SBx X2 rb (.pointer (some ⟨wb, 0, none⟩)) (.slice none 0 0) cs ty → X1.grownBy X2 (some rb) → Gone W0 wb g rb N fv fs clock T hd X2 (.slice a xs.length c) xs Or s1 (vs ++ D.1)) := fun X2 sb2 gr2 => gone_of HH.out K6 rw1 hno hsub hof (hre X2 sb2 gr2) gr2
  have HD5 := Lib.hid d5
  obtain ⟨n, hn⟩ : ∃ n, n = xs.length := ⟨_, rfl⟩
  rw [← hn] at HO HK
  have HN := Lib.hid hn
  clear K5 K6 d5 z1 HCE HC1 sb rw1 hno hsub hof hre hn
  go_wp2_with fail
  refine Calls.mono HO.out ?_
  rintro z2 X2 ⟨rfl, sb2, gr2⟩
  have HG := Lib.hid (HK.out X2 sb2 gr2)
  clear sb2 gr2 HO HK
  go_wp2
  go_ret2
  exact ⟨xs, a, c, Or, s1, by rw [← HN.out]; rfl, by rw [← HN.out]; exact HG.out, HD5.out⟩

set_option maxRecDepth 100000 in
set_option maxHeartbeats 4000000 in
theorem send_any (H : Hands g rb N (.pointer (some ⟨wb, 0, none⟩)) T) (h : Wk W0 wb g rb fv fs clock (T hd) W O s vs) (hv : vs.length < 1353245080339) (hfs : ∀ f ∈ fs, 0 ≤ f.tl ∧ f.tl ≤ 1099511627776) (hr : s.rank ≤ vs.length) (hwb : s.waiting = true → s.begun = true) :
    Calls Tryz.prog 72 #[.pointer (some ⟨rb, 0, none⟩)] W fun r W' => ∃ xs a c Or, r = .returned (.slice a xs.length c) ∧ Gone W0 wb g rb N fv fs clock T hd W' (.slice a xs.length c) xs Or spZ (vs ++ (resolveS (mt fs) clock s.dat 3).1) := by
  have HC1 := Lib.hid (end_any (H.tl hd) h hv hfs hr hwb)
  have HH := Lib.hid H
  obtain ⟨xs, a, c, cs, ty, Or, sb, -⟩ := H.out h.tell
  have c0 := sb.c00
  obtain ⟨D, hD⟩ : ∃ D, D = (resolveS (mt fs) clock s.dat 3).1 := ⟨_, rfl⟩
  rw [← hD] at HC1 ⊢
  clear H h hv hfs hr hwb sb hD
  go_enter Tryz.func72, Tryz.ntmps72
  go_wp2_with fail
  refine Calls.mono HC1.out ?_
  rintro z X1 ⟨rfl, O1, K6⟩
  clear c0 HC1
  obtain ⟨xs, a, c, cs, ty, Or, sb, rw1, hno, hsub, hof, hre⟩ := HH.out.out K6.tell
  have HO := Lib.hid (handOut_any sb)
  have HK : Hid (∀ X2, SBx X2 rb (.pointer (some ⟨wb, 0, none⟩)) (.slice none 0 0) cs ty → X1.grownBy X2 (some rb) → Gone W0 wb g rb N fv fs clock T hd X2 (.slice a xs.length c) xs Or spZ (vs ++ D)) := fun X2 sb2 gr2 => gone_of HH.out K6 rw1 hno hsub hof (hre X2 sb2 gr2) gr2
  obtain ⟨n, hn⟩ : ∃ n, n = xs.length := ⟨_, rfl⟩
  rw [← hn] at HO HK
  have HN := Lib.hid hn
  clear K6 sb rw1 hno hsub hof hre hn
  go_wp2_with fail
  refine Calls.mono HO.out ?_
  rintro z2 X2 ⟨rfl, sb2, gr2⟩
  have HG := Lib.hid (HK.out X2 sb2 gr2)
  clear sb2 gr2 HO HK
  go_wp2
  go_ret
  exact ⟨xs, a, c, Or, by rw [← HN.out]; rfl, by rw [← HN.out]; exact HG.out⟩
end
end Go.Proofs.YthhkpkfpifllkaaGreat

namespace Go.Proofs.YthhkpkfpifllkaaGreat
open Go.RowKit
set_option linter.unusedVariables false

structure Rest (B wb g rb : Nat) (fv : Value) (fs : List FamD) (clock : Int) (T : World → (Nat → Prop) → List Vd → Prop) (W : World) (s : SpD) (vs : List Vd) : Prop where
  wk : Wk ⟨W, B, Lst s⟩ wb g rb fv fs clock T W (fun i => i = rb) s vs
  fam : ∃ a c, fv = .slice a fs.length c ∧ OwnF W B (.slice a fs.length c) fs.length fs
  far : ∀ k, fv.ownBlock = some k → k ≠ wb ∧ k ≠ rb ∧ ¬ Lst s k
  l8 : fs.length ≤ 8
def Its (wb rb : Nat) (fv : Value) (s : SpD) (i : Nat) : Prop := i = wb ∨ i = rb ∨ Lst s i ∨ fv.ownBlock = some i
section
variable {W0 : Base} {W W' : World} {B wb g rb N : Nat} {fv : Value} {fs : List FamD} {clock : Int} {hd : List En} {T : World → (Nat → Prop) → List Vd → Prop} {s s' : SpD} {vs us : List Vd} {e : EntD}
theorem fam_frame (hf : ∃ a c, fv = .slice a fs.length c ∧ OwnF W B (.slice a fs.length c) fs.length fs) (far : ∀ k, fv.ownBlock = some k → k ≠ wb ∧ k ≠ rb ∧ ¬ Lst s k) (l8 : fs.length ≤ 8) (Z : World) (hZ : Fr0 ⟨W, B, Lst s⟩ wb rb Z) : RdF Z fv fs := by
  obtain ⟨a, c, rfl, ho⟩ := hf
  refine OwnF.rd ⟨ho.1, row_same ho.2 (fun k hk => ?_)⟩ l8
  exact hZ.2 k (ho.2.lt k hk).2 (far k hk).1 (far k hk).2.1 (far k hk).2.2
theorem Rest.keep (ht : Teller g rb T) (h : Rest B wb g rb fv fs clock T W s vs) (hs : W.heap.size ≤ W'.heap.size) (hm : ∀ i, Its wb rb fv s i → W'.heap[i]? = W.heap[i]?) : Rest B wb g rb fv fs clock T W' s vs := by
  obtain ⟨a, c, e1, ho⟩ := h.fam
  have f2 : ∃ a c, fv = .slice a fs.length c ∧ OwnF W' B (.slice a fs.length c) fs.length fs := ⟨a, c, e1, ho.1, row_same ho.2 (fun k hk => hm k (.inr (.inr (.inr (by rw [e1]; exact hk)))))⟩
  exact ⟨h.wk.rebase ht (fun i hi => hi) hs (hm wb (.inl rfl)) (hm rb (.inr (.inl rfl))) (fun i hi => hm i (.inr (.inr (.inl hi)))) (fun Z hZ => fam_frame f2 h.far h.l8 Z hZ), f2, h.far, h.l8⟩
theorem Rest.lt (h : Rest B wb g rb fv fs clock T W s vs) (ht : Teller g rb T) (i : Nat) (hi : Its wb rb fv s i) : i < W.heap.size := by
  rcases hi with rfl | rfl | hi | hi
  · exact h.wk.box.lt
  · exact ht.lt h.wk.tell rfl
  · exact (h.wk.lastlt i hi).2
  · obtain ⟨a, c, e1, ho⟩ := h.fam
    rw [e1] at hi
    exact (ho.2.lt i hi).2
theorem Rest.later (ht : Teller g rb T) (h : Rest B wb g rb fv fs clock T W s vs) (b : Below W.heap.size W W') : Rest B wb g rb fv fs clock T W' s vs := h.keep ht b.size (fun i hi => b.block i (h.lt ht i hi))
structure Step (B wb g rb N : Nat) (fv : Value) (fs : List FamD) (clock : Int) (T : List En → World → (Nat → Prop) → List Vd → Prop) (hd : List En) (W W' : World) (s s' : SpD) (v : Value) (xs : List EntD) (Or : Nat → Prop) (vs : List Vd) : Prop where
  rest : Rest B wb g rb fv fs clock (T (hd ++ xs.map EntD.dat)) W' s' vs
  rw_ : Rw W' N v xs Or
  new : ∀ i, Or i → W.heap.size ≤ i ∧ i < W'.heap.size
  ap : ∀ i, Or i → ¬ Its wb rb fv s' i
  its : ∀ i, Its wb rb fv s' i → Its wb rb fv s i ∨ W.heap.size ≤ i
  os : W'.os = W.os
  tape : W'.tape = W.tape
  output : W'.output = W.output
  size : W.heap.size ≤ W'.heap.size
  block : ∀ i, i < W.heap.size → ¬ Its wb rb fv s i → W'.heap[i]? = W.heap[i]?
theorem Step.of {T : List En → World → (Nat → Prop) → List Vd → Prop} (H : Hands g rb N (.pointer (some ⟨wb, 0, none⟩)) T) {v : Value} {xs : List EntD} {Or : Nat → Prop} (h : Rest B wb g rb fv fs clock (T hd) W s vs) (k : Gone ⟨W, B, Lst s⟩ wb g rb N fv fs clock T hd W' v xs Or s' us) : Step B wb g rb N fv fs clock T hd W W' s s' v xs Or us := by
  obtain ⟨a, c, e1, ho⟩ := h.fam
  have hfl : ∀ i, fv.ownBlock = some i → i < W.heap.size := fun i hi => by rw [e1] at hi; exact (ho.2.lt i hi).2
  have f2 : ∃ a c, fv = .slice a fs.length c ∧ OwnF W' B (.slice a fs.length c) fs.length fs := ⟨a, c, e1, ho.1, row_same ho.2 (fun i hi => by
    have q := h.far i (by rw [e1]; exact hi)
    exact k.wk.fr.2 i (ho.2.lt i hi).2 q.1 q.2.1 q.2.2)⟩
  have far2 : ∀ i, fv.ownBlock = some i → i ≠ wb ∧ i ≠ rb ∧ ¬ Lst s' i := fun i hi => by
    refine ⟨(h.far i hi).1, (h.far i hi).2.1, fun l => ?_⟩
    rcases k.wk.lastL i l with z | z
    · exact (h.far i hi).2.2 z
    · have := hfl i hi
      exact absurd this (Nat.not_lt.2 z)
  refine ⟨⟨k.wk.rebase (H.tl _) (fun i hi => hi) (Nat.le_refl _) rfl rfl (fun _ _ => rfl) (fun Z hZ => fam_frame f2 far2 h.l8 Z hZ), f2, far2, h.l8⟩, k.rw_, k.new, fun i hi q => ?_, fun i hi => ?_, k.wk.os, k.wk.tape, k.wk.output, k.wk.fr.1, fun i hi hn => k.wk.fr.2 i hi (fun z => hn (.inl z)) (fun z => hn (.inr (.inl z))) (fun z => hn (.inr (.inr (.inl z))))⟩
  · rcases q with q | q | q | q
    · exact (k.ap i hi).2.1 q
    · exact (k.ap i hi).2.2 q
    · exact (k.ap i hi).1 q
    · exact absurd (hfl i q) (Nat.not_lt.2 (k.new i hi).1)
  · rcases hi with q | q | q | q
    · exact .inl (.inl q)
    · exact .inl (.inr (.inl q))
    · rcases k.wk.lastL i q with z | z
      · exact .inl (.inr (.inr (.inl z)))
      · exact .inr z
    · exact .inl (.inr (.inr (.inr q)))
theorem Step.box {T : List En → World → (Nat → Prop) → List Vd → Prop} {v : Value} {xs : List EntD} {Or : Nat → Prop} {q : Nat} (k : Step B wb g rb N fv fs clock T hd W W' s s' v xs Or us) (hq : EBox W q e) (hn : ¬ Its wb rb fv s q) : EBox W' q e := (k.block q (Array.getElem?_eq_some_iff.1 hq).1 hn).trans hq

set_option maxRecDepth 100000 in
set_option maxHeartbeats 4000000 in
theorem fPush_any {T : List En → World → (Nat → Prop) → List Vd → Prop} (H : Hands g rb N (.pointer (some ⟨wb, 0, none⟩)) T) (h : Rest B wb g rb fv fs clock (T hd) W s vs) (he : ∀ Z, Fr0 ⟨W, B, Lst s⟩ wb rb Z → EntD.Ok Z e) (hv : vs.length + 4 < 1353245080339) (hfs : ∀ f ∈ fs, 0 ≤ f.tl ∧ f.tl ≤ 1099511627776) (hr : s.rank ≤ vs.length) (hwb : s.waiting = true → s.begun = true) :
    Calls Tryz.prog 34 #[.pointer (some ⟨rb, 0, none⟩), .agg e.cells] W fun r W' => ∃ xs a c Or s', r = .returned (.tuple #[.slice a xs.length c, .int .i64 (pushE fs.length s e)]) ∧ Step B wb g rb N fv fs clock T hd W W' s s' (.slice a xs.length c) xs Or (vs ++ (pushS fs.length (mt fs) clock s e).1) ∧ s'.dat = (pushS fs.length (mt fs) clock s e).2 := by
  have A := (Below.refl W.heap.size W).alloc (Nat.le_refl _) (.cells e.cells 84)
  have eb := EBox.new W e
  have hlt := h.lt (H.tl hd)
  obtain ⟨qb, hqb⟩ : ∃ q, q = W.heap.size := ⟨_, rfl⟩
  have hqb' := hqb.symm
  have hqn : ¬ Its wb rb fv s qb := fun z => by have := hlt qb z; omega
  rw [← hqb] at eb
  obtain ⟨X, hX⟩ : ∃ X, X = W.alloc (.cells e.cells 84) := ⟨_, rfl⟩
  rw [← hX] at A eb
  have D4 : Below X.heap.size X X.drew := (Below.refl _ _).drew
  have A2 := A.trans (D4.mono A.size)
  have R2 := h.later (H.tl hd) A2
  have he2 : ∀ Z, Fr0 ⟨X.drew, B, Lst s⟩ wb rb Z → EntD.Ok Z e := fun Z hZ => he Z ⟨Nat.le_trans A2.size hZ.1, fun i hi h1 h2 h3 => (hZ.2 i (Nat.lt_of_lt_of_le hi A2.size) h1 h2 h3).trans (A2.block i hi)⟩
  have eb2 : EBox X.drew qb e := eb.later D4
  have HC1 : Hid (Calls Tryz.prog 73 #[.pointer (some ⟨rb, 0, none⟩), .agg e.cells] X.drew fun r W' => ∃ xs a c Or s', r = .returned (.tuple #[.slice a xs.length c, .int .i64 (pushE fs.length s e)]) ∧ (Step B wb g rb N fv fs clock T hd W W' s s' (.slice a xs.length c) xs Or (vs ++ (pushS fs.length (mt fs) clock s e).1) ∧ EBox W' qb e) ∧ s'.dat = (pushS fs.length (mt fs) clock s e).2) := by
    refine (spush_any H R2.wk he2 hv hfs hr hwb).mono ?_
    rintro r W' ⟨xs, a, c, Or, s', h1, h2, h3⟩
    have st := Step.of H R2 h2
    have sz : W.heap.size ≤ X.drew.heap.size := A2.size
    exact ⟨xs, a, c, Or, s', h1, ⟨⟨st.rest, st.rw_, fun i hi => ⟨Nat.le_trans sz (st.new i hi).1, (st.new i hi).2⟩, st.ap, fun i hi => (st.its i hi).imp id (Nat.le_trans sz), st.os.trans A2.os, st.tape.trans A2.tape, st.output.trans A2.output, Nat.le_trans sz st.size, fun i hi hn => (st.block i (Nat.lt_of_lt_of_le hi sz) hn).trans (A2.block i hi)⟩, st.box eb2 hqn⟩, h3⟩
  have z1 := EBox.cells7 eb2
  have HX := Lib.hid hX
  obtain ⟨E, hE⟩ : ∃ E, E = pushE fs.length s e := ⟨_, rfl⟩
  obtain ⟨D, hD⟩ : ∃ D, D = pushS fs.length (mt fs) clock s e := ⟨_, rfl⟩
  rw [← hE, ← hD] at HC1 ⊢
  unfold EntD.cells at HX HC1 ⊢
  clear H h he hv hfs hr hwb A eb hlt hX hqb hqn D4 A2 R2 he2 eb2 hE hD
  go_enter Tryz.func34, Tryz.ntmps34
  go_upto_region 1 with fail
  rw [← HX.out]
  (try rw [hqb'])
  clear HX hqb'
  go_region_held3 (fun Z => Z.cell? ⟨qb, 0, none⟩ = some e.vr ∧ Z.cell? ⟨qb, 1, none⟩ = some (.int .i64 e.fam) ∧ Z.cell? ⟨qb, 2, none⟩ = some e.vq ∧ Z.cell? ⟨qb, 3, none⟩ = some (.int .i64 e.ts) ∧ Z.cell? ⟨qb, 4, none⟩ = some (.int .i64 e.seq) ∧ Z.cell? ⟨qb, 5, none⟩ = some (.int .i64 e.kind) ∧ Z.cell? ⟨qb, 6, none⟩ = some e.vv) (first | exact EBox.cells7 k5.2 | exact z1) ((go_at_call 73; refine Calls.mono HC1.out ?_; rintro z X1 ⟨xs, a, c, Or, s1, rfl, k5, d5⟩))
  have HK := Lib.hid (And.intro k5.1 d5)
  clear k5 d5 z1 HC1
  go_wp2
  go_ret2
  exact ⟨xs, a, c, Or, s1, rfl, HK.out.1, HK.out.2⟩

set_option maxRecDepth 100000 in
set_option maxHeartbeats 4000000 in
theorem fEnd_any {T : List En → World → (Nat → Prop) → List Vd → Prop} (H : Hands g rb N (.pointer (some ⟨wb, 0, none⟩)) T) (h : Rest B wb g rb fv fs clock (T hd) W s vs) (hv : vs.length < 1353245080339) (hfs : ∀ f ∈ fs, 0 ≤ f.tl ∧ f.tl ≤ 1099511627776) (hr : s.rank ≤ vs.length) (hwb : s.waiting = true → s.begun = true) :
    Calls Tryz.prog 33 #[.pointer (some ⟨rb, 0, none⟩)] W fun r W' => ∃ xs a c Or, r = .returned (.slice a xs.length c) ∧ Step B wb g rb N fv fs clock T hd W W' s spZ (.slice a xs.length c) xs Or (vs ++ (resolveS (mt fs) clock s.dat 3).1) := by
  have HC1 : Hid (Calls Tryz.prog 72 #[.pointer (some ⟨rb, 0, none⟩)] W fun r W' => ∃ xs a c Or, r = .returned (.slice a xs.length c) ∧ Step B wb g rb N fv fs clock T hd W W' s spZ (.slice a xs.length c) xs Or (vs ++ (resolveS (mt fs) clock s.dat 3).1)) := by
    refine (send_any H h.wk hv hfs hr hwb).mono ?_
    rintro r W' ⟨xs, a, c, Or, h1, h2⟩
    exact ⟨xs, a, c, Or, h1, Step.of H h h2⟩
  clear H h hv hfs hr hwb
  go_enter Tryz.func33, Tryz.ntmps33
  go_wp2_with fail
  refine Calls.mono HC1.out ?_
  rintro z X1 ⟨xs, a, c, Or, rfl, k5⟩
  have HK := Lib.hid k5
  clear k5 HC1
  go_wp2
  go_ret
  exact ⟨xs, a, c, Or, rfl, HK.out⟩

end
end Go.Proofs.YthhkpkfpifllkaaGreat
