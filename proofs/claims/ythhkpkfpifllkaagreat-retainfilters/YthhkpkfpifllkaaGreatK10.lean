import Derived.Test.YthhkpkfpifllkaaGreatK09
namespace Go.Proofs.YthhkpkfpifllkaaGreat
open Go.RowKit
set_option linter.unusedVariables false

def firstBad (chk : EntD → Int) : List EntD → Int
  | [] => 0
  | e :: l => if chk e ≠ 0 then chk e else firstBad chk l
theorem firstBad_zero {chk : EntD → Int} {l : List EntD} (h : ∀ x ∈ l, chk x = 0) : firstBad chk l = 0 := by
  induction l with
  | nil => rfl
  | cons e l ih =>
    rw [firstBad, if_neg (by simpa using h e List.mem_cons_self)]
    exact ih (fun x hx => h x (List.mem_cons_of_mem _ hx))
theorem firstBad_at {chk : EntD → Int} {l r : List EntD} {e : EntD} (h : ∀ x ∈ l, chk x = 0) (he : chk e ≠ 0) : firstBad chk (l ++ e :: r) = chk e := by
  induction l with
  | nil => show firstBad chk (e :: r) = _; rw [firstBad, if_pos he]
  | cons x l ih =>
    show firstBad chk (x :: (l ++ e :: r)) = _
    rw [firstBad, if_neg (by simpa using h x List.mem_cons_self)]
    exact ih (fun y hy => h y (List.mem_cons_of_mem _ hy))
def inOrderE (chk : EntD → Int) (l : List EntD) : Int := if firstBad chk l ≠ 0 then firstBad chk l else if onceS l = none then 31 else 0
theorem seq_of_check {k : Nat} {e : EntD} (h : check3S k e = 0) : 0 ≤ e.seq ∧ e.seq ≤ 17592186044431 := by
  unfold check3S at h
  by_cases hc : checkS e = 0
  · unfold checkS at hc
    repeat' split at hc
    all_goals first | (exfalso; omega) | skip
    omega
  · rw [if_pos hc] at h
    omega

set_option maxRecDepth 100000 in
set_option maxHeartbeats 4000000 in
theorem inOrder_any {W : World} {wb k fc cap : Nat} {a fa : Option Addr} {clock : Int} {tv : Value} {s : SpD} {l : List EntD} (hb : WBx W wb (.slice fa k fc) clock tv s) (hr : RdL3 W a cap l) (hl : l.length ≤ 1353245080300)
    (HSort : ∀ Z a' c' xs, onceS l = some xs → Below W.heap.size W Z → Z.ownsRow W.heap.size 84 7 (.slice a' xs.length c') xs.length (evals xs) → Calls Tryz.prog 80 #[.slice a' xs.length c', .func (.func 81) #[] #[]] Z fun r Z' => r = .returned (.tuple #[]) ∧ ∃ ys : List EntD, ys.Perm xs ∧ (ys.Pairwise fun x y => compareS x y ≤ 0) ∧ Z'.ownsRow W.heap.size 84 7 (.slice a' xs.length c') xs.length (evals ys) ∧ Z.grownBy Z' (Value.slice a' xs.length c').ownBlock) :
    Calls Tryz.prog 47 #[.slice a l.length cap, .func (.func 94) #[.pointer (some ⟨wb, 0, none⟩)] #[]] W fun r W' => Below W.heap.size W W' ∧ (inOrderE (check3S k) l ≠ 0 → r = .returned (.tuple #[.slice none 0 0, .int .i64 (inOrderE (check3S k) l)])) ∧ (inOrderE (check3S k) l = 0 → ∃ xs ys a' c', onceS l = some xs ∧ ys.Perm xs ∧ (ys.Pairwise fun x y => compareS x y ≤ 0) ∧ r = .returned (.tuple #[.slice a' ys.length c', .int .i64 0]) ∧ W'.ownsRow W.heap.size 84 7 (.slice a' ys.length c') ys.length (evals ys)) := by
  obtain ⟨R, hR⟩ : ∃ R, R = inOrderE (check3S k) l := ⟨_, rfl⟩
  obtain ⟨N, hN⟩ : ∃ N, N = l.length := ⟨_, rfl⟩
  rw [← hN] at hl ⊢
  rw [← hR]
  have HRR := Lib.hid hR
  have HN := Lib.hid hN
  have HB := Lib.hid hb
  have HRd := Lib.hid hr
  have HSo := Lib.hid HSort
  clear hR hN hb hr HSort
  go_enter Tryz.func47, Tryz.ntmps47
  go_wp2
  go_loopw [13] (fun i wr => ∃ t : Nat, t ≤ N ∧ i = .int .i64 (t : Int) ∧ Hid (Below W.heap.size W wr) ∧ Hid (∀ x ∈ l.take t, check3S k x = 0)) (fun i _ => N - (intOf i).toNat)
  case atStart => exact ⟨0, Nat.zero_le _, rfl, Below.refl _ _, by unfold Hid; simp⟩
  case round =>
    obtain ⟨t, ht, rfl, HBw, HAll⟩ := hrel
    have t0 : (0 : Int) ≤ (t : Int) := by omega
    by_cases hlt : t < N
    · have hlt2 : (t : Int) < (N : Int) := by omega
      obtain ⟨e, he⟩ : ∃ e, l[t]? = some e := ⟨l[t]'(by rw [← HN.out]; exact hlt), List.getElem?_eq_getElem _⟩
      have hrd := HRd.out.later HBw.out
      have hok := hrd.ok e (List.mem_of_getElem? he)
      rcases hrd.at_ with h0 | ⟨b, off, rfl, hc⟩
      · rw [h0] at he; simp at he
      have d0 := hc t e he 0 e.vr rfl
      have d1 := hc t e he 1 (.int .i64 e.fam) rfl
      have d2 := hc t e he 2 e.vq rfl
      have d3 := hc t e he 3 (.int .i64 e.ts) rfl
      have d4 := hc t e he 4 (.int .i64 e.seq) rfl
      have d5 := hc t e he 5 (.int .i64 e.kind) rfl
      have d6 := hc t e he 6 e.vv rfl
      simp only [Nat.add_zero] at d0
      have A5 := (Below.refl wr.heap.size wr).alloc (Nat.le_refl _) (.cells e.cells 84)
      have B5 := HBw.out.trans (A5.mono HBw.out.size)
      have HCk := Lib.hid (check3_any ((HB.out.later HBw.out).later A5) (hok.later A5))
      obtain ⟨_, a1, n1, e1, -⟩ := hok.1
      obtain ⟨_, a2, n2, e2, -⟩ := hok.2.1
      obtain ⟨_, a3, n3, e3, -⟩ := hok.2.2
      have hXe : e.cells = #[.slice a1 e.row.length n1, .int .i64 e.fam, .slice a2 e.qual.length n2, .int .i64 e.ts, .int .i64 e.seq, .int .i64 e.kind, .slice a3 e.val.length n3] := by unfold EntD.cells; rw [e1, e2, e3]
      rw [e1] at d0
      rw [e2] at d2
      rw [e3] at d6
      rw [hXe] at HCk B5
      have HB5 := Lib.hid B5
      have HE := Lib.hid he
      obtain ⟨c, hc2⟩ : ∃ c, c = check3S k e := ⟨_, rfl⟩
      rw [← hc2] at HCk
      have HC2 := Lib.hid hc2
      clear hrd hok hc A5 B5 e1 e2 e3 hXe he hc2
      go_wp2_with fail
      refine Calls.mono HCk.out ?_
      rintro z X2 ⟨rfl, b2⟩
      have HB2 := Lib.hid (HB5.out.trans (b2.mono HB5.out.size))
      clear b2 d0 d1 d2 d3 d4 d5 d6 HCk HB5
      by_cases h0 : c = 0
      · have HAll2 : Hid (∀ x ∈ l.take (t + 1), check3S k x = 0) := by
          unfold Hid
          rw [List.take_add_one, HE.out]
          intro x hx
          rcases List.mem_append.1 hx with q | q
          · exact HAll.out x q
          · simp at q
            rw [q, ← HC2.out]; exact h0
        subst h0
        go_wp2
        go_roundw
        case rel => exact ⟨t + 1, by omega, by go_num, HB2, HAll2⟩
        case measure => simp only [intOf]; omega
      · have q : Hid (R = c ∧ R ≠ 0) := by
          have hd : l = l.take t ++ e :: l.drop (t + 1) := by
            have h1 := (List.getElem?_eq_some_iff.1 HE.out)
            rw [← h1.2, ← List.drop_eq_getElem_cons, List.take_append_drop]
          have hfb : firstBad (check3S k) l = c := by
            rw [hd, HC2.out]
            exact firstBad_at HAll.out (by rw [← HC2.out]; exact h0)
          have : R = c := by rw [HRR.out, inOrderE, if_pos (by rw [hfb]; exact h0), hfb]
          exact ⟨this, by rw [this]; exact h0⟩
        have b0 : (c != 0) = true := by simp [h0]
        clear h0
        go_wp2
        go_ret2
        exact ⟨HB2.out, fun _ => by rw [q.out.1]; rfl, fun z => absurd z q.out.2⟩
    · have hge : ¬ (t : Int) < (N : Int) := by omega
      have e : t = N := by omega
      have hall : ∀ x ∈ l, check3S k x = 0 := by have := HAll.out; rwa [e, HN.out, List.take_length] at this
      have HOn := Lib.hid (once_any (HRd.out.later HBw.out) (by rw [← HN.out]; omega) (fun x hx => seq_of_check (hall x hx)))
      have hRv : R = if onceS l = none then 31 else 0 := by rw [HRR.out, inOrderE, if_neg (by rw [firstBad_zero hall]; simp)]
      rw [← HN.out] at HOn
      have HRv := Lib.hid hRv
      clear hRv hall e
      go_wp2_with fail
      refine Calls.mono HOn.out ?_
      rintro z W2 ⟨b2, hnone, hsome⟩
      have HB2 := Lib.hid (HBw.out.trans (b2.mono HBw.out.size))
      clear HOn b2
      cases ho : onceS l with
      | none =>
        have hz := hnone ho
        subst hz
        have q : Hid (R = 31) := by unfold Hid; rw [HRv.out, if_pos ho]
        clear hnone hsome ho
        go_wp2
        go_ret2
        exact ⟨HB2.out, fun _ => by rw [q.out]; rfl, fun z => by have := q.out; omega⟩
      | some xs =>
        obtain ⟨a', c', hz, hrow⟩ := hsome xs ho
        subst hz
        have q : Hid (R = 0) := by unfold Hid; rw [HRv.out, if_neg (by rw [ho]; simp)]
        have hrow2 := row_low hrow HBw.out.size
        have HSc := Lib.hid (HSo.out W2 a' c' xs ho HB2.out hrow2)
        have HRw := Lib.hid hrow2
        have HOo := Lib.hid ho
        clear hnone hsome ho hrow hrow2
        go_wp2_with fail
        refine Calls.mono HSc.out ?_
        rintro z W3 ⟨rfl, ys, hp, hsrt, hrow3, hgr⟩
        have HF := Lib.hid (And.intro hp (And.intro hsrt (And.intro hrow3 hgr)))
        clear hp hsrt hrow3 hgr HSc
        go_wp2
        go_ret2
        obtain ⟨hp, hsrt, hrow3, hgr⟩ := HF.out
        have el := hp.length_eq
        refine ⟨HB2.out.grown hgr HB2.out.size (fun g hg => (HRw.out.lt g hg).1), fun z => absurd q.out z, fun _ => ⟨xs, ys, a', c', HOo.out, hp, hsrt, by rw [el]; rfl, by rw [el]; exact hrow3⟩⟩
end Go.Proofs.YthhkpkfpifllkaaGreat

namespace Go.Proofs.YthhkpkfpifllkaaGreat
open Go.RowKit
set_option linter.unusedVariables false

def SortP : Prop := ∀ (B : Nat) (Z : World) (a' : Option Addr) (c' : Nat) (xs : List EntD), (∀ x ∈ xs, EntD.Ok Z x) → xs.length ≤ 1353245080300 → B ≤ Z.heap.size → Z.ownsRow B 84 7 (.slice a' xs.length c') xs.length (evals xs) → Calls Tryz.prog 80 #[.slice a' xs.length c', .func (.func 81) #[] #[]] Z fun r Z' => r = .returned (.tuple #[]) ∧ ∃ ys : List EntD, ys.Perm xs ∧ (ys.Pairwise fun x y => compareS x y ≤ 0) ∧ Z'.ownsRow B 84 7 (.slice a' xs.length c') xs.length (evals ys) ∧ Z.grownBy Z' (Value.slice a' xs.length c').ownBlock
theorem Rd.heap {W Z : World} {x : Value} {bs : List Nat} (r : Rd W x bs) (h : ∀ i, i < W.heap.size → Z.heap[i]? = W.heap[i]?) : Rd Z x bs := by
  obtain ⟨h1, a, cap, rfl, h3, h4, h5, h6, h7⟩ := r
  refine ⟨h1, a, cap, rfl, h3, h4, h5, h6, ?_⟩
  rcases h7 with h7 | ⟨b, off, rfl, hc⟩
  · exact .inl h7
  · refine .inr ⟨b, off, rfl, fun i hi => ?_⟩
    have c := hc i hi
    have lt := World.block_lt_of_cell? W _ c
    simp only [World.cell?, h b lt] at c ⊢
    exact c
theorem EntD.heap {W Z : World} {e : EntD} (r : EntD.Ok W e) (h : ∀ i, i < W.heap.size → Z.heap[i]? = W.heap[i]?) : EntD.Ok Z e := ⟨r.1.heap h, r.2.1.heap h, r.2.2.heap h⟩
theorem once_len (l : List EntD) : ∀ (acc xs : List EntD), l.foldl (fun o e => o.bind fun xs => addO xs e) (some acc) = some xs → xs.length ≤ acc.length + l.length := by
  induction l with
  | nil => intro acc xs h; cases h; simp
  | cons e r ih =>
    intro acc xs h
    have h2 : r.foldl (fun o e => o.bind fun xs => addO xs e) (addO acc e) = some xs := h
    cases ha : addO acc e with
    | none => rw [ha, once_none] at h2; cases h2
    | some ys =>
      rw [ha] at h2
      have := ih ys xs h2
      have hy : ys.length ≤ acc.length + 1 := by
        unfold addO at ha
        split at ha
        · cases ha; simp
        · split at ha
          · cases ha; omega
          · cases ha
      rw [List.length_cons]
      omega
theorem onceS_len {l xs : List EntD} (h : onceS l = some xs) : xs.length ≤ l.length := by simpa using once_len l [] xs h
theorem firstBad_all {chk : EntD → Int} {l : List EntD} (h : firstBad chk l = 0) : ∀ x ∈ l, chk x = 0 := by
  induction l with
  | nil => simp
  | cons e l ih =>
    rw [firstBad] at h
    by_cases he : chk e = 0
    · rw [if_neg (by simpa using he)] at h
      intro x hx
      rcases List.mem_cons.1 hx with rfl | q
      · exact he
      · exact ih h x q
    · rw [if_pos he] at h
      exact absurd h he
theorem inOrder_ok {chk : EntD → Int} {l : List EntD} (h : inOrderE chk l = 0) : (∀ x ∈ l, chk x = 0) ∧ ∃ xs, onceS l = some xs := by
  unfold inOrderE at h
  by_cases hb : firstBad chk l = 0
  · rw [if_neg (by simpa using hb)] at h
    cases ho : onceS l with
    | none => rw [if_pos ho] at h; cases h
    | some xs => exact ⟨firstBad_all hb, xs, rfl⟩
  · rw [if_pos hb] at h
    exact absurd h hb
theorem over_all (SP : SortP) {W W0 : World} {wb g rb B cap fc : Nat} {a fa : Option Addr} {fs : List FamD} {clock : Int} {T : World → (Nat → Prop) → List Vd → Prop} {l : List EntD} (ht : Teller g rb T) (hb : WBx W wb (.slice fa fs.length fc) clock (.func (.func g) #[.pointer (some ⟨rb, 0, none⟩)] #[]) spZ) (hf : OwnF W B (.slice fa fs.length fc) fs.length fs) (hl8 : fs.length ≤ 8) (t : T W (fun i => i = rb) []) (hne : wb ≠ rb) (hr : ∃ cs ty, W.heap[rb]? = some (.cells cs ty (0, 0)) ∧ ty ≠ 132 ∧ ty ≠ 84) (hfs : ∀ f ∈ fs, 0 ≤ f.tl ∧ f.tl ≤ 1099511627776)
    (h0 : RdL3 W0 a cap l) (hB : Below W0.heap.size W0 W) (hw0 : W0.heap.size ≤ wb) (hr0 : W0.heap.size ≤ rb) (hl : l.length ≤ 1353245080300) :
    Calls Tryz.prog 60 #[.pointer (some ⟨wb, 0, none⟩), .slice a l.length cap] W fun r W' => r = .returned (.int .i64 (inOrderE (check3S fs.length) l)) ∧ (inOrderE (check3S fs.length) l ≠ 0 → Below W.heap.size W W') ∧ (inOrderE (check3S fs.length) l = 0 → ∃ (xs ys : List EntD) (W1 : World) (O : Nat → Prop), onceS l = some xs ∧ ys.Perm xs ∧ (ys.Pairwise fun x y => compareS x y ≤ 0) ∧ Below W.heap.size W W1 ∧ Wk W1 wb g rb (.slice fa fs.length fc) fs clock T W' O spZ (verdictsS (mt fs) clock (ys.map EntD.dat))) := by
  have hB2 : ∀ {Z : World}, Below W.heap.size W Z → Below W0.heap.size W0 Z := fun b => hB.trans (b.mono hB.size)
  have HI := inOrder_any (k := fs.length) hb (h0.later hB) hl (fun Z a' c' xs ho b row => SP W.heap.size Z a' c' xs (fun x hx => (h0.ok x (onceS_mem ho x hx)).later (hB2 b)) (Nat.le_trans (onceS_len ho) hl) b.size row)
  refine Calls.mono (over_any ht hb hf hl8 t hne hr hfs (inOrderE (check3S fs.length) l) (fun ys => ∃ xs, onceS l = some xs ∧ ys.Perm xs ∧ ys.Pairwise fun x y => compareS x y ≤ 0) (Calls.mono HI ?_) ?_) ?_
  · rintro r W' ⟨h1, h2, h3⟩
    refine ⟨h1, h2, fun z => ?_⟩
    obtain ⟨xs, ys, a', c', k1, k2, k3, k4, k5⟩ := h3 z
    exact ⟨ys, a', c', ⟨xs, k1, k2, k3⟩, k4, k5⟩
  · rintro z ys ⟨xs, k1, k2, k3⟩
    obtain ⟨hall, -⟩ := inOrder_ok z
    have hmem : ∀ y ∈ ys, y ∈ l := fun y hy => onceS_mem k1 y (k2.mem_iff.1 hy)
    refine ⟨fun y hy => ⟨fit_of_check (hall y (hmem y hy)), fun Z hZ => EntD.heap (h0.ok y (hmem y hy)) (fun i hi => ?_)⟩, by rw [k2.length_eq]; exact Nat.le_trans (onceS_len k1) hl⟩
    rw [hZ.2 i (Nat.lt_of_lt_of_le hi hB.size) (by omega) (by omega) (fun z => z)]
    exact hB.block i hi
  · rintro r W' ⟨h1, h2, h3⟩
    refine ⟨h1, h2, fun z => ?_⟩
    obtain ⟨ys, W1, O, ⟨xs, k1, k2, k3⟩, k4, k5⟩ := h3 z
    exact ⟨xs, ys, W1, O, k1, k2, k3, k4, k5⟩
end Go.Proofs.YthhkpkfpifllkaaGreat

namespace Go.Proofs.YthhkpkfpifllkaaGreat
open Go.RowKit
set_option linter.unusedVariables false

theorem va_of_check {k : Nat} {e : EntD} (h : check3S k e = 0) : Va e.dat := by
  unfold check3S at h
  by_cases hc : checkS e = 0
  · unfold checkS at hc
    repeat' split at hc
    all_goals first | (exfalso; omega) | skip
    have hq : ∀ l : List Nat, ¬ 0 < l.length → l = [] := fun l hl => List.eq_nil_of_length_eq_zero (by omega)
    refine ⟨?_, ?_, ?_, fun z => hq _ (fun y => ?_), fun z => hq _ (fun y => ?_)⟩
    · show 1 ≤ e.kind; omega
    · show e.kind ≤ 5; omega
    · show 1 ≤ e.ts; omega
    · have z : e.kind ≠ 1 := z
      have y : 0 < e.val.length := y
      omega
    · have z : e.kind = 5 := z
      have y : 0 < e.qual.length := y
      omega
  · rw [if_pos hc] at h
    omega
theorem mark_cases (k a : Int) : (mark k a : Int) = if k = a then 0 else 1 := by
  unfold mark
  split <;> rfl
theorem cmpI_le {a b : Int} (h : cmpI a b ≤ 0) : a ≤ b := by
  unfold cmpI at h
  repeat' split at h
  all_goals omega
theorem cmpI_zero3 {a b : Int} : cmpI a b = 0 ↔ a = b := by
  unfold cmpI
  repeat' split
  all_goals omega
theorem lex_le {a b : Int} (h : (if a = 0 then b else a) ≤ 0) : a ≤ 0 ∧ (a = 0 → b ≤ 0) := by
  by_cases z : a = 0
  · rw [if_pos z] at h; exact ⟨by omega, fun _ => h⟩
  · rw [if_neg z] at h; exact ⟨h, fun y => absurd y z⟩
theorem ah_of {x y : EntD} (h : compareS x y ≤ 0) (hne : x.seq ≠ y.seq) : Ah x.dat y.dat := by
  unfold compareS cmpsS at h
  simp only [firstNZ] at h
  obtain ⟨h1, h⟩ := lex_le h
  have r0 : x.row = y.row → ordC x.row y.row = 0 := fun e => by rw [e]; exact ordC_self _
  have q0 : x.qual = y.qual → ordC x.qual y.qual = 0 := fun e => by rw [e]; exact ordC_self _
  have a5 : (x.kind = 5 ↔ y.kind = 5) → aheadS x y 5 = 0 := fun e => by
    unfold aheadS
    rw [cmpI_zero3, mark_cases, mark_cases]
    split <;> split <;> omega
  have a4 : (x.kind = 4 ↔ y.kind = 4) → aheadS x y 4 = 0 := fun e => by
    unfold aheadS
    rw [cmpI_zero3, mark_cases, mark_cases]
    split <;> split <;> omega
  refine ⟨h1, fun e1 => ?_, fun e1 e2 e3 => ?_, fun e1 e2 e3 => ?_, fun e1 e2 e3 e4 e5 => ?_, fun e1 e2 e3 e4 e5 => ?_, fun e1 e2 e3 e4 e5 e6 => ?_⟩
  · exact cmpI_le (lex_le (h (r0 e1))).1
  · have := (lex_le ((lex_le (h (r0 e1))).2 (cmpI_zero3.2 e2))).1
    have := cmpI_le this
    rw [mark_cases, mark_cases] at this
    show x.kind = 5
    have e3 : y.kind = 5 := e3
    rw [if_pos e3] at this
    split at this
    · assumption
    · omega
  · exact (lex_le ((lex_le ((lex_le (h (r0 e1))).2 (cmpI_zero3.2 e2))).2 (a5 e3))).1
  · have := (lex_le ((lex_le ((lex_le ((lex_le (h (r0 e1))).2 (cmpI_zero3.2 e2))).2 (a5 e3))).2 (q0 e4))).1
    have := cmpI_le this
    rw [mark_cases, mark_cases] at this
    show x.kind = 4
    have e5 : y.kind = 4 := e5
    rw [if_pos e5] at this
    split at this
    · assumption
    · omega
  · exact cmpI_le (lex_le ((lex_le ((lex_le ((lex_le ((lex_le (h (r0 e1))).2 (cmpI_zero3.2 e2))).2 (a5 e3))).2 (q0 e4))).2 (a4 e5))).1
  · have := cmpI_le (lex_le ((lex_le ((lex_le ((lex_le ((lex_le ((lex_le (h (r0 e1))).2 (cmpI_zero3.2 e2))).2 (a5 e3))).2 (q0 e4))).2 (a4 e5))).2 (cmpI_zero3.2 e6.symm))).1
    show y.seq < x.seq
    omega
theorem ah_irrefl {a : En} (h : Ah a a) : False := by
  have := h.seq rfl rfl Iff.rfl rfl Iff.rfl rfl
  omega
theorem ah_asymm {a b : En} (h : Ah a b) (k : Ah b a) : False := by
  have r : a.row = b.row := by have := ordC_swap a.row b.row; have := h.row; have := k.row; exact ordC_eq _ _ (by omega)
  have f : a.fam = b.fam := by have := h.fam r; have := k.fam r.symm; omega
  have k5 : a.kind = 5 ↔ b.kind = 5 := ⟨k.k5 r.symm f.symm, h.k5 r f⟩
  have q : a.qual = b.qual := by have := ordC_swap a.qual b.qual; have := h.qual r f k5; have := k.qual r.symm f.symm k5.symm; exact ordC_eq _ _ (by omega)
  have k4 : a.kind = 4 ↔ b.kind = 4 := ⟨k.k4 r.symm f.symm k5.symm q.symm, h.k4 r f k5 q⟩
  have t : a.ts = b.ts := by have := h.ts r f k5 q k4; have := k.ts r.symm f.symm k5.symm q.symm k4.symm; omega
  have := h.seq r f k5 q k4 t
  have := k.seq r.symm f.symm k5.symm q.symm k4.symm t.symm
  omega
theorem ord_unique : ∀ {l l' : List En}, l.Pairwise Ah → l'.Pairwise Ah → (∀ e, e ∈ l ↔ e ∈ l') → l = l'
  | [], [], _, _, _ => rfl
  | [], b :: t', _, _, h => by have := (h b).2 List.mem_cons_self; cases this
  | a :: t, [], _, _, h => by have := (h a).1 List.mem_cons_self; cases this
  | a :: t, b :: t', hl, hl', h => by
    have p := List.pairwise_cons.1 hl
    have p' := List.pairwise_cons.1 hl'
    have e : a = b := by
      rcases List.mem_cons.1 ((h a).1 List.mem_cons_self) with e | m1
      · exact e
      · rcases List.mem_cons.1 ((h b).2 List.mem_cons_self) with e | m2
        · exact e.symm
        · exact (ah_asymm (p.1 b m2) (p'.1 a m1)).elim
    subst e
    congr 1
    refine ord_unique p.2 p'.2 fun x => ⟨fun hx => ?_, fun hx => ?_⟩
    · rcases List.mem_cons.1 ((h x).1 (List.mem_cons_of_mem _ hx)) with rfl | q
      · exact (ah_irrefl (p.1 x hx)).elim
      · exact q
    · rcases List.mem_cons.1 ((h x).2 (List.mem_cons_of_mem _ hx)) with rfl | q
      · exact (ah_irrefl (p'.1 x hx)).elim
      · exact q
def EntD.ofEn (e : En) : EntD := ⟨.slice none 0 0, e.fam, .slice none 0 0, e.ts, e.seq, e.kind, .slice none 0 0, e.row, e.qual, e.val⟩
theorem check_dat (k : Nat) (x : EntD) : check3S k x = check3S k (EntD.ofEn x.dat) := rfl
structure IsOrd (k : Nat) (l m : List En) : Prop where
  ah : m.Pairwise Ah
  ne : m.Pairwise fun a b => a.seq ≠ b.seq
  va : ∀ e ∈ m, Va e
  ck : ∀ e ∈ m, check3S k (EntD.ofEn e) = 0
  mem : ∀ e, e ∈ m ↔ e ∈ l
theorem IsOrd.unique {k k' : Nat} {l m m' : List En} (h : IsOrd k l m) (h' : IsOrd k' l m') : m = m' := ord_unique h.ah h'.ah fun e => (h.mem e).trans (h'.mem e).symm
theorem sameS_dat {a b : EntD} (h : sameS a b = true) : a.dat = b.dat := by
  unfold sameS at h
  simp only [Bool.and_eq_true, decide_eq_true_eq] at h
  obtain ⟨h1, h2⟩ := h
  unfold compareS cmpsS at h1
  simp only [firstNZ] at h1
  have z : ∀ {a b : Int}, (if a = 0 then b else a) = 0 → a = 0 ∧ b = 0 := fun {a b} e => by
    by_cases y : a = 0
    · rw [if_pos y] at e; exact ⟨y, e⟩
    · rw [if_neg y] at e; exact absurd e y
  obtain ⟨z1, h1⟩ := z h1
  obtain ⟨z2, h1⟩ := z h1
  obtain ⟨z3, h1⟩ := z h1
  obtain ⟨z4, h1⟩ := z h1
  obtain ⟨z5, h1⟩ := z h1
  obtain ⟨z6, h1⟩ := z h1
  obtain ⟨z7, h1⟩ := z h1
  obtain ⟨z8, h1⟩ := z h1
  unfold EntD.dat
  rw [ordC_eq _ _ z1, cmpI_zero3.1 z2, ordC_eq _ _ z4, ← cmpI_zero3.1 z6, ← cmpI_zero3.1 z7, cmpI_zero3.1 z8, h2]
theorem sameS_of {a b : EntD} (h : a.dat = b.dat) : sameS a b = true := by
  have e := EntD.dat_same.1 h
  have : compareS a b = 0 := by rw [compareS_same (c := b) (d := b) e (EntD.dat_same.1 rfl)]; exact compareS_self b
  unfold sameS
  rw [this, e.2.2.2.2.2.2]
  simp
theorem once_all (l : List EntD) : ∀ (acc xs : List EntD), (acc.Pairwise fun a b => a.seq ≠ b.seq) → l.foldl (fun o e => o.bind fun xs => addO xs e) (some acc) = some xs → (xs.Pairwise fun a b => a.seq ≠ b.seq) ∧ ∀ d, d ∈ xs.map EntD.dat ↔ d ∈ (acc ++ l).map EntD.dat := by
  induction l with
  | nil => intro acc xs hp h; cases h; exact ⟨hp, fun d => by rw [List.append_nil]⟩
  | cons e r ih =>
    intro acc xs hp h
    have h2 : r.foldl (fun o e => o.bind fun xs => addO xs e) (addO acc e) = some xs := h
    cases hf : acc.find? (fun x => x.seq == e.seq) with
    | none =>
      have ha : addO acc e = some (acc ++ [e]) := by unfold addO; rw [hf]
      rw [ha] at h2
      have hn := List.find?_eq_none.1 hf
      have := ih (acc ++ [e]) xs (List.pairwise_append.2 ⟨hp, List.pairwise_singleton _ _, fun x hx y hy => by
        rw [List.mem_singleton] at hy
        subst hy
        have := hn x hx
        simpa using this⟩) h2
      refine ⟨this.1, fun d => ?_⟩
      rw [this.2 d, List.append_assoc]
      rfl
    | some x =>
      have ha : addO acc e = if sameS x e then some acc else none := addO_old hf
      rw [ha] at h2
      cases hs : sameS x e with
      | false => rw [hs] at h2; rw [if_neg (by simp), once_none] at h2; cases h2
      | true =>
        rw [hs, if_pos rfl] at h2
        have := ih acc xs hp h2
        refine ⟨this.1, fun d => ?_⟩
        rw [this.2 d, List.map_append, List.map_append, List.map_cons, List.mem_append, List.mem_append, List.mem_cons]
        have xd := sameS_dat hs
        have xm : x ∈ acc := List.mem_of_find?_eq_some hf
        constructor
        · rintro (q | q)
          · exact .inl q
          · exact .inr (.inr q)
        · rintro (q | q | q)
          · exact .inl q
          · exact .inl (by rw [q, ← xd]; exact List.mem_map_of_mem xm)
          · exact .inr q
theorem isOrd_of {k : Nat} {l xs ys : List EntD} (hc : inOrderE (check3S k) l = 0) (ho : onceS l = some xs) (hp : ys.Perm xs) (hs : ys.Pairwise fun x y => compareS x y ≤ 0) : IsOrd k (l.map EntD.dat) (ys.map EntD.dat) := by
  obtain ⟨hall, -⟩ := inOrder_ok hc
  obtain ⟨h1, h2⟩ := once_all l [] xs List.Pairwise.nil ho
  have hne : ys.Pairwise fun a b => a.seq ≠ b.seq := (hp.pairwise_iff (fun h => Ne.symm h)).2 h1
  have hmem : ∀ y ∈ ys, y ∈ l := fun y hy => onceS_mem ho y (hp.mem_iff.1 hy)
  refine ⟨?_, ?_, fun e he => ?_, fun e he => ?_, fun e => ?_⟩
  · rw [List.pairwise_map]
    exact (hs.and hne).imp fun h => ah_of h.1 h.2
  · rw [List.pairwise_map]; exact hne
  · obtain ⟨y, hy, rfl⟩ := List.mem_map.1 he
    exact va_of_check (hall y (hmem y hy))
  · obtain ⟨y, hy, rfl⟩ := List.mem_map.1 he
    exact hall y (hmem y hy)
  · rw [(hp.map EntD.dat).mem_iff]
    exact h2 e
theorem once_self (l : List EntD) : ∀ (acc : List EntD), ((acc ++ l).Pairwise fun a b => a.seq ≠ b.seq) → l.foldl (fun o e => o.bind fun xs => addO xs e) (some acc) = some (acc ++ l) := by
  induction l with
  | nil => intro acc _; rw [List.append_nil]; rfl
  | cons e r ih =>
    intro acc hp
    show r.foldl (fun o e => o.bind fun xs => addO xs e) (addO acc e) = _
    have hf : acc.find? (fun x => x.seq == e.seq) = none := List.find?_eq_none.2 fun x hx => by
      have := (List.pairwise_append.1 hp).2.2 x hx e List.mem_cons_self
      simpa using this
    have ha : addO acc e = some (acc ++ [e]) := by unfold addO; rw [hf]
    rw [ha, ih (acc ++ [e]) (by rw [List.append_assoc]; exact hp), List.append_assoc]
    rfl
theorem check_zero {k : Nat} {e : EntD} : check3S k e = 0 ↔ (¬ (e.row.length = 0 ∨ 256 < e.row.length) ∧ ¬ (e.fam < 0 ∨ 8 ≤ e.fam) ∧ ¬ (256 < e.qual.length ∨ (0 < e.qual.length ∧ e.kind = 5)) ∧ ¬ (e.ts < 1 ∨ 1099511627776 < e.ts) ∧ ¬ (e.seq < 0 ∨ 17592186044431 < e.seq) ∧ ¬ (e.kind < 1 ∨ 5 < e.kind) ∧ ¬ (4096 < e.val.length ∨ (0 < e.val.length ∧ e.kind ≠ 1))) ∧ ¬ (k : Int) ≤ e.fam := by
  constructor
  · intro h
    unfold check3S at h
    by_cases z : checkS e = 0
    · rw [if_neg (by simpa using z)] at h
      refine ⟨?_, fun y => by rw [if_pos y] at h; cases h⟩
      unfold checkS at z
      repeat' split at z
      all_goals first | (exfalso; omega) | skip
      refine ⟨by assumption, by assumption, by assumption, by assumption, by assumption, by assumption, by assumption⟩
    · rw [if_pos z] at h; omega
  · rintro ⟨⟨h1, h2, h3, h4, h5, h6, h7⟩, h8⟩
    have z : checkS e = 0 := by unfold checkS; rw [if_neg h1, if_neg h2, if_neg h3, if_neg h4, if_neg h5, if_neg h6, if_neg h7]
    unfold check3S
    rw [if_neg (by simpa using z), if_neg h8]
end Go.Proofs.YthhkpkfpifllkaaGreat

namespace Go.Proofs.YthhkpkfpifllkaaGreat
open Go.RowKit
set_option linter.unusedVariables false

def shw (tm : Int) (v : Vd) : Bool := decide (v.fate = 5 ∧ v.e.kind = 1 ∧ v.e.ts ≤ tm)
structure SI (tm : Int) (vs : List Vd) (s : Sp) : Prop where
  c : 1 ≤ s.rank → 0 ≤ (showS tm 16 vs).1 ∧ (showS tm 16 vs).1 ≤ s.rank
  r : 0 ≤ s.rank
  out : (showS tm 16 vs).2 = (vs.filter (shw tm)).map Vd.e
section
variable {fs : List (Int × Int)} {clock tm : Int} {vs : List Vd} {s : Sp}
end
end Go.Proofs.YthhkpkfpifllkaaGreat

namespace Go.Proofs.YthhkpkfpifllkaaGreat
open Go.RowKit
set_option linter.unusedVariables false

section
variable {fs : List (Int × Int)} {clock low : Int} {m : List En}
end
end Go.Proofs.YthhkpkfpifllkaaGreat

namespace Go.Proofs.YthhkpkfpifllkaaGreat
open Go.RowKit
set_option linter.unusedVariables false

def hk (x : En) : En := if x.kind = 3 then { x with kind := 2 } else x
theorem hk_eq (x : En) : (hk x).row = x.row ∧ (hk x).fam = x.fam ∧ (hk x).qual = x.qual ∧ (hk x).ts = x.ts ∧ (hk x).seq = x.seq ∧ (hk x).val = x.val ∧ (x.kind = 3 ∧ (hk x).kind = 2 ∨ x.kind ≠ 3 ∧ (hk x).kind = x.kind) := by
  unfold hk
  split
  · rename_i h; exact ⟨rfl, rfl, rfl, rfl, rfl, rfl, .inl ⟨h, rfl⟩⟩
  · rename_i h; exact ⟨rfl, rfl, rfl, rfl, rfl, rfl, .inr ⟨h, rfl⟩⟩
theorem gpE_self {x : En} (h : x.kind ≤ 3) : gpE x x = true := gpE_iff.2 ⟨h, h, rfl, rfl, rfl, rfl⟩
section
variable {fs : List (Int × Int)} {clock : Int}
theorem kd_put {m : List En} {x : En} (hx : x ∈ m) (h3 : x.kind ≤ 3) : kd m x ≠ 3 ↔ hasPut m x = true := by
  unfold kd
  by_cases k : x.kind = 3
  · cases h : hasPut m x with
    | true => simp [k]
    | false => simp [k]
  · have : hasPut m x = true := hasPut_iff.2 ⟨x, hx, gpE_self h3, k⟩
    simp [k, this]
theorem kd_hk {m : List En} {x : En} (hp : hasPut m x = true) : { x with kind := kd m x } = hk x := by
  unfold kd hk
  by_cases k : x.kind = 3
  · simp [k, hp]
  · simp [k]
theorem tld_hk {m : List En} {x : En} (h3 : x.kind ≤ 3) (hd : decidesS m x = true) (hp : hasPut m x = true) : tld m x = hk x := by
  rw [tld_ver h3 hd, kd_hk hp]
theorem counts_put {m : List En} {x : En} (hx : x ∈ m) : counts fs clock m x = true ↔ x.kind ≤ 3 ∧ decidesS m x = true ∧ hasPut m x = true ∧ maskOf m x < x.ts ∧ expS fs clock x = false := by
  rw [counts_iff]
  constructor
  · rintro ⟨h3, hd, k, r⟩; exact ⟨h3, hd, (kd_put hx h3).1 k, r⟩
  · rintro ⟨h3, hd, k, r⟩; exact ⟨h3, hd, (kd_put hx h3).2 k, r⟩
def Gp (m : List En) (x : En) (t : Int) : Prop := ∃ y ∈ m, y.kind ≤ 2 ∧ mates y x = true ∧ y.ts = t
def ups (fs : List (Int × Int)) (clock : Int) (m : List En) (x : En) : List Int := (m.filter fun y => counts fs clock m y && mates y x && decide (x.ts < y.ts)).map En.ts
def Full (fs : List (Int × Int)) (r : List En) (x : En) : Prop := ∃ ts : List Int, ts.Nodup ∧ (famAt fs x.fam).1 ≤ (ts.length : Int) ∧ ∀ t ∈ ts, x.ts < t ∧ Gp r x t
structure Wk5 (fs : List (Int × Int)) (clock : Int) (m r : List En) : Prop where
  frm : ∀ y ∈ r, y.kind ≤ 3 → ∃ x ∈ m, gpE x y = true ∧ (y.kind ≤ 2 → hasPut m x = true)
  mask : ∀ x, maskOf r x ≤ maskOf m x
  maskb : ∀ y ∈ r, y.kind ≤ 3 → maskOf r y < y.ts → maskOf m y < y.ts
  alt : ∀ x ∈ m, x.kind ≤ 3 → decidesS m x = true → hasPut m x = true → maskOf m x < x.ts → expS fs clock x = false → (∃ y ∈ r, hk y = hk x ∧ y.kind ≤ 3 ∧ decidesS r y = true ∧ hasPut r y = true) ∨ Full fs r x
def fiveL (fs : List (Int × Int)) (clock : Int) (m : List En) : List En := (m.filter fun x => decide ((sv fs clock m x).fate = 5)).map (tld m)
end
end Go.Proofs.YthhkpkfpifllkaaGreat

namespace Go.Proofs.YthhkpkfpifllkaaGreat
open Go.RowKit
set_option linter.unusedVariables false

section
variable {fs : List (Int × Int)} {clock : Int}
structure Red (fs : List (Int × Int)) (clock : Int) (m r : List En) : Prop where
  frm : ∀ y ∈ r, y.kind ≤ 3 → ∃ x ∈ m, gpE x y = true ∧ x.seq = y.seq ∧ (y.kind ≤ 2 → hasPut m x = true)
  marks : ∀ y ∈ r, 4 ≤ y.kind → y ∈ m
  top : ∀ x ∈ m, 4 ≤ x.kind → shadow m x = false → x ∈ r
  alt : ∀ x ∈ m, x.kind ≤ 3 → decidesS m x = true → maskOf m x < x.ts → expS fs clock x = false → (∃ y ∈ r, hk y = hk x ∧ y.kind ≤ 3 ∧ (hasPut m x = true → hasPut r y = true)) ∨ Full fs r x
end
end Go.Proofs.YthhkpkfpifllkaaGreat

namespace Go.Proofs.YthhkpkfpifllkaaGreat
open Go.RowKit
set_option linter.unusedVariables false

section
variable {fs : List (Int × Int)} {clock : Int}
def rankIn (E : List En) (e : En) : Int := ((E.filter fun y => mates y e && decide (e.ts < y.ts)).length : Int) + 1
def isFive (v : Vd) : Bool := decide (v.fate = 5)
end
end Go.Proofs.YthhkpkfpifllkaaGreat

namespace Go.Proofs.YthhkpkfpifllkaaGreat
open Go.RowKit
set_option linter.unusedVariables false

section
variable {fs : List (Int × Int)} {c d : Int}
end
end Go.Proofs.YthhkpkfpifllkaaGreat

namespace Go.Proofs.YthhkpkfpifllkaaGreat
open Go.RowKit
set_option linter.unusedVariables false

theorem maskOf_snoc (p : List En) (x e : En) : maskOf (p ++ [x]) e = if cover x e then max (maskOf p e) x.ts else maskOf p e := by
  have nn := maskOf_nn p e
  induction p with
  | nil => simp only [List.nil_append, maskOf_cons]; unfold maskOf; simp only [List.foldr_nil]; split <;> omega
  | cons y p ih =>
    rw [List.cons_append, maskOf_cons, maskOf_cons, ih (maskOf_nn p e)]
    repeat' split
    all_goals omega
def gv (x e : En) : Bool := decide (x.kind ≤ 3) && decide (x.ts = e.ts) && mates x e
theorem gv_gp {x e : En} (h3 : e.kind ≤ 3) : gv x e = gpE x e := by
  rw [Bool.eq_iff_iff, gpE_iff]
  unfold gv
  simp only [Bool.and_eq_true, decide_eq_true_eq, mates_iff]
  exact ⟨fun ⟨⟨a, b⟩, c⟩ => ⟨a, h3, c.1, c.2.1, c.2.2, b⟩, fun ⟨a, _, b, c, d, e⟩ => ⟨⟨a, e⟩, b, c, d⟩⟩
def gputs (m : List En) (e : En) : Nat := (m.filter fun x => gv x e && decide (x.kind ≠ 3)).length
theorem gputs_snoc (p : List En) (x e : En) : gputs (p ++ [x]) e = if gv x e = true ∧ x.kind ≠ 3 then gputs p e + 1 else gputs p e := by
  unfold gputs
  rw [List.filter_append, List.length_append]
  by_cases h : gv x e = true ∧ x.kind ≠ 3
  · rw [if_pos h]; simp [h.1, h.2]
  · rw [if_neg h]
    have : (gv x e && decide (x.kind ≠ 3)) = false := by
      cases g : gv x e with
      | false => rfl
      | true => simp only [Bool.true_and, decide_eq_false_iff_not]; exact fun z => h ⟨g, z⟩
    simp only [List.filter_cons, this, List.filter_nil]
    simp
theorem gputs_pos {m : List En} {e : En} (h3 : e.kind ≤ 3) : 0 < gputs m e ↔ hasPut m e = true := by
  unfold gputs
  rw [List.length_pos_iff_exists_mem, hasPut_iff]
  constructor
  · rintro ⟨x, hx⟩
    obtain ⟨a, b⟩ := List.mem_filter.1 hx
    simp only [Bool.and_eq_true, decide_eq_true_eq] at b
    exact ⟨x, a, by rw [← gv_gp h3]; exact b.1, b.2⟩
  · rintro ⟨x, hx, g, k⟩
    exact ⟨x, List.mem_filter.2 ⟨hx, by simp only [Bool.and_eq_true, decide_eq_true_eq]; exact ⟨by rw [gv_gp h3]; exact g, k⟩⟩⟩
structure Bst (p : List En) (e b : En) : Prop where
  at_ : b = e ∨ (b ∈ p ∧ gv b e = true)
  low : e.seq ≤ b.seq
  all : ∀ x ∈ p, gv x e = true → x.seq ≤ b.seq
theorem Bst.nil (e : En) : Bst [] e e := ⟨.inl rfl, Int.le_refl _, fun x hx => by cases hx⟩
theorem Bst.keep {p : List En} {e b x : En} (h : Bst p e b) (hx : gv x e = true → x.seq ≤ b.seq) : Bst (p ++ [x]) e b := by
  refine ⟨?_, h.low, fun y hy g => ?_⟩
  · rcases h.at_ with z | ⟨z, g⟩
    · exact .inl z
    · exact .inr ⟨List.mem_append_left _ z, g⟩
  · rcases List.mem_append.1 hy with q | q
    · exact h.all y q g
    · rw [List.mem_singleton] at q
      subst q
      exact hx g
theorem Bst.next {p : List En} {e b x : En} (h : Bst p e b) (g : gv x e = true) (hx : b.seq < x.seq) : Bst (p ++ [x]) e x := by
  refine ⟨.inr ⟨by simp, g⟩, by have := h.low; omega, fun y hy gy => ?_⟩
  rcases List.mem_append.1 hy with q | q
  · have := h.all y q gy; omega
  · rw [List.mem_singleton] at q
    subst q
    exact Int.le_refl _
def gkind (b : En) (n : Nat) : Int := if b.kind = 3 then (if 0 < n then 2 else 0) else b.kind
theorem Bst.dec {m : List En} {e b : En} (h : Bst m e b) (h3 : e.kind ≤ 3) (he : e ∈ m) : (b.seq == e.seq) = decidesS m e := by
  rw [Bool.eq_iff_iff, beq_iff_eq, decides_iff]
  constructor
  · intro z x hx g
    have := h.all x hx (by rw [gv_gp h3]; exact g)
    omega
  · intro z
    have hl := h.low
    rcases h.at_ with q | ⟨q, g⟩
    · rw [q]
    · have := z b q (by rw [← gv_gp h3]; exact g)
      omega
theorem Bst.mem {m : List En} {e b : En} (h : Bst m e b) (he : e ∈ m) (h3 : e.kind ≤ 3) : b ∈ m ∧ gpE b e = true := by
  rcases h.at_ with q | ⟨q, g⟩
  · subst q; exact ⟨he, gpE_self h3⟩
  · exact ⟨q, by rw [← gv_gp h3]; exact g⟩
theorem Bst.zero {m : List En} {e b : En} (h : Bst m e b) (hv : ∀ e ∈ m, Va e) (h3 : e.kind ≤ 3) (he : e ∈ m) : gkind b (gputs m e) = 0 ↔ hasPut m e = false := by
  obtain ⟨bm, g⟩ := h.mem he h3
  have k1 := (hv b bm).k1
  unfold gkind
  cases hp : hasPut m e with
  | true =>
    have := (gputs_pos h3).2 hp
    split
    · simp
    · simp; omega
  | false =>
    have n0 : ¬ 0 < gputs m e := fun z => by rw [(gputs_pos h3).1 z] at hp; cases hp
    have b3 : b.kind = 3 := by
      by_cases z : b.kind = 3
      · exact z
      · rw [hasPut_iff.2 ⟨b, bm, g, z⟩] at hp; cases hp
    simp [b3, n0]
theorem Bst.kind {m : List En} {e b : En} (h : Bst m e b) (hn : m.Pairwise fun a b => a.seq ≠ b.seq) (hv : ∀ e ∈ m, Va e) (h3 : e.kind ≤ 3) (he : e ∈ m) (hd : decidesS m e = true) (hp : hasPut m e = true) (pe : ∀ {x y : En}, x ∈ m → y ∈ m → x.seq = y.seq → x = y) : gkind b (gputs m e) = (hk e).kind := by
  have hs : b.seq = e.seq := by have := h.dec h3 he; rw [hd] at this; simpa using this
  obtain ⟨bm, g⟩ := h.mem he h3
  have e1 := pe bm he hs
  subst e1
  have n0 := (gputs_pos h3).2 hp
  unfold gkind hk
  by_cases z : b.kind = 3
  · simp [z, n0]
  · simp [z]
section
variable {fs : List (Int × Int)} {clock : Int}
def ranks (fs : List (Int × Int)) (clock : Int) (m : List En) (e x : En) : Bool := decide (x.kind ≤ 3) && decide (e.ts < x.ts) && mates x e && hasPut m x && decidesS m x && (decide (maskOf m x < x.ts) && !expS fs clock x)
theorem ranks_above {m : List En} {e : En} : ((m.filter (ranks fs clock m e)).length : Int) = above fs clock m e := by
  unfold above
  congr 2
  apply List.filter_congr
  intro x hx
  rw [Bool.eq_iff_iff]
  unfold ranks
  simp only [Bool.and_eq_true, decide_eq_true_eq, Bool.not_eq_true', counts_put hx]
  constructor
  · rintro ⟨⟨⟨⟨⟨a, b⟩, c⟩, d⟩, f⟩, g, h⟩
    exact ⟨⟨⟨a, f, d, g, h⟩, c⟩, b⟩
  · rintro ⟨⟨⟨a, f, d, g, h⟩, c⟩, b⟩
    exact ⟨⟨⟨⟨⟨a, b⟩, c⟩, d⟩, f⟩, g, h⟩
def visB (fs : List (Int × Int)) (clock : Int) (m : List En) (x : En) : Bool := decide (x.kind = 1) && (decidesS m x && (decide (maskOf m x < x.ts) && !expS fs clock x) && decide (above fs clock m x + 1 ≤ (famAt fs x.fam).1))
def topR (fs : List (Int × Int)) (clock : Int) (m p : List En) : Int := p.foldl (fun t x => if (x.kind ≤ 3 ∧ hasPut m x = true ∧ maskOf m x < x.ts ∧ expS fs clock x = false) ∧ t < x.ts then x.ts else t) 0
def fateR (fs : List (Int × Int)) (clock : Int) (major : Bool) (low : Int) (m : List En) (e : En) : Option En :=
  if 4 ≤ e.kind then (if shadow m e || (major && decide (e.ts ≤ low)) then none else some e)
  else if decidesS m e = false then none
  else if e.ts ≤ maskOf m e then none
  else if expS fs clock e then none
  else if hasPut m e = false then (if major then none else some e)
  else if (famAt fs e.fam).1 < above fs clock m e + 1 then none
  else some (hk e)
theorem squash_ref {m : List En} {major : Bool} {low : Int} : leftL fs clock m major low = m.filterMap (fateR fs clock major low m) := by
  unfold leftL
  have key : ∀ p : List En, (∀ x ∈ p, x ∈ m) → (p.filter fun x => staysS major low (sv fs clock m x)).map (tld m) = p.filterMap (fateR fs clock major low m) := by
    intro p
    induction p with
    | nil => intro _; rfl
    | cons x p ih =>
      intro hp
      have ih := ih (fun y hy => hp y (List.mem_cons_of_mem _ hy))
      have hx := hp x List.mem_cons_self
      have one : (staysS major low (sv fs clock m x) = true → fateR fs clock major low m x = some (tld m x)) ∧ (staysS major low (sv fs clock m x) = false → fateR fs clock major low m x = none) := by
        unfold fateR
        by_cases k : 4 ≤ x.kind
        · rw [if_pos k, sv_mark k]
          have et : tld m x = x := by unfold tld; rw [if_pos k]
          rw [et]
          cases sh : shadow m x with
          | true => simp [staysS]
          | false =>
            cases major with
            | false => simp [staysS]
            | true =>
              by_cases z : x.ts ≤ low
              · have : ¬ low < x.ts := by omega
                simp [staysS, z, this]
              · have : low < x.ts := by omega
                simp [staysS, z, this]
        · rw [if_neg k]
          have k3 : x.kind ≤ 3 := by omega
          cases hd : decidesS m x with
          | false =>
            have : sv fs clock m x = ⟨x, 1, 0⟩ := sv_not k3 hd
            rw [this]
            simp [staysS]
          | true =>
            rw [if_neg (by simp)]
            by_cases hm : x.ts ≤ maskOf m x
            · rw [if_pos hm]
              have : staysS major low (sv fs clock m x) = false := by
                cases z : staysS major low (sv fs clock m x) with
                | false => rfl
                | true => have := (stays_ver k3 z).2.1; omega
              simp [this]
            · rw [if_neg hm]
              cases he : expS fs clock x with
              | true =>
                have : staysS major low (sv fs clock m x) = false := by
                  cases z : staysS major low (sv fs clock m x) with
                  | false => rfl
                  | true => have := (stays_ver k3 z).2.2.1; rw [he] at this; cases this
                simp [this]
              | false =>
                rw [if_neg (by simp)]
                rw [sv_ver k3 hd (by omega) he]
                cases hpt : hasPut m x with
                | false =>
                  have kk : kd m x = 3 := by
                    by_cases z : kd m x = 3
                    · exact z
                    · rw [(kd_put hx k3).1 z] at hpt; cases hpt
                  have et : tld m x = x := by
                    rw [tld_ver k3 hd]
                    unfold kd at kk ⊢
                    simp only [hpt] at kk ⊢
                    simp
                  rw [if_pos rfl, if_pos kk, et]
                  cases major <;> simp [staysS]
                | true =>
                  rw [if_neg ((kd_put hx k3).2 hpt), if_neg (show ¬ (true = false) by simp), tld_hk k3 hd hpt]
                  by_cases z : (famAt fs x.fam).1 < above fs clock m x + 1
                  · simp [staysS, z]
                  · simp [staysS, z]
      cases hst : staysS major low (sv fs clock m x) with
      | true => rw [List.filter_cons_of_pos (by simpa using hst), List.map_cons, ih, List.filterMap_cons, one.1 hst]
      | false => rw [List.filter_cons_of_neg (by simp [hst]), ih, List.filterMap_cons, one.2 hst]
  exact key m (fun x hx => hx)
end
end Go.Proofs.YthhkpkfpifllkaaGreat

namespace Go.Proofs.YthhkpkfpifllkaaGreat
open Go.RowKit
set_option linter.unusedVariables false

section
variable {fs : List (Int × Int)} {clock : Int}
def readR (t n : Int) (v : List En) : List En := v.foldl (fun r e => if e.ts ≤ t ∧ ((r.filter fun y => mates y e).length : Int) < n then r ++ [e] else r) []
structure RI (t n : Int) (E P : List En) : Prop where
  out : (showS t n (P.map fun e => ⟨e, 5, rankIn E e⟩)).2 = readR t n (P.filter fun e => decide (e.kind = 1))
  cnt : ∀ l, P.getLast? = some l → (showS t n (P.map fun e => ⟨e, 5, rankIn E e⟩)).1 = (((showS t n (P.map fun e => ⟨e, 5, rankIn E e⟩)).2.filter fun y => mates y l).length : Int)
  le : (showS t n (P.map fun e => ⟨e, 5, rankIn E e⟩)).1 ≤ n
end
end Go.Proofs.YthhkpkfpifllkaaGreat

namespace Go.Proofs.YthhkpkfpifllkaaGreat
open Go.RowKit
set_option linter.unusedVariables false

def ovr (x e : En) : Bool := (decide (x.kind = 5) && decide (x.fam = e.fam) && decide (x.row = e.row)) || (decide (x.kind = e.kind) && mates x e)
def upT (x e : En) : Bool := decide (e.ts < x.ts) || (decide (x.ts = e.ts) && (decide (e.kind < x.kind) || decide (e.seq < x.seq)))
theorem ovr_cover {x e : En} (h4 : 4 ≤ e.kind) (h5 : e.kind ≤ 5) : ovr x e = cover x e := by
  rw [Bool.eq_iff_iff, cover_iff]
  unfold ovr
  simp only [Bool.or_eq_true, Bool.and_eq_true, decide_eq_true_eq, mates_iff]
  constructor
  · rintro (⟨⟨a, b⟩, c⟩ | ⟨k, a, b, c⟩)
    · exact ⟨c, b, .inl a⟩
    · refine ⟨a, b, ?_⟩
      by_cases z : e.kind = 5
      · exact .inl (k.trans z)
      · exact .inr ⟨by omega, z, c⟩
  · rintro ⟨a, b, k | ⟨k, z, c⟩⟩
    · exact .inl ⟨⟨k, b⟩, a⟩
    · exact .inr ⟨by omega, a, b, c⟩
theorem upT_iff {x e : En} : upT x e = true ↔ (e.ts < x.ts ∨ e.ts = x.ts ∧ (e.kind < x.kind ∨ e.seq < x.seq)) := by
  unfold upT
  simp only [Bool.or_eq_true, Bool.and_eq_true, decide_eq_true_eq]
  exact ⟨fun h => h.imp id (fun z => ⟨z.1.symm, z.2⟩), fun h => h.imp id (fun z => ⟨z.1.symm, z.2⟩)⟩
theorem upT_self (e : En) : upT e e = false := by
  cases h : upT e e with
  | false => rfl
  | true => have := upT_iff.1 h; omega
theorem shadow_at {m : List En} {i : Nat} {e : En} (hi : m[i]? = some e) (h4 : 4 ≤ e.kind) (h5 : e.kind ≤ 5) : shadow m e = true ↔ ∃ (k : Nat) (x : En), m[k]? = some x ∧ k ≠ i ∧ ovr x e = true ∧ upT x e = true := by
  rw [shadow_iff]
  constructor
  · rintro ⟨y, hy, c, u⟩
    obtain ⟨k, hk⟩ := List.mem_iff_getElem?.1 hy
    refine ⟨k, y, hk, fun z => ?_, by rw [ovr_cover h4 h5]; exact c, upT_iff.2 u⟩
    rw [z, hi] at hk
    cases hk
    have := upT_self e
    rw [upT_iff.2 u] at this
    cases this
  · rintro ⟨k, x, hk, -, c, u⟩
    exact ⟨x, List.mem_of_getElem? hk, by rw [← ovr_cover h4 h5]; exact c, upT_iff.1 u⟩
theorem shadow_no {m : List En} {i : Nat} {e : En} (hi : m[i]? = some e) (h4 : 4 ≤ e.kind) (h5 : e.kind ≤ 5) (h : ∀ (k : Nat) (x : En), m[k]? = some x → k ≠ i → ovr x e = true → upT x e = false) : shadow m e = false := by
  cases z : shadow m e with
  | false => rfl
  | true =>
    obtain ⟨k, x, hk, hn, c, u⟩ := (shadow_at hi h4 h5).1 z
    rw [h k x hk hn c] at u
    cases u
end Go.Proofs.YthhkpkfpifllkaaGreat

namespace Go.Proofs.YthhkpkfpifllkaaGreat
open Go.RowKit
set_option linter.unusedVariables false

section
variable {fs : List (Int × Int)} {clock : Int}
def fateN (fs : List (Int × Int)) (clock : Int) (major : Bool) (low : Int) (m : List En) (e : En) : Int :=
  if 4 ≤ e.kind then (if shadow m e || (major && decide (e.ts ≤ low)) then 5 else 0)
  else if decidesS m e = false then 1
  else if e.ts ≤ maskOf m e then 2
  else if expS fs clock e then 3
  else if hasPut m e = false then (if major then 5 else 0)
  else if (famAt fs e.fam).1 < above fs clock m e + 1 then 4
  else 0
def fateE (m : List En) (e : En) : En := if 4 ≤ e.kind then e else if hasPut m e = false then e else hk e
theorem fate_ref {m : List En} {major : Bool} {low : Int} {e : En} : fateR fs clock major low m e = if fateN fs clock major low m e = 0 then some (fateE m e) else none := by
  unfold fateR fateN fateE
  by_cases k : 4 ≤ e.kind
  · simp only [if_pos k]
    split <;> simp
  · simp only [if_neg k]
    by_cases d : decidesS m e = false
    · simp only [if_pos d]; simp
    · simp only [if_neg d]
      by_cases t : e.ts ≤ maskOf m e
      · simp only [if_pos t]; simp
      · simp only [if_neg t]
        by_cases x : expS fs clock e = true
        · simp only [if_pos x]; simp
        · simp only [if_neg x]
          by_cases p : hasPut m e = false
          · simp only [if_pos p]
            cases major <;> simp
          · simp only [if_neg p]
            by_cases r : (famAt fs e.fam).1 < above fs clock m e + 1
            · simp only [if_pos r]; simp
            · simp only [if_neg r]; simp
theorem fateN_mark {m : List En} {major : Bool} {low : Int} {e : En} (k : 4 ≤ e.kind) : fateN fs clock major low m e = if shadow m e || (major && decide (e.ts ≤ low)) then 5 else 0 := by unfold fateN; rw [if_pos k]
theorem fateN_ver {m : List En} {major : Bool} {low : Int} {e : En} (k : e.kind ≤ 3) : fateN fs clock major low m e = if decidesS m e = false then 1 else if e.ts ≤ maskOf m e then 2 else if expS fs clock e then 3 else if hasPut m e = false then (if major then 5 else 0) else if (famAt fs e.fam).1 < above fs clock m e + 1 then 4 else 0 := by unfold fateN; rw [if_neg (by omega)]
end
end Go.Proofs.YthhkpkfpifllkaaGreat

namespace Go.Proofs.YthhkpkfpifllkaaGreat
open Go.RowKit
set_option linter.unusedVariables false

inductive Pushed (fs : List (Int × Int)) (clock : Int) (k : Nat) : List EntD → List EntD → Sp → List Vd → Prop
  | nil : Pushed fs clock k [] [] Sp.zero []
  | twin {l m : List EntD} {s : Sp} {vs : List Vd} {e y : EntD} (h : Pushed fs clock k l m s vs) (hy : m.getLast? = some y) (he : y.dat = e.dat) : Pushed fs clock k (l ++ [e]) m s (vs ++ [⟨e.dat, 1, 0⟩])
  | step {l m : List EntD} {s : Sp} {vs : List Vd} {e : EntD} (h : Pushed fs clock k l m s vs) (ho : ∀ y ∈ m, compareS y e ≤ 0 ∧ y.seq ≠ e.seq) (hc : check3S k e = 0) : Pushed fs clock k (l ++ [e]) (m ++ [e]) (stepS fs clock s e.dat).2 (vs ++ (stepS fs clock s e.dat).1)
section
variable {fs : List (Int × Int)} {clock : Int} {k : Nat} {l m : List EntD} {s : Sp} {vs : List Vd}
theorem Pushed.state (h : Pushed fs clock k l m s vs) : s = (walkS fs clock Sp.zero (m.map EntD.dat)).2 ∧ vs.filter kept = (walkS fs clock Sp.zero (m.map EntD.dat)).1.filter kept ∧ vs.length + m.length = (walkS fs clock Sp.zero (m.map EntD.dat)).1.length + l.length := by
  induction h with
  | nil => exact ⟨rfl, rfl, rfl⟩
  | twin h hy he ih =>
    refine ⟨ih.1, ?_, ?_⟩
    · rw [List.filter_append, ih.2.1]
      simp [kept]
    · have := ih.2.2
      simp only [List.length_append, List.length_cons, List.length_nil]
      omega
  | @step l m s vs e h ho hc ih =>
    have e1 := walk_snoc (fs := fs) (clock := clock) Sp.zero (m.map EntD.dat) e.dat
    rw [List.map_append, List.map_cons, List.map_nil, e1, ← ih.1]
    refine ⟨rfl, ?_, ?_⟩
    · rw [List.filter_append, List.filter_append, ih.2.1]
    · have := ih.2.2
      simp only [List.length_append, List.length_cons, List.length_nil]
      omega
theorem Pushed.ord (h : Pushed fs clock k l m s vs) : (m.Pairwise fun x y => compareS x y ≤ 0) ∧ (m.Pairwise fun x y => x.seq ≠ y.seq) ∧ (∀ x ∈ m, check3S k x = 0 ∧ x ∈ l) ∧ ∀ d, d ∈ m.map EntD.dat ↔ d ∈ l.map EntD.dat := by
  induction h with
  | nil => exact ⟨.nil, .nil, by simp, fun d => Iff.rfl⟩
  | twin h hy he ih =>
    refine ⟨ih.1, ih.2.1, fun x hx => ⟨(ih.2.2.1 x hx).1, List.mem_append_left _ (ih.2.2.1 x hx).2⟩, fun d => ?_⟩
    rw [List.map_append, List.mem_append, ih.2.2.2 d]
    refine ⟨fun q => .inl q, fun q => q.elim id (fun q => ?_)⟩
    rw [List.map_cons, List.map_nil, List.mem_singleton] at q
    rw [← ih.2.2.2 d, q, ← he]
    exact List.mem_map_of_mem (List.mem_of_getLast? hy)
  | step h ho hc ih =>
    refine ⟨List.pairwise_append.2 ⟨ih.1, List.pairwise_singleton _ _, fun x hx y hy => ?_⟩, List.pairwise_append.2 ⟨ih.2.1, List.pairwise_singleton _ _, fun x hx y hy => ?_⟩, fun x hx => ?_, fun d => ?_⟩
    · rw [List.mem_singleton] at hy
      rw [hy]; exact (ho x hx).1
    · rw [List.mem_singleton] at hy
      rw [hy]; exact (ho x hx).2
    · rcases List.mem_append.1 hx with q | q
      · exact ⟨(ih.2.2.1 x q).1, List.mem_append_left _ (ih.2.2.1 x q).2⟩
      · rw [List.mem_singleton] at q
        rw [q]; exact ⟨hc, List.mem_append_right _ List.mem_cons_self⟩
    · rw [List.map_append, List.map_append, List.mem_append, List.mem_append, ih.2.2.2 d]
theorem Pushed.isOrd (h : Pushed fs clock k l m s vs) : IsOrd k (l.map EntD.dat) (m.map EntD.dat) := by
  obtain ⟨h1, h2, h3, h4⟩ := h.ord
  refine ⟨?_, ?_, fun e he => ?_, fun e he => ?_, h4⟩
  · rw [List.pairwise_map]
    exact (h1.and h2).imp fun h => ah_of h.1 h.2
  · rw [List.pairwise_map]; exact h2
  · obtain ⟨y, hy, rfl⟩ := List.mem_map.1 he
    exact va_of_check (h3 y hy).1
  · obtain ⟨y, hy, rfl⟩ := List.mem_map.1 he
    exact (h3 y hy).1
theorem out_kept (major : Bool) (low : Int) (us : List Vd) : outS major low us = outS major low (us.filter kept) := by
  unfold outS
  rw [List.filter_filter]
  congr 1
  refine List.filter_congr fun v _ => ?_
  unfold staysS kept
  by_cases h : v.fate = 1
  · simp [h]
  · simp [h]
theorem out_append (major : Bool) (low : Int) (us ws : List Vd) : outS major low (us ++ ws) = outS major low us ++ outS major low ws := by
  unfold outS
  rw [List.filter_append, List.map_append]
theorem Pushed.out (h : Pushed fs clock k l m s vs) (major : Bool) (low : Int) : outS major low vs = outS major low (walkS fs clock Sp.zero (m.map EntD.dat)).1 ∧ outS major low (vs ++ (resolveS fs clock s 3).1) = outS major low (verdictsS fs clock (m.map EntD.dat)) := by
  obtain ⟨h1, h2, h3⟩ := h.state
  have q : outS major low vs = outS major low (walkS fs clock Sp.zero (m.map EntD.dat)).1 := by rw [out_kept, h2, ← out_kept]
  refine ⟨q, ?_⟩
  rw [out_append, q, h1, ← out_append]
  rfl
def fCnt (us : List Vd) (p : Vd → Bool) : Int := ((us.filter p).length : Nat)
theorem cnt_is (major : Bool) (low : Int) (us : List Vd) : cntS major low us = ⟨fCnt us fun v => decide (v.fate = 1), fCnt us fun v => decide (v.fate = 2), fCnt us fun v => decide (v.fate = 3), fCnt us fun v => decide (v.fate = 4), fCnt us fun v => !staysS major low v && !decide (v.fate = 1) && !decide (v.fate = 2) && !decide (v.fate = 3) && !decide (v.fate = 4)⟩ := by
  have gen : ∀ (n : Nat) (us : List Vd), us.length = n → cntS major low us = ⟨fCnt us fun v => decide (v.fate = 1), fCnt us fun v => decide (v.fate = 2), fCnt us fun v => decide (v.fate = 3), fCnt us fun v => decide (v.fate = 4), fCnt us fun v => !staysS major low v && !decide (v.fate = 1) && !decide (v.fate = 2) && !decide (v.fate = 3) && !decide (v.fate = 4)⟩ := by
    intro n
    induction n with
    | zero => intro us hu; rw [List.length_eq_zero_iff.1 hu]; rfl
    | succ n ih =>
      intro us hu
      obtain ⟨v, ws, rfl⟩ : ∃ v ws, us = ws ++ [v] := by
        have hne : us ≠ [] := fun z => by rw [z] at hu; cases hu
        exact ⟨us.getLast hne, us.dropLast, (List.dropLast_concat_getLast hne).symm⟩
      rw [cntS_snoc, ih ws (by simpa using hu)]
      unfold fCnt
      simp only [List.filter_append, List.length_append]
      by_cases f1 : v.fate = 1
      · simp [f1, staysS, Ct.inc]
      · by_cases f2 : v.fate = 2
        · simp [f2, staysS, Ct.inc]
        · by_cases f3 : v.fate = 3
          · simp [f3, staysS, Ct.inc]
          · by_cases f4 : v.fate = 4
            · simp [f4, staysS, Ct.inc]
            · cases hst : staysS major low v with
              | true => simp [f1, f2, f3, f4, hst]
              | false => simp [f1, f2, f3, f4, hst, Ct.inc]
  exact gen _ us rfl
end
end Go.Proofs.YthhkpkfpifllkaaGreat
