import Derived.Test.YthhkpkfpifllkaaGreatK09
namespace Go.Proofs.YthhkpkfpifllkaaGreat
open Go.RowKit
set_option linter.unusedVariables false

def firstBad (chk : EntD → Int) : List EntD → Int
  | [] => 0
  | e :: l => if chk e ≠ 0 then chk e else firstBad chk l
theorem firstBad_zero {chk : EntD → Int} {l : List EntD} (h : ∀ x ∈ l, chk x = 0) : firstBad chk l = 0 := by
  induction l with
  | nil => rfl
  | cons e l ih =>
    rw [firstBad, if_neg (by simpa using h e List.mem_cons_self)]
    exact ih (fun x hx => h x (List.mem_cons_of_mem _ hx))
theorem firstBad_at {chk : EntD → Int} {l r : List EntD} {e : EntD} (h : ∀ x ∈ l, chk x = 0) (he : chk e ≠ 0) : firstBad chk (l ++ e :: r) = chk e := by
  induction l with
  | nil => show firstBad chk (e :: r) = _; rw [firstBad, if_pos he]
  | cons x l ih =>
    show firstBad chk (x :: (l ++ e :: r)) = _
    rw [firstBad, if_neg (by simpa using h x List.mem_cons_self)]
    exact ih (fun y hy => h y (List.mem_cons_of_mem _ hy))
def inOrderE (chk : EntD → Int) (l : List EntD) : Int := if firstBad chk l ≠ 0 then firstBad chk l else if onceS l = none then 31 else 0
theorem seq_of_check {k : Nat} {e : EntD} (h : check3S k e = 0) : 0 ≤ e.seq ∧ e.seq ≤ 17592186044431 := by
  unfold check3S at h
  by_cases hc : checkS e = 0
  · unfold checkS at hc
    repeat' split at hc
    all_goals first | (exfalso; omega) | skip
    omega
  · rw [if_pos hc] at h
    omega

set_option maxRecDepth 100000 in
set_option maxHeartbeats 4000000 in
theorem inOrder_any {W : World} {wb k fc cap : Nat} {a fa : Option Addr} {clock : Int} {tv : Value} {s : SpD} {l : List EntD} (hb : WBx W wb (.slice fa k fc) clock tv s) (hr : RdL3 W a cap l) (hl : l.length ≤ 1353245080300)
    (HSort : ∀ Z a' c' xs, onceS l = some xs → Below W.heap.size W Z → Z.ownsRow W.heap.size 84 7 (.slice a' xs.length c') xs.length (evals xs) → Calls Tryz.prog 80 #[.slice a' xs.length c', .func (.func 81) #[] #[]] Z fun r Z' => r = .returned (.tuple #[]) ∧ ∃ ys : List EntD, ys.Perm xs ∧ (ys.Pairwise fun x y => compareS x y ≤ 0) ∧ Z'.ownsRow W.heap.size 84 7 (.slice a' xs.length c') xs.length (evals ys) ∧ Z.grownBy Z' (Value.slice a' xs.length c').ownBlock) :
    Calls Tryz.prog 47 #[.slice a l.length cap, .func (.func 94) #[.pointer (some ⟨wb, 0, none⟩)] #[]] W fun r W' => Below W.heap.size W W' ∧ (inOrderE (check3S k) l ≠ 0 → r = .returned (.tuple #[.slice none 0 0, .int .i64 (inOrderE (check3S k) l)])) ∧ (inOrderE (check3S k) l = 0 → ∃ xs ys a' c', onceS l = some xs ∧ ys.Perm xs ∧ (ys.Pairwise fun x y => compareS x y ≤ 0) ∧ r = .returned (.tuple #[.slice a' ys.length c', .int .i64 0]) ∧ W'.ownsRow W.heap.size 84 7 (.slice a' ys.length c') ys.length (evals ys)) := by
  obtain ⟨R, hR⟩ : ∃ R, R = inOrderE (check3S k) l := ⟨_, rfl⟩
  obtain ⟨N, hN⟩ : ∃ N, N = l.length := ⟨_, rfl⟩
  rw [← hN] at hl ⊢
  rw [← hR]
  have HRR := Lib.hid hR
  have HN := Lib.hid hN
  have HB := Lib.hid hb
  have HRd := Lib.hid hr
  have HSo := Lib.hid HSort
  clear hR hN hb hr HSort
  go_enter Tryz.func47, Tryz.ntmps47
  go_wp2
  go_loopw [13] (fun i wr => ∃ t : Nat, t ≤ N ∧ i = .int .i64 (t : Int) ∧ Hid (Below W.heap.size W wr) ∧ Hid (∀ x ∈ l.take t, check3S k x = 0)) (fun i _ => N - (intOf i).toNat)
  case atStart => exact ⟨0, Nat.zero_le _, rfl, Below.refl _ _, by unfold Hid; simp⟩
  case round =>
    obtain ⟨t, ht, rfl, HBw, HAll⟩ := hrel
    have t0 : (0 : Int) ≤ (t : Int) := by omega
    by_cases hlt : t < N
    · have hlt2 : (t : Int) < (N : Int) := by omega
      obtain ⟨e, he⟩ : ∃ e, l[t]? = some e := ⟨l[t]'(by rw [← HN.out]; exact hlt), List.getElem?_eq_getElem _⟩
      have hrd := HRd.out.later HBw.out
      have hok := hrd.ok e (List.mem_of_getElem? he)
      rcases hrd.at_ with h0 | ⟨b, off, rfl, hc⟩
      · rw [h0] at he; simp at he
      have d0 := hc t e he 0 e.vr rfl
      have d1 := hc t e he 1 (.int .i64 e.fam) rfl
      have d2 := hc t e he 2 e.vq rfl
      have d3 := hc t e he 3 (.int .i64 e.ts) rfl
      have d4 := hc t e he 4 (.int .i64 e.seq) rfl
      have d5 := hc t e he 5 (.int .i64 e.kind) rfl
      have d6 := hc t e he 6 e.vv rfl
      simp only [Nat.add_zero] at d0
      have A5 := (Below.refl wr.heap.size wr).alloc (Nat.le_refl _) (.cells e.cells 84)
      have B5 := HBw.out.trans (A5.mono HBw.out.size)
      have HCk := Lib.hid (check3_any ((HB.out.later HBw.out).later A5) (hok.later A5))
      obtain ⟨_, a1, n1, e1, -⟩ := hok.1
      obtain ⟨_, a2, n2, e2, -⟩ := hok.2.1
      obtain ⟨_, a3, n3, e3, -⟩ := hok.2.2
      have hXe : e.cells = #[.slice a1 e.row.length n1, .int .i64 e.fam, .slice a2 e.qual.length n2, .int .i64 e.ts, .int .i64 e.seq, .int .i64 e.kind, .slice a3 e.val.length n3] := by unfold EntD.cells; rw [e1, e2, e3]
      rw [e1] at d0
      rw [e2] at d2
      rw [e3] at d6
      rw [hXe] at HCk B5
      have HB5 := Lib.hid B5
      have HE := Lib.hid he
      obtain ⟨c, hc2⟩ : ∃ c, c = check3S k e := ⟨_, rfl⟩
      rw [← hc2] at HCk
      have HC2 := Lib.hid hc2
      clear hrd hok hc A5 B5 e1 e2 e3 hXe he hc2
      go_wp2_with fail
      refine Calls.mono HCk.out ?_
      rintro z X2 ⟨rfl, b2⟩
      have HB2 := Lib.hid (HB5.out.trans (b2.mono HB5.out.size))
      clear b2 d0 d1 d2 d3 d4 d5 d6 HCk HB5
      by_cases h0 : c = 0
      · have HAll2 : Hid (∀ x ∈ l.take (t + 1), check3S k x = 0) := by
          unfold Hid
          rw [List.take_add_one, HE.out]
          intro x hx
          rcases List.mem_append.1 hx with q | q
          · exact HAll.out x q
          · simp at q
            rw [q, ← HC2.out]; exact h0
        subst h0
        go_wp2
        go_roundw
        case rel => exact ⟨t + 1, by omega, by go_num, HB2, HAll2⟩
        case measure => simp only [intOf]; omega
      · have q : Hid (R = c ∧ R ≠ 0) := by
          have hd : l = l.take t ++ e :: l.drop (t + 1) := by
            have h1 := (List.getElem?_eq_some_iff.1 HE.out)
            rw [← h1.2, ← List.drop_eq_getElem_cons, List.take_append_drop]
          have hfb : firstBad (check3S k) l = c := by
            rw [hd, HC2.out]
            exact firstBad_at HAll.out (by rw [← HC2.out]; exact h0)
          have : R = c := by rw [HRR.out, inOrderE, if_pos (by rw [hfb]; exact h0), hfb]
          exact ⟨this, by rw [this]; exact h0⟩
        have b0 : (c != 0) = true := by simp [h0]
        clear h0
        go_wp2
        go_ret2
        exact ⟨HB2.out, fun _ => by rw [q.out.1]; rfl, fun z => absurd z q.out.2⟩
    · have hge : ¬ (t : Int) < (N : Int) := by omega
      have e : t = N := by omega
      have hall : ∀ x ∈ l, check3S k x = 0 := by have := HAll.out; rwa [e, HN.out, List.take_length] at this
      have HOn := Lib.hid (once_any (HRd.out.later HBw.out) (by rw [← HN.out]; omega) (fun x hx => seq_of_check (hall x hx)))
      have hRv : R = if onceS l = none then 31 else 0 := by rw [HRR.out, inOrderE, if_neg (by rw [firstBad_zero hall]; simp)]
      rw [← HN.out] at HOn
      have HRv := Lib.hid hRv
      clear hRv hall e
      go_wp2_with fail
      refine Calls.mono HOn.out ?_
      rintro z W2 ⟨b2, hnone, hsome⟩
      have HB2 := Lib.hid (HBw.out.trans (b2.mono HBw.out.size))
      clear HOn b2
      cases ho : onceS l with
      | none =>
        have hz := hnone ho
        subst hz
        have q : Hid (R = 31) := by unfold Hid; rw [HRv.out, if_pos ho]
        clear hnone hsome ho
        go_wp2
        go_ret2
        exact ⟨HB2.out, fun _ => by rw [q.out]; rfl, fun z => by have := q.out; omega⟩
      | some xs =>
        obtain ⟨a', c', hz, hrow⟩ := hsome xs ho
        subst hz
        have q : Hid (R = 0) := by unfold Hid; rw [HRv.out, if_neg (by rw [ho]; simp)]
        have hrow2 := row_low hrow HBw.out.size
        have HSc := Lib.hid (HSo.out W2 a' c' xs ho HB2.out hrow2)
        have HRw := Lib.hid hrow2
        have HOo := Lib.hid ho
        clear hnone hsome ho hrow hrow2
        go_wp2_with fail
        refine Calls.mono HSc.out ?_
        rintro z W3 ⟨rfl, ys, hp, hsrt, hrow3, hgr⟩
        have HF := Lib.hid (And.intro hp (And.intro hsrt (And.intro hrow3 hgr)))
        clear hp hsrt hrow3 hgr HSc
        go_wp2
        go_ret2
        obtain ⟨hp, hsrt, hrow3, hgr⟩ := HF.out
        have el := hp.length_eq
        refine ⟨HB2.out.grown hgr HB2.out.size (fun g hg => (HRw.out.lt g hg).1), fun z => absurd q.out z, fun _ => ⟨xs, ys, a', c', HOo.out, hp, hsrt, by rw [el]; rfl, by rw [el]; exact hrow3⟩⟩
end Go.Proofs.YthhkpkfpifllkaaGreat

namespace Go.Proofs.YthhkpkfpifllkaaGreat
open Go.RowKit
set_option linter.unusedVariables false

def SortP : Prop := ∀ (B : Nat) (Z : World) (a' : Option Addr) (c' : Nat) (xs : List EntD), (∀ x ∈ xs, EntD.Ok Z x) → xs.length ≤ 1353245080300 → B ≤ Z.heap.size → Z.ownsRow B 84 7 (.slice a' xs.length c') xs.length (evals xs) → Calls Tryz.prog 80 #[.slice a' xs.length c', .func (.func 81) #[] #[]] Z fun r Z' => r = .returned (.tuple #[]) ∧ ∃ ys : List EntD, ys.Perm xs ∧ (ys.Pairwise fun x y => compareS x y ≤ 0) ∧ Z'.ownsRow B 84 7 (.slice a' xs.length c') xs.length (evals ys) ∧ Z.grownBy Z' (Value.slice a' xs.length c').ownBlock
theorem Rd.heap {W Z : World} {x : Value} {bs : List Nat} (r : Rd W x bs) (h : ∀ i, i < W.heap.size → Z.heap[i]? = W.heap[i]?) : Rd Z x bs := by
  obtain ⟨h1, a, cap, rfl, h3, h4, h5, h6, h7⟩ := r
  refine ⟨h1, a, cap, rfl, h3, h4, h5, h6, ?_⟩
  rcases h7 with h7 | ⟨b, off, rfl, hc⟩
  · exact .inl h7
  · refine .inr ⟨b, off, rfl, fun i hi => ?_⟩
    have c := hc i hi
    have lt := World.block_lt_of_cell? W _ c
    simp only [World.cell?, h b lt] at c ⊢
    exact c
theorem EntD.heap {W Z : World} {e : EntD} (r : EntD.Ok W e) (h : ∀ i, i < W.heap.size → Z.heap[i]? = W.heap[i]?) : EntD.Ok Z e := ⟨r.1.heap h, r.2.1.heap h, r.2.2.heap h⟩
theorem once_len (l : List EntD) : ∀ (acc xs : List EntD), l.foldl (fun o e => o.bind fun xs => addO xs e) (some acc) = some xs → xs.length ≤ acc.length + l.length := by
  induction l with
  | nil => intro acc xs h; cases h; simp
  | cons e r ih =>
    intro acc xs h
    have h2 : r.foldl (fun o e => o.bind fun xs => addO xs e) (addO acc e) = some xs := h
    cases ha : addO acc e with
    | none => rw [ha, once_none] at h2; cases h2
    | some ys =>
      rw [ha] at h2
      have := ih ys xs h2
      have hy : ys.length ≤ acc.length + 1 := by
        unfold addO at ha
        split at ha
        · cases ha; simp
        · split at ha
          · cases ha; omega
          · cases ha
      rw [List.length_cons]
      omega
theorem onceS_len {l xs : List EntD} (h : onceS l = some xs) : xs.length ≤ l.length := by simpa using once_len l [] xs h
theorem firstBad_all {chk : EntD → Int} {l : List EntD} (h : firstBad chk l = 0) : ∀ x ∈ l, chk x = 0 := by
  induction l with
  | nil => simp
  | cons e l ih =>
    rw [firstBad] at h
    by_cases he : chk e = 0
    · rw [if_neg (by simpa using he)] at h
      intro x hx
      rcases List.mem_cons.1 hx with rfl | q
      · exact he
      · exact ih h x q
    · rw [if_pos he] at h
      exact absurd h he
theorem inOrder_ok {chk : EntD → Int} {l : List EntD} (h : inOrderE chk l = 0) : (∀ x ∈ l, chk x = 0) ∧ ∃ xs, onceS l = some xs := by
  unfold inOrderE at h
  by_cases hb : firstBad chk l = 0
  · rw [if_neg (by simpa using hb)] at h
    cases ho : onceS l with
    | none => rw [if_pos ho] at h; cases h
    | some xs => exact ⟨firstBad_all hb, xs, rfl⟩
  · rw [if_pos hb] at h
    exact absurd h hb
theorem over_all (SP : SortP) {W W0 : World} {wb g rb B cap fc : Nat} {a fa : Option Addr} {fs : List FamD} {clock : Int} {T : World → (Nat → Prop) → List Vd → Prop} {l : List EntD} (ht : Teller g rb T) (hb : WBx W wb (.slice fa fs.length fc) clock (.func (.func g) #[.pointer (some ⟨rb, 0, none⟩)] #[]) spZ) (hf : OwnF W B (.slice fa fs.length fc) fs.length fs) (hl8 : fs.length ≤ 8) (t : T W (fun i => i = rb) []) (hne : wb ≠ rb) (hr : ∃ cs ty, W.heap[rb]? = some (.cells cs ty (0, 0)) ∧ ty ≠ 132 ∧ ty ≠ 84) (hfs : ∀ f ∈ fs, 0 ≤ f.tl ∧ f.tl ≤ 1099511627776)
    (h0 : RdL3 W0 a cap l) (hB : Below W0.heap.size W0 W) (hw0 : W0.heap.size ≤ wb) (hr0 : W0.heap.size ≤ rb) (hl : l.length ≤ 1353245080300) :
    Calls Tryz.prog 60 #[.pointer (some ⟨wb, 0, none⟩), .slice a l.length cap] W fun r W' => r = .returned (.int .i64 (inOrderE (check3S fs.length) l)) ∧ (inOrderE (check3S fs.length) l ≠ 0 → Below W.heap.size W W') ∧ (inOrderE (check3S fs.length) l = 0 → ∃ (xs ys : List EntD) (W1 : World) (O : Nat → Prop), onceS l = some xs ∧ ys.Perm xs ∧ (ys.Pairwise fun x y => compareS x y ≤ 0) ∧ Below W.heap.size W W1 ∧ Wk W1 wb g rb (.slice fa fs.length fc) fs clock T W' O spZ (verdictsS (mt fs) clock (ys.map EntD.dat))) := by
  have hB2 : ∀ {Z : World}, Below W.heap.size W Z → Below W0.heap.size W0 Z := fun b => hB.trans (b.mono hB.size)
  have HI := inOrder_any (k := fs.length) hb (h0.later hB) hl (fun Z a' c' xs ho b row => SP W.heap.size Z a' c' xs (fun x hx => (h0.ok x (onceS_mem ho x hx)).later (hB2 b)) (Nat.le_trans (onceS_len ho) hl) b.size row)
  refine Calls.mono (over_any ht hb hf hl8 t hne hr hfs (inOrderE (check3S fs.length) l) (fun ys => ∃ xs, onceS l = some xs ∧ ys.Perm xs ∧ ys.Pairwise fun x y => compareS x y ≤ 0) (Calls.mono HI ?_) ?_) ?_
  · rintro r W' ⟨h1, h2, h3⟩
    refine ⟨h1, h2, fun z => ?_⟩
    obtain ⟨xs, ys, a', c', k1, k2, k3, k4, k5⟩ := h3 z
    exact ⟨ys, a', c', ⟨xs, k1, k2, k3⟩, k4, k5⟩
  · rintro z ys ⟨xs, k1, k2, k3⟩
    obtain ⟨hall, -⟩ := inOrder_ok z
    have hmem : ∀ y ∈ ys, y ∈ l := fun y hy => onceS_mem k1 y (k2.mem_iff.1 hy)
    refine ⟨fun y hy => ⟨fit_of_check (hall y (hmem y hy)), fun Z hZ => EntD.heap (h0.ok y (hmem y hy)) (fun i hi => ?_)⟩, by rw [k2.length_eq]; exact Nat.le_trans (onceS_len k1) hl⟩
    rw [hZ.2 i (Nat.lt_of_lt_of_le hi hB.size) (by omega) (by omega) (fun z => z)]
    exact hB.block i hi
  · rintro r W' ⟨h1, h2, h3⟩
    refine ⟨h1, h2, fun z => ?_⟩
    obtain ⟨ys, W1, O, ⟨xs, k1, k2, k3⟩, k4, k5⟩ := h3 z
    exact ⟨xs, ys, W1, O, k1, k2, k3, k4, k5⟩
end Go.Proofs.YthhkpkfpifllkaaGreat

namespace Go.Proofs.YthhkpkfpifllkaaGreat
open Go.RowKit
set_option linter.unusedVariables false

theorem va_of_check {k : Nat} {e : EntD} (h : check3S k e = 0) : Va e.dat := by
  unfold check3S at h
  by_cases hc : checkS e = 0
  · unfold checkS at hc
    repeat' split at hc
    all_goals first | (exfalso; omega) | skip
    have hq : ∀ l : List Nat, ¬ 0 < l.length → l = [] := fun l hl => List.eq_nil_of_length_eq_zero (by omega)
    refine ⟨?_, ?_, ?_, fun z => hq _ (fun y => ?_), fun z => hq _ (fun y => ?_)⟩
    · show 1 ≤ e.kind; omega
    · show e.kind ≤ 5; omega
    · show 1 ≤ e.ts; omega
    · have z : e.kind ≠ 1 := z
      have y : 0 < e.val.length := y
      omega
    · have z : e.kind = 5 := z
      have y : 0 < e.qual.length := y
      omega
  · rw [if_pos hc] at h
    omega
theorem mark_cases (k a : Int) : (mark k a : Int) = if k = a then 0 else 1 := by
  unfold mark
  split <;> rfl
theorem cmpI_le {a b : Int} (h : cmpI a b ≤ 0) : a ≤ b := by
  unfold cmpI at h
  repeat' split at h
  all_goals omega
theorem cmpI_zero3 {a b : Int} : cmpI a b = 0 ↔ a = b := by
  unfold cmpI
  repeat' split
  all_goals omega
theorem lex_le {a b : Int} (h : (if a = 0 then b else a) ≤ 0) : a ≤ 0 ∧ (a = 0 → b ≤ 0) := by
  by_cases z : a = 0
  · rw [if_pos z] at h; exact ⟨by omega, fun _ => h⟩
  · rw [if_neg z] at h; exact ⟨h, fun y => absurd y z⟩
theorem ah_of {x y : EntD} (h : compareS x y ≤ 0) (hne : x.seq ≠ y.seq) : Ah x.dat y.dat := by
  unfold compareS cmpsS at h
  simp only [firstNZ] at h
  obtain ⟨h1, h⟩ := lex_le h
  have r0 : x.row = y.row → ordC x.row y.row = 0 := fun e => by rw [e]; exact ordC_self _
  have q0 : x.qual = y.qual → ordC x.qual y.qual = 0 := fun e => by rw [e]; exact ordC_self _
  have a5 : (x.kind = 5 ↔ y.kind = 5) → aheadS x y 5 = 0 := fun e => by
    unfold aheadS
    rw [cmpI_zero3, mark_cases, mark_cases]
    split <;> split <;> omega
  have a4 : (x.kind = 4 ↔ y.kind = 4) → aheadS x y 4 = 0 := fun e => by
    unfold aheadS
    rw [cmpI_zero3, mark_cases, mark_cases]
    split <;> split <;> omega
  refine ⟨h1, fun e1 => ?_, fun e1 e2 e3 => ?_, fun e1 e2 e3 => ?_, fun e1 e2 e3 e4 e5 => ?_, fun e1 e2 e3 e4 e5 => ?_, fun e1 e2 e3 e4 e5 e6 => ?_⟩
  · exact cmpI_le (lex_le (h (r0 e1))).1
  · have := (lex_le ((lex_le (h (r0 e1))).2 (cmpI_zero3.2 e2))).1
    have := cmpI_le this
    rw [mark_cases, mark_cases] at this
    show x.kind = 5
    have e3 : y.kind = 5 := e3
    rw [if_pos e3] at this
    split at this
    · assumption
    · omega
  · exact (lex_le ((lex_le ((lex_le (h (r0 e1))).2 (cmpI_zero3.2 e2))).2 (a5 e3))).1
  · have := (lex_le ((lex_le ((lex_le ((lex_le (h (r0 e1))).2 (cmpI_zero3.2 e2))).2 (a5 e3))).2 (q0 e4))).1
    have := cmpI_le this
    rw [mark_cases, mark_cases] at this
    show x.kind = 4
    have e5 : y.kind = 4 := e5
    rw [if_pos e5] at this
    split at this
    · assumption
    · omega
  · exact cmpI_le (lex_le ((lex_le ((lex_le ((lex_le ((lex_le (h (r0 e1))).2 (cmpI_zero3.2 e2))).2 (a5 e3))).2 (q0 e4))).2 (a4 e5))).1
  · have := cmpI_le (lex_le ((lex_le ((lex_le ((lex_le ((lex_le ((lex_le (h (r0 e1))).2 (cmpI_zero3.2 e2))).2 (a5 e3))).2 (q0 e4))).2 (a4 e5))).2 (cmpI_zero3.2 e6.symm))).1
    show y.seq < x.seq
    omega
theorem ah_irrefl {a : En} (h : Ah a a) : False := by
  have := h.seq rfl rfl Iff.rfl rfl Iff.rfl rfl
  omega
theorem ah_asymm {a b : En} (h : Ah a b) (k : Ah b a) : False := by
  have r : a.row = b.row := by have := ordC_swap a.row b.row; have := h.row; have := k.row; exact ordC_eq _ _ (by omega)
  have f : a.fam = b.fam := by have := h.fam r; have := k.fam r.symm; omega
  have k5 : a.kind = 5 ↔ b.kind = 5 := ⟨k.k5 r.symm f.symm, h.k5 r f⟩
  have q : a.qual = b.qual := by have := ordC_swap a.qual b.qual; have := h.qual r f k5; have := k.qual r.symm f.symm k5.symm; exact ordC_eq _ _ (by omega)
  have k4 : a.kind = 4 ↔ b.kind = 4 := ⟨k.k4 r.symm f.symm k5.symm q.symm, h.k4 r f k5 q⟩
  have t : a.ts = b.ts := by have := h.ts r f k5 q k4; have := k.ts r.symm f.symm k5.symm q.symm k4.symm; omega
  have := h.seq r f k5 q k4 t
  have := k.seq r.symm f.symm k5.symm q.symm k4.symm t.symm
  omega
theorem ord_unique : ∀ {l l' : List En}, l.Pairwise Ah → l'.Pairwise Ah → (∀ e, e ∈ l ↔ e ∈ l') → l = l'
  | [], [], _, _, _ => rfl
  | [], b :: t', _, _, h => by have := (h b).2 List.mem_cons_self; cases this
  | a :: t, [], _, _, h => by have := (h a).1 List.mem_cons_self; cases this
  | a :: t, b :: t', hl, hl', h => by
    have p := List.pairwise_cons.1 hl
    have p' := List.pairwise_cons.1 hl'
    have e : a = b := by
      rcases List.mem_cons.1 ((h a).1 List.mem_cons_self) with e | m1
      · exact e
      · rcases List.mem_cons.1 ((h b).2 List.mem_cons_self) with e | m2
        · exact e.symm
        · exact (ah_asymm (p.1 b m2) (p'.1 a m1)).elim
    subst e
    congr 1
    refine ord_unique p.2 p'.2 fun x => ⟨fun hx => ?_, fun hx => ?_⟩
    · rcases List.mem_cons.1 ((h x).1 (List.mem_cons_of_mem _ hx)) with rfl | q
      · exact (ah_irrefl (p.1 x hx)).elim
      · exact q
    · rcases List.mem_cons.1 ((h x).2 (List.mem_cons_of_mem _ hx)) with rfl | q
      · exact (ah_irrefl (p'.1 x hx)).elim
      · exact q
def EntD.ofEn (e : En) : EntD := ⟨.slice none 0 0, e.fam, .slice none 0 0, e.ts, e.seq, e.kind, .slice none 0 0, e.row, e.qual, e.val⟩
theorem check_dat (k : Nat) (x : EntD) : check3S k x = check3S k (EntD.ofEn x.dat) := rfl
structure IsOrd (k : Nat) (l m : List En) : Prop where
  ah : m.Pairwise Ah
  ne : m.Pairwise fun a b => a.seq ≠ b.seq
  va : ∀ e ∈ m, Va e
  ck : ∀ e ∈ m, check3S k (EntD.ofEn e) = 0
  mem : ∀ e, e ∈ m ↔ e ∈ l
theorem IsOrd.unique {k k' : Nat} {l m m' : List En} (h : IsOrd k l m) (h' : IsOrd k' l m') : m = m' := ord_unique h.ah h'.ah fun e => (h.mem e).trans (h'.mem e).symm
theorem sameS_dat {a b : EntD} (h : sameS a b = true) : a.dat = b.dat := by
  unfold sameS at h
  simp only [Bool.and_eq_true, decide_eq_true_eq] at h
  obtain ⟨h1, h2⟩ := h
  unfold compareS cmpsS at h1
  simp only [firstNZ] at h1
  have z : ∀ {a b : Int}, (if a = 0 then b else a) = 0 → a = 0 ∧ b = 0 := fun {a b} e => by
    by_cases y : a = 0
    · rw [if_pos y] at e; exact ⟨y, e⟩
    · rw [if_neg y] at e; exact absurd e y
  obtain ⟨z1, h1⟩ := z h1
  obtain ⟨z2, h1⟩ := z h1
  obtain ⟨z3, h1⟩ := z h1
  obtain ⟨z4, h1⟩ := z h1
  obtain ⟨z5, h1⟩ := z h1
  obtain ⟨z6, h1⟩ := z h1
  obtain ⟨z7, h1⟩ := z h1
  obtain ⟨z8, h1⟩ := z h1
  unfold EntD.dat
  rw [ordC_eq _ _ z1, cmpI_zero3.1 z2, ordC_eq _ _ z4, ← cmpI_zero3.1 z6, ← cmpI_zero3.1 z7, cmpI_zero3.1 z8, h2]
theorem sameS_of {a b : EntD} (h : a.dat = b.dat) : sameS a b = true := by
  have e := EntD.dat_same.1 h
  have : compareS a b = 0 := by rw [compareS_same (c := b) (d := b) e (EntD.dat_same.1 rfl)]; exact compareS_self b
  unfold sameS
  rw [this, e.2.2.2.2.2.2]
  simp
theorem once_all (l : List EntD) : ∀ (acc xs : List EntD), (acc.Pairwise fun a b => a.seq ≠ b.seq) → l.foldl (fun o e => o.bind fun xs => addO xs e) (some acc) = some xs → (xs.Pairwise fun a b => a.seq ≠ b.seq) ∧ ∀ d, d ∈ xs.map EntD.dat ↔ d ∈ (acc ++ l).map EntD.dat := by
  induction l with
  | nil => intro acc xs hp h; cases h; exact ⟨hp, fun d => by rw [List.append_nil]⟩
  | cons e r ih =>
    intro acc xs hp h
    have h2 : r.foldl (fun o e => o.bind fun xs => addO xs e) (addO acc e) = some xs := h
    cases hf : acc.find? (fun x => x.seq == e.seq) with
    | none =>
      have ha : addO acc e = some (acc ++ [e]) := by unfold addO; rw [hf]
      rw [ha] at h2
      have hn := List.find?_eq_none.1 hf
      have := ih (acc ++ [e]) xs (List.pairwise_append.2 ⟨hp, List.pairwise_singleton _ _, fun x hx y hy => by
        rw [List.mem_singleton] at hy
        subst hy
        have := hn x hx
        simpa using this⟩) h2
      refine ⟨this.1, fun d => ?_⟩
      rw [this.2 d, List.append_assoc]
      rfl
    | some x =>
      have ha : addO acc e = if sameS x e then some acc else none := addO_old hf
      rw [ha] at h2
      cases hs : sameS x e with
      | false => rw [hs] at h2; rw [if_neg (by simp), once_none] at h2; cases h2
      | true =>
        rw [hs, if_pos rfl] at h2
        have := ih acc xs hp h2
        refine ⟨this.1, fun d => ?_⟩
        rw [this.2 d, List.map_append, List.map_append, List.map_cons, List.mem_append, List.mem_append, List.mem_cons]
        have xd := sameS_dat hs
        have xm : x ∈ acc := List.mem_of_find?_eq_some hf
        constructor
        · rintro (q | q)
          · exact .inl q
          · exact .inr (.inr q)
        · rintro (q | q | q)
          · exact .inl q
          · exact .inl (by rw [q, ← xd]; exact List.mem_map_of_mem xm)
          · exact .inr q
theorem isOrd_of {k : Nat} {l xs ys : List EntD} (hc : inOrderE (check3S k) l = 0) (ho : onceS l = some xs) (hp : ys.Perm xs) (hs : ys.Pairwise fun x y => compareS x y ≤ 0) : IsOrd k (l.map EntD.dat) (ys.map EntD.dat) := by
  obtain ⟨hall, -⟩ := inOrder_ok hc
  obtain ⟨h1, h2⟩ := once_all l [] xs List.Pairwise.nil ho
  have hne : ys.Pairwise fun a b => a.seq ≠ b.seq := (hp.pairwise_iff (fun h => Ne.symm h)).2 h1
  have hmem : ∀ y ∈ ys, y ∈ l := fun y hy => onceS_mem ho y (hp.mem_iff.1 hy)
  refine ⟨?_, ?_, fun e he => ?_, fun e he => ?_, fun e => ?_⟩
  · rw [List.pairwise_map]
    exact (hs.and hne).imp fun h => ah_of h.1 h.2
  · rw [List.pairwise_map]; exact hne
  · obtain ⟨y, hy, rfl⟩ := List.mem_map.1 he
    exact va_of_check (hall y (hmem y hy))
  · obtain ⟨y, hy, rfl⟩ := List.mem_map.1 he
    exact hall y (hmem y hy)
  · rw [(hp.map EntD.dat).mem_iff]
    exact h2 e
theorem once_self (l : List EntD) : ∀ (acc : List EntD), ((acc ++ l).Pairwise fun a b => a.seq ≠ b.seq) → l.foldl (fun o e => o.bind fun xs => addO xs e) (some acc) = some (acc ++ l) := by
  induction l with
  | nil => intro acc _; rw [List.append_nil]; rfl
  | cons e r ih =>
    intro acc hp
    show r.foldl (fun o e => o.bind fun xs => addO xs e) (addO acc e) = _
    have hf : acc.find? (fun x => x.seq == e.seq) = none := List.find?_eq_none.2 fun x hx => by
      have := (List.pairwise_append.1 hp).2.2 x hx e List.mem_cons_self
      simpa using this
    have ha : addO acc e = some (acc ++ [e]) := by unfold addO; rw [hf]
    rw [ha, ih (acc ++ [e]) (by rw [List.append_assoc]; exact hp), List.append_assoc]
    rfl
theorem check_zero {k : Nat} {e : EntD} : check3S k e = 0 ↔ (¬ (e.row.length = 0 ∨ 256 < e.row.length) ∧ ¬ (e.fam < 0 ∨ 8 ≤ e.fam) ∧ ¬ (256 < e.qual.length ∨ (0 < e.qual.length ∧ e.kind = 5)) ∧ ¬ (e.ts < 1 ∨ 1099511627776 < e.ts) ∧ ¬ (e.seq < 0 ∨ 17592186044431 < e.seq) ∧ ¬ (e.kind < 1 ∨ 5 < e.kind) ∧ ¬ (4096 < e.val.length ∨ (0 < e.val.length ∧ e.kind ≠ 1))) ∧ ¬ (k : Int) ≤ e.fam := by
  constructor
  · intro h
    unfold check3S at h
    by_cases z : checkS e = 0
    · rw [if_neg (by simpa using z)] at h
      refine ⟨?_, fun y => by rw [if_pos y] at h; cases h⟩
      unfold checkS at z
      repeat' split at z
      all_goals first | (exfalso; omega) | skip
      refine ⟨by assumption, by assumption, by assumption, by assumption, by assumption, by assumption, by assumption⟩
    · rw [if_pos z] at h; omega
  · rintro ⟨⟨h1, h2, h3, h4, h5, h6, h7⟩, h8⟩
    have z : checkS e = 0 := by unfold checkS; rw [if_neg h1, if_neg h2, if_neg h3, if_neg h4, if_neg h5, if_neg h6, if_neg h7]
    unfold check3S
    rw [if_neg (by simpa using z), if_neg h8]
end Go.Proofs.YthhkpkfpifllkaaGreat

namespace Go.Proofs.YthhkpkfpifllkaaGreat
open Go.RowKit
set_option linter.unusedVariables false

def shw (tm : Int) (v : Vd) : Bool := decide (v.fate = 5 ∧ v.e.kind = 1 ∧ v.e.ts ≤ tm)
structure SI (tm : Int) (vs : List Vd) (s : Sp) : Prop where
  c : 1 ≤ s.rank → 0 ≤ (showS tm 16 vs).1 ∧ (showS tm 16 vs).1 ≤ s.rank
  r : 0 ≤ s.rank
  out : (showS tm 16 vs).2 = (vs.filter (shw tm)).map Vd.e
section
variable {fs : List (Int × Int)} {clock tm : Int} {vs : List Vd} {s : Sp}
theorem SI.plain (h : SI tm vs s) (v : Vd) (h0 : v.rank = 0) (h5 : v.fate ≠ 5) : SI tm (vs ++ [v]) s := by
  have e : showS tm 16 (vs ++ [v]) = showS tm 16 vs := by
    rw [showS_snoc]
    unfold showStep
    rw [if_neg (by simp [h5]), if_neg (by omega)]
  refine ⟨by rw [e]; exact h.c, h.r, ?_⟩
  rw [e, h.out, List.filter_append, List.map_append]
  have : shw tm v = false := by unfold shw; simp [h5]
  simp [this]
theorem SI.to (h : SI tm vs s) {s' : Sp} (hr : s'.rank = s.rank ∨ s'.rank = 0) : SI tm vs s' := by
  refine ⟨fun z => ?_, ?_, h.out⟩
  · rcases hr with e | e
    · rw [e] at z ⊢; exact h.c z
    · omega
  · rcases hr with e | e
    · rw [e]; exact h.r
    · omega
theorem SI.decide (hM : ∀ i, (famAt fs i).1 ≤ 16) (h : SI tm vs s) (e : En) : SI tm (vs ++ [(decideS fs clock s e).1]) (decideS fs clock s e).2 := by
  unfold decideS
  split
  · exact h.plain _ rfl (by simp)
  · split
    · exact h.plain _ rfl (by simp)
    · split
      · exact h.plain _ rfl (by simp)
      · obtain ⟨v, hv⟩ : ∃ v : Vd, v = ⟨e, if (famAt fs e.fam).1 < s.rank + 1 then 4 else 5, s.rank + 1⟩ := ⟨_, rfl⟩
        simp only
        rw [← hv]
        have hM := hM e.fam
        have h0 := h.r
        have hrk : v.rank = s.rank + 1 := by rw [hv]
        have hft : v.fate = 5 → s.rank + 1 ≤ 16 := fun z => by
          rw [hv] at z
          simp only at z
          split at z
          · cases z
          · omega
        obtain ⟨c', hc'⟩ : ∃ c' : Int, c' = if v.rank = 1 then 0 else (showS tm 16 vs).1 := ⟨_, rfl⟩
        have hb : 0 ≤ c' ∧ c' ≤ s.rank := by
          rw [hc']
          by_cases z : v.rank = 1
          · rw [if_pos z]; omega
          · rw [if_neg z]; exact h.c (by omega)
        have es : showS tm 16 (vs ++ [v]) = if shw tm v = true then (c' + 1, (showS tm 16 vs).2 ++ [v.e]) else (c', (showS tm 16 vs).2) := by
          rw [showS_snoc]
          unfold showStep shw
          rw [← hc']
          by_cases z : v.fate = 5 ∧ v.e.kind = 1 ∧ v.e.ts ≤ tm
          · have := hft z.1
            rw [if_pos ⟨z.1, z.2.1, z.2.2, by omega⟩, if_pos (by simp [z])]
          · rw [if_neg (fun y => z ⟨y.1, y.2.1, y.2.2.1⟩), if_neg (by simpa using z)]
        refine ⟨fun _ => ?_, ?_, ?_⟩
        · rw [es]
          show _ ∧ _ ≤ s.rank + 1
          split
          · simp only; omega
          · simp only; omega
        · show 0 ≤ s.rank + 1; omega
        · rw [es, List.filter_append, List.map_append]
          cases z : shw tm v with
          | true => simp [z, h.out]
          | false => simp [z, h.out]
theorem SI.resolve (hM : ∀ i, (famAt fs i).1 ≤ 16) (h : SI tm vs s) (k : Int) : SI tm (vs ++ (resolveS fs clock s k).1) (resolveS fs clock s k).2 := by
  unfold resolveS
  split
  · exact SI.decide hM (h.to (s' := { s with waiting := false }) (.inl rfl)) _
  · simpa using h
end
end Go.Proofs.YthhkpkfpifllkaaGreat

namespace Go.Proofs.YthhkpkfpifllkaaGreat
open Go.RowKit
set_option linter.unusedVariables false

section
variable {fs : List (Int × Int)} {clock low : Int} {m : List En}
theorem major_five {x : En} (h3 : x.kind ≤ 3) (hp : staysS true low (sv fs clock m x) = true) : (sv fs clock m x).fate = 5 := by
  have s := stays_ver h3 hp
  rw [sv_ver h3 s.1 s.2.1 s.2.2.1] at hp ⊢
  by_cases k : kd m x = 3
  · rw [if_pos k] at hp; simp [staysS] at hp
  · rw [if_neg k] at hp ⊢
    by_cases z : (famAt fs x.fam).1 < above fs clock m x + 1
    · rw [if_pos z] at hp; simp [staysS] at hp
    · rw [if_neg z]
theorem five_stays {x : En} (h : (sv fs clock m x).fate = 5) (major : Bool) : staysS major low (sv fs clock m x) = true := by unfold staysS; rw [if_pos h]
theorem five_kd {x : En} (h3 : x.kind ≤ 3) (h : (sv fs clock m x).fate = 5) : kd m x ≠ 3 ∧ (tld m x).kind = kd m x := by
  have s := stays_ver h3 (five_stays (low := 0) h true)
  refine ⟨fun k => ?_, by rw [tld_ver h3 s.1]⟩
  rw [sv_ver h3 s.1 s.2.1 s.2.2.1, if_pos k] at h
  cases h
theorem mark_seven {x : En} (h4 : 4 ≤ x.kind) : (sv fs clock m x).fate ≠ 5 := by
  rw [sv_mark h4]
  split <;> simp
end
end Go.Proofs.YthhkpkfpifllkaaGreat

namespace Go.Proofs.YthhkpkfpifllkaaGreat
open Go.RowKit
set_option linter.unusedVariables false

def hk (x : En) : En := if x.kind = 3 then { x with kind := 2 } else x
theorem hk_eq (x : En) : (hk x).row = x.row ∧ (hk x).fam = x.fam ∧ (hk x).qual = x.qual ∧ (hk x).ts = x.ts ∧ (hk x).seq = x.seq ∧ (hk x).val = x.val ∧ (x.kind = 3 ∧ (hk x).kind = 2 ∨ x.kind ≠ 3 ∧ (hk x).kind = x.kind) := by
  unfold hk
  split
  · rename_i h; exact ⟨rfl, rfl, rfl, rfl, rfl, rfl, .inl ⟨h, rfl⟩⟩
  · rename_i h; exact ⟨rfl, rfl, rfl, rfl, rfl, rfl, .inr ⟨h, rfl⟩⟩
theorem hk_inj {x y : En} (h : hk y = hk x) : y.row = x.row ∧ y.fam = x.fam ∧ y.qual = x.qual ∧ y.ts = x.ts ∧ y.seq = x.seq ∧ y.val = x.val := by
  obtain ⟨a1, a2, a3, a4, a5, a6, _⟩ := hk_eq x
  obtain ⟨b1, b2, b3, b4, b5, b6, _⟩ := hk_eq y
  exact ⟨by rw [← b1, h, a1], by rw [← b2, h, a2], by rw [← b3, h, a3], by rw [← b4, h, a4], by rw [← b5, h, a5], by rw [← b6, h, a6]⟩
theorem gpE_symm {x y : En} (h : gpE x y = true) : gpE y x = true := by
  obtain ⟨g1, g2, g3, g4, g5, g6⟩ := gpE_iff.1 h
  exact gpE_iff.2 ⟨g2, g1, g3.symm, g4.symm, g5.symm, g6.symm⟩
theorem gpE_trans {x y z : En} (h : gpE x y = true) (k : gpE y z = true) : gpE x z = true := by
  obtain ⟨g1, g2, g3, g4, g5, g6⟩ := gpE_iff.1 h
  obtain ⟨k1, k2, k3, k4, k5, k6⟩ := gpE_iff.1 k
  exact gpE_iff.2 ⟨g1, k2, g3.trans k3, g4.trans k4, g5.trans k5, g6.trans k6⟩
theorem gpE_self {x : En} (h : x.kind ≤ 3) : gpE x x = true := gpE_iff.2 ⟨h, h, rfl, rfl, rfl, rfl⟩
theorem mates_of {x y : En} (h : gpE x y = true) : mates x y = true := by
  obtain ⟨g1, g2, g3, g4, g5, g6⟩ := gpE_iff.1 h
  exact mates_iff.2 ⟨g3, g4, g5⟩
theorem mates_trans {x y z : En} (h : mates x y = true) (k : mates y z = true) : mates x z = true := by
  have a := mates_iff.1 h
  have b := mates_iff.1 k
  exact mates_iff.2 ⟨a.1.trans b.1, a.2.1.trans b.2.1, a.2.2.trans b.2.2⟩
theorem mask_mates {m : List En} {x y : En} (h : mates x y = true) (hx : x.kind ≤ 3) (hy : y.kind ≤ 3) : maskOf m x = maskOf m y := maskOf_same (mates_iff.1 h) (by omega)
theorem hasPut_gp {m : List En} {x y : En} (h : gpE x y = true) : hasPut m x = hasPut m y := by
  rw [Bool.eq_iff_iff, hasPut_iff, hasPut_iff]
  exact ⟨fun ⟨z, hz, g, k⟩ => ⟨z, hz, gpE_trans g h, k⟩, fun ⟨z, hz, g, k⟩ => ⟨z, hz, gpE_trans g (gpE_symm h), k⟩⟩
theorem decider {m : List En} (hs : m.Pairwise Ah) {y : En} (hy : y ∈ m) (h3 : y.kind ≤ 3) : ∃ z ∈ m, gpE z y = true ∧ decidesS m z = true := by
  cases hf : m.find? (fun z => gpE z y) with
  | none =>
    have := List.find?_eq_none.1 hf y hy
    rw [gpE_self h3] at this
    exact absurd rfl this
  | some z =>
    obtain ⟨hz, a, b, hm, hab⟩ := List.find?_eq_some_iff_append.1 hf
    refine ⟨z, by rw [hm]; simp, hz, first_decides hm hs fun x hx => ?_⟩
    have := hab x hx
    cases h : gpE x z with
    | false => rfl
    | true => rw [gpE_trans h hz] at this; cases this
section
variable {fs : List (Int × Int)} {clock : Int}
theorem kd_put {m : List En} {x : En} (hx : x ∈ m) (h3 : x.kind ≤ 3) : kd m x ≠ 3 ↔ hasPut m x = true := by
  unfold kd
  by_cases k : x.kind = 3
  · cases h : hasPut m x with
    | true => simp [k]
    | false => simp [k]
  · have : hasPut m x = true := hasPut_iff.2 ⟨x, hx, gpE_self h3, k⟩
    simp [k, this]
theorem kd_hk {m : List En} {x : En} (hp : hasPut m x = true) : { x with kind := kd m x } = hk x := by
  unfold kd hk
  by_cases k : x.kind = 3
  · simp [k, hp]
  · simp [k]
theorem tld_hk {m : List En} {x : En} (h3 : x.kind ≤ 3) (hd : decidesS m x = true) (hp : hasPut m x = true) : tld m x = hk x := by
  rw [tld_ver h3 hd, kd_hk hp]
theorem five_iff {m : List En} {x : En} (hx : x ∈ m) : (sv fs clock m x).fate = 5 ↔ x.kind ≤ 3 ∧ decidesS m x = true ∧ hasPut m x = true ∧ maskOf m x < x.ts ∧ expS fs clock x = false ∧ above fs clock m x + 1 ≤ (famAt fs x.fam).1 := by
  constructor
  · intro h
    have h3 : x.kind ≤ 3 := by
      by_cases k : x.kind ≤ 3
      · exact k
      · exact absurd h (mark_seven (by omega))
    have st := stays_ver h3 (five_stays (low := 0) h true)
    have k3 := (five_kd h3 h).1
    exact ⟨h3, st.1, (kd_put hx h3).1 k3, st.2.1, st.2.2.1, st.2.2.2 k3⟩
  · rintro ⟨h3, hd, hp, hm, he, ha⟩
    rw [sv_ver h3 hd hm he, if_neg ((kd_put hx h3).2 hp), if_neg (by omega)]
theorem counts_put {m : List En} {x : En} (hx : x ∈ m) : counts fs clock m x = true ↔ x.kind ≤ 3 ∧ decidesS m x = true ∧ hasPut m x = true ∧ maskOf m x < x.ts ∧ expS fs clock x = false := by
  rw [counts_iff]
  constructor
  · rintro ⟨h3, hd, k, r⟩; exact ⟨h3, hd, (kd_put hx h3).1 k, r⟩
  · rintro ⟨h3, hd, k, r⟩; exact ⟨h3, hd, (kd_put hx h3).2 k, r⟩
theorem exp_mates {x y : En} (h : x.fam = y.fam) (ht : x.ts = y.ts) : expS fs clock x = expS fs clock y := by unfold expS; rw [h, ht]
theorem exp_up {x y : En} (h : x.fam = y.fam) (ht : x.ts ≤ y.ts) (hx : expS fs clock x = false) : expS fs clock y = false := by
  unfold expS at hx ⊢
  rw [decide_eq_false_iff_not] at hx ⊢
  rw [← h]
  omega
theorem exp_early {c : Int} {x : En} (hc : c ≤ clock) (hx : expS fs clock x = false) : expS fs c x = false := by
  unfold expS at hx ⊢
  rw [decide_eq_false_iff_not] at hx ⊢
  omega
def Gp (m : List En) (x : En) (t : Int) : Prop := ∃ y ∈ m, y.kind ≤ 2 ∧ mates y x = true ∧ y.ts = t
theorem Gp.mono {m r : List En} {x y : En} {t : Int} (h : Gp m x t) (hs : ∀ e ∈ m, e ∈ r) (hm : mates x y = true) : Gp r y t := by
  obtain ⟨z, hz, k, a, b⟩ := h
  exact ⟨z, hs z hz, k, mates_trans a hm, b⟩
def ups (fs : List (Int × Int)) (clock : Int) (m : List En) (x : En) : List Int := (m.filter fun y => counts fs clock m y && mates y x && decide (x.ts < y.ts)).map En.ts
theorem ups_len (m : List En) (x : En) : ((ups fs clock m x).length : Int) = above fs clock m x := by
  unfold ups above
  rw [List.length_map]
theorem ups_desc {m : List En} (hs : m.Pairwise Ah) (x : En) : (ups fs clock m x).Pairwise (fun a b => b < a) := by
  unfold ups
  rw [List.pairwise_map]
  have h1 := hs.filter (fun y => counts fs clock m y && mates y x && decide (x.ts < y.ts))
  refine List.Pairwise.imp_of_mem ?_ h1
  intro a b ha hb hab
  obtain ⟨am, ha⟩ := List.mem_filter.1 ha
  obtain ⟨bm, hb⟩ := List.mem_filter.1 hb
  simp only [Bool.and_eq_true, decide_eq_true_eq] at ha hb
  have a1 := mates_iff.1 ha.1.2
  have b1 := mates_iff.1 hb.1.2
  have ca := counts_iff.1 ha.1.1
  have cb := counts_iff.1 hb.1.1
  have r := a1.1.trans b1.1.symm
  have f := a1.2.1.trans b1.2.1.symm
  have q := a1.2.2.trans b1.2.2.symm
  have t := hab.ts r f (by omega) q (by omega)
  have : a.ts ≠ b.ts := fun z => by
    have := one_decides hs am bm (gpE_iff.2 ⟨ca.1, cb.1, r, f, q, z⟩) ca.2.1 cb.2.1
    subst this
    exact ah_irrefl hab
  omega
theorem desc_nodup {l : List Int} (h : l.Pairwise (fun a b => b < a)) : l.Nodup := h.imp (fun {a b} hab => by omega)
theorem sub_len : ∀ {a b : List Int}, a.Nodup → (∀ x ∈ a, x ∈ b) → a.length ≤ b.length
  | [], b, _, _ => Nat.zero_le _
  | x :: a, b, h, hs => by
    have h1 := List.nodup_cons.1 h
    have hb : x ∈ b := hs x List.mem_cons_self
    have := sub_len (a := a) (b := b.erase x) h1.2 (fun y hy => (List.mem_erase_of_ne (a := y) (b := x) (fun e => h1.1 (by rw [← e]; exact hy))).2 (hs y (List.mem_cons_of_mem _ hy)))
    rw [List.length_erase_of_mem hb] at this
    have : 0 < b.length := List.length_pos_of_mem hb
    simp only [List.length_cons]
    omega
theorem ups_mem {m : List En} (hs : m.Pairwise Ah) {x : En} (h3 : x.kind ≤ 3) (hm : maskOf m x < x.ts) (he : expS fs clock x = false) (t : Int) : t ∈ ups fs clock m x ↔ x.ts < t ∧ Gp m x t := by
  unfold ups
  rw [List.mem_map]
  constructor
  · rintro ⟨y, hy, rfl⟩
    obtain ⟨ym, hy⟩ := List.mem_filter.1 hy
    simp only [Bool.and_eq_true, decide_eq_true_eq] at hy
    have c := (counts_put ym).1 hy.1.1
    obtain ⟨z, hz, g, k⟩ := hasPut_iff.1 c.2.2.1
    have g' := gpE_iff.1 g
    exact ⟨hy.2, z, hz, by omega, mates_trans (mates_of g) hy.1.2, g'.2.2.2.2.2⟩
  · rintro ⟨ht, y, hy, k, hM, rfl⟩
    obtain ⟨z, hz, g, hd⟩ := decider hs hy (by omega)
    have g' := gpE_iff.1 g
    have M : mates z x = true := mates_trans (mates_of g) hM
    refine ⟨z, List.mem_filter.2 ⟨hz, ?_⟩, g'.2.2.2.2.2⟩
    simp only [Bool.and_eq_true, decide_eq_true_eq]
    refine ⟨⟨(counts_put hz).2 ⟨g'.1, hd, hasPut_iff.2 ⟨y, hy, gpE_symm g, by omega⟩, ?_, ?_⟩, M⟩, by omega⟩
    · rw [mask_mates M g'.1 h3]; omega
    · exact exp_up (mates_iff.1 M).2.1.symm (by omega) he
def Full (fs : List (Int × Int)) (r : List En) (x : En) : Prop := ∃ ts : List Int, ts.Nodup ∧ (famAt fs x.fam).1 ≤ (ts.length : Int) ∧ ∀ t ∈ ts, x.ts < t ∧ Gp r x t
theorem Full.mono {r s : List En} {x y : En} (h : Full fs r x) (hs : ∀ e ∈ r, e ∈ s) (hm : mates x y = true) (ht : y.ts ≤ x.ts) : Full fs s y := by
  obtain ⟨ts, n, l, h⟩ := h
  refine ⟨ts, n, by rw [← (mates_iff.1 hm).2.1]; exact l, fun t h1 => ⟨by have := (h t h1).1; omega, (h t h1).2.mono hs hm⟩⟩
theorem Full.above {r : List En} (hs : r.Pairwise Ah) {x : En} (h : Full fs r x) (h3 : x.kind ≤ 3) (hm : maskOf r x < x.ts) (he : expS fs clock x = false) : (famAt fs x.fam).1 ≤ above fs clock r x := by
  obtain ⟨ts, n, l, h⟩ := h
  rw [← ups_len]
  have := sub_len n (fun t ht => (ups_mem hs h3 hm he t).2 (h t ht))
  omega
structure Wk5 (fs : List (Int × Int)) (clock : Int) (m r : List En) : Prop where
  frm : ∀ y ∈ r, y.kind ≤ 3 → ∃ x ∈ m, gpE x y = true ∧ (y.kind ≤ 2 → hasPut m x = true)
  mask : ∀ x, maskOf r x ≤ maskOf m x
  maskb : ∀ y ∈ r, y.kind ≤ 3 → maskOf r y < y.ts → maskOf m y < y.ts
  alt : ∀ x ∈ m, x.kind ≤ 3 → decidesS m x = true → hasPut m x = true → maskOf m x < x.ts → expS fs clock x = false → (∃ y ∈ r, hk y = hk x ∧ y.kind ≤ 3 ∧ decidesS r y = true ∧ hasPut r y = true) ∨ Full fs r x
def fiveL (fs : List (Int × Int)) (clock : Int) (m : List En) : List En := (m.filter fun x => decide ((sv fs clock m x).fate = 5)).map (tld m)
theorem five_mem {m : List En} {e : En} : e ∈ fiveL fs clock m ↔ ∃ x ∈ m, (x.kind ≤ 3 ∧ decidesS m x = true ∧ hasPut m x = true ∧ maskOf m x < x.ts ∧ expS fs clock x = false ∧ above fs clock m x + 1 ≤ (famAt fs x.fam).1) ∧ hk x = e := by
  unfold fiveL
  rw [List.mem_map]
  constructor
  · rintro ⟨x, hx, rfl⟩
    obtain ⟨xm, hx⟩ := List.mem_filter.1 hx
    have h := (five_iff xm).1 (of_decide_eq_true hx)
    exact ⟨x, xm, h, (tld_hk h.1 h.2.1 h.2.2.1).symm⟩
  · rintro ⟨x, xm, h, rfl⟩
    exact ⟨x, List.mem_filter.2 ⟨xm, decide_eq_true ((five_iff xm).2 h)⟩, tld_hk h.1 h.2.1 h.2.2.1⟩
theorem Wk5.gp {m r : List En} (h : Wk5 fs clock m r) {x : En} {t : Int} (g : Gp r x t) : Gp m x t := by
  obtain ⟨y, hy, k, hM, rfl⟩ := g
  obtain ⟨z, hz, gz, hp⟩ := h.frm y hy (by omega)
  obtain ⟨u, hu, gu, k3⟩ := hasPut_iff.1 (hp k)
  have g := gpE_iff.1 (gpE_trans gu gz)
  exact ⟨u, hu, by omega, mates_trans (mates_of (gpE_trans gu gz)) hM, g.2.2.2.2.2⟩
theorem Wk5.five {m r : List En} (h : Wk5 fs clock m r) (hs : m.Pairwise Ah) (hr : r.Pairwise Ah) (e : En) : e ∈ fiveL fs clock m ↔ e ∈ fiveL fs clock r := by
  rw [five_mem, five_mem]
  constructor
  · rintro ⟨x, hx, ⟨h3, hd, hp, hm, he, ha⟩, rfl⟩
    have hmr : maskOf r x < x.ts := by have := h.mask x; omega
    have hsub : above fs clock r x ≤ above fs clock m x := by
      rw [← ups_len, ← ups_len]
      have := sub_len (desc_nodup (ups_desc (fs := fs) (clock := clock) hr x)) (fun t ht => (ups_mem hs h3 hm he t).2 (by
        have := (ups_mem hr h3 hmr he t).1 ht
        exact ⟨this.1, h.gp this.2⟩))
      omega
    rcases h.alt x hx h3 hd hp hm he with ⟨y, hy, e1, y3, yd, yp⟩ | hf
    · obtain ⟨a1, a2, a3, a4, a5, a6⟩ := hk_inj e1
      have M : mates y x = true := mates_iff.2 ⟨a1, a2, a3⟩
      have g : gpE y x = true := gpE_iff.2 ⟨y3, h3, a1, a2, a3, a4⟩
      refine ⟨y, hy, ⟨y3, yd, yp, ?_, ?_, ?_⟩, e1⟩
      · rw [mask_mates M y3 h3, a4]; exact hmr
      · rw [exp_mates a2 a4]; exact he
      · have : above fs clock r y = above fs clock r x := by
          unfold above
          have : ∀ z, mates z y = mates z x := fun z => by simp only [mates, a1, a2, a3]
          simp only [this, a4]
        rw [this, a2]
        omega
    · have := hf.above hr h3 hmr he
      omega
  · rintro ⟨y, hy, ⟨y3, yd, yp, ym, ye, ya⟩, rfl⟩
    have hmm := h.maskb y hy y3 ym
    obtain ⟨p, hp, gp, kp⟩ := hasPut_iff.1 yp
    obtain ⟨p3, -⟩ := gpE_iff.1 gp
    obtain ⟨z0, hz0, g0, hq⟩ := h.frm p hp p3
    have hput := hq (by omega)
    obtain ⟨z, hz, g1, zd⟩ := decider hs hz0 (gpE_iff.1 g0).1
    have gy : gpE z y = true := gpE_trans g1 (gpE_trans g0 gp)
    obtain ⟨z3, _, b1, b2, b3, b4⟩ := gpE_iff.1 gy
    have Mz := mates_of gy
    have zp : hasPut m z = true := by rw [hasPut_gp g1]; exact hput
    have zm : maskOf m z < z.ts := by rw [mask_mates Mz z3 y3, b4]; exact hmm
    have ze : expS fs clock z = false := by rw [exp_mates b2 b4]; exact ye
    have nofull : ∀ u : En, mates u y = true → y.ts ≤ u.ts → ¬ Full fs r u := fun u hu ht hf => by
      have := (hf.mono (s := r) (y := y) (fun e he => he) hu ht).above hr y3 ym ye
      omega
    rcases h.alt z hz z3 zd zp zm ze with ⟨y', hy', e1, y3', yd', yp'⟩ | hf
    · obtain ⟨a1, a2, a3, a4, a5, a6⟩ := hk_inj e1
      have gg : gpE y' y = true := gpE_iff.2 ⟨y3', y3, a1.trans b1, a2.trans b2, a3.trans b3, a4.trans b4⟩
      have := one_decides hr hy' hy gg yd' yd
      subst this
      refine ⟨z, hz, ⟨z3, zd, zp, zm, ze, ?_⟩, e1.symm⟩
      have hsub : above fs clock m z ≤ above fs clock r y' := by
        rw [← ups_len, ← ups_len]
        refine Int.ofNat_le.2 (sub_len (desc_nodup (ups_desc (fs := fs) (clock := clock) hs z)) (fun t ht => ?_))
        have ht2 := (ups_mem hs z3 zm ze t).1 ht
        refine (ups_mem hr y3 ym ye t).2 ⟨by omega, ?_⟩
        obtain ⟨p, hp, k, hM, rfl⟩ := ht2.2
        obtain ⟨u, hu, gu, ud⟩ := decider hs hp (by omega)
        obtain ⟨u3, _, c1, c2, c3, c4⟩ := gpE_iff.1 gu
        have Mu : mates u z = true := mates_trans (mates_of gu) hM
        have Muy : mates u y' = true := mates_trans Mu Mz
        rcases h.alt u hu u3 ud (hasPut_iff.2 ⟨p, hp, gpE_symm gu, by omega⟩) (by rw [mask_mates Mu u3 z3]; omega) (exp_up (mates_iff.1 Mu).2.1.symm (by omega) ze) with ⟨v, hv, e2, v3, vd, vp⟩ | hf
        · obtain ⟨d1, d2, d3, d4, d5, d6⟩ := hk_inj e2
          obtain ⟨q, hq, gq, kq⟩ := hasPut_iff.1 vp
          obtain ⟨q3, _, f1, f2, f3, f4⟩ := gpE_iff.1 gq
          exact ⟨q, hq, by omega, mates_trans (mates_iff.2 ⟨f1.trans d1, f2.trans d2, f3.trans d3⟩) Muy, by omega⟩
        · exact absurd hf (nofull u Muy (by omega))
      rw [← a2] at *
      omega
    · exact absurd hf (nofull z Mz (by omega))
end
end Go.Proofs.YthhkpkfpifllkaaGreat

namespace Go.Proofs.YthhkpkfpifllkaaGreat
open Go.RowKit
set_option linter.unusedVariables false

section
variable {fs : List (Int × Int)} {clock : Int}
theorem maskOf_sub {m r : List En} (h : ∀ y ∈ r, 4 ≤ y.kind → y ∈ m) (x : En) : maskOf r x ≤ maskOf m x :=
  maskOf_mono fun z hz c => ⟨h z hz (by rcases (cover_iff.1 c).2.2 with k | ⟨k, _⟩ <;> omega), c⟩
theorem shadow_sub {m r : List En} (h : ∀ y ∈ r, 4 ≤ y.kind → y ∈ m) {x : En} (hx : shadow m x = false) : shadow r x = false := by
  cases hr : shadow r x with
  | false => rfl
  | true =>
    obtain ⟨y, hy, c, k⟩ := shadow_iff.1 hr
    rw [shadow_iff.2 ⟨y, h y hy (by rcases (cover_iff.1 c).2.2 with k | ⟨k, _⟩ <;> omega), c, k⟩] at hx
    cases hx
structure Red (fs : List (Int × Int)) (clock : Int) (m r : List En) : Prop where
  frm : ∀ y ∈ r, y.kind ≤ 3 → ∃ x ∈ m, gpE x y = true ∧ x.seq = y.seq ∧ (y.kind ≤ 2 → hasPut m x = true)
  marks : ∀ y ∈ r, 4 ≤ y.kind → y ∈ m
  top : ∀ x ∈ m, 4 ≤ x.kind → shadow m x = false → x ∈ r
  alt : ∀ x ∈ m, x.kind ≤ 3 → decidesS m x = true → maskOf m x < x.ts → expS fs clock x = false → (∃ y ∈ r, hk y = hk x ∧ y.kind ≤ 3 ∧ (hasPut m x = true → hasPut r y = true)) ∨ Full fs r x
theorem Red.mask {m r : List En} (h : Red fs clock m r) (hs : m.Pairwise Ah) (hv : ∀ e ∈ m, Va e) (x : En) : maskOf r x = maskOf m x := by
  refine Int.le_antisymm (maskOf_sub h.marks x) ?_
  rcases top_mark hs hv x with h0 | ⟨z, hz, c, t, sh⟩
  · rw [h0]; exact maskOf_nn _ _
  · rw [← t]
    exact maskOf_le (h.top z hz (by rcases (cover_iff.1 c).2.2 with k | ⟨k, _⟩ <;> omega) sh) c
theorem Red.dec {m r : List En} (h : Red fs clock m r) {x y : En} (hd : decidesS m x = true) (e : hk y = hk x) (x3 : x.kind ≤ 3) : decidesS r y = true := by
  obtain ⟨a1, a2, a3, a4, a5, a6⟩ := hk_inj e
  refine decides_iff.2 fun z hz g => ?_
  obtain ⟨g1, g2, g3, g4, g5, g6⟩ := gpE_iff.1 g
  obtain ⟨u, hu, gu, sq, _⟩ := h.frm z hz g1
  have := decides_iff.1 hd u hu (gpE_trans gu (gpE_iff.2 ⟨g1, x3, g3.trans a1, g4.trans a2, g5.trans a3, g6.trans a4⟩))
  omega
theorem Red.wk {m r : List En} (h : Red fs clock m r) (hs : m.Pairwise Ah) (hv : ∀ e ∈ m, Va e) : Wk5 fs clock m r := by
  refine ⟨fun y hy k => ?_, fun x => Int.le_of_eq (h.mask hs hv x), fun y hy k t => by rw [← h.mask hs hv y]; exact t, fun x hx k d p t e => ?_⟩
  · obtain ⟨x, hx, g, _, p⟩ := h.frm y hy k
    exact ⟨x, hx, g, p⟩
  · rcases h.alt x hx k d t e with ⟨y, hy, e1, k1, p1⟩ | f
    · exact .inl ⟨y, hy, e1, k1, h.dec d e1 k, p1 p⟩
    · exact .inr f
theorem Red.later {m r : List En} {c : Int} (h : Red fs c m r) (hc : c ≤ clock) : Red fs clock m r :=
  ⟨h.frm, h.marks, h.top, fun x hx k d t e => h.alt x hx k d t (exp_early hc e)⟩
theorem gp_hk {x y : En} (e : hk y = hk x) (x3 : x.kind ≤ 3) (y3 : y.kind ≤ 3) : gpE y x = true := by
  obtain ⟨a1, a2, a3, a4, a5, a6⟩ := hk_inj e
  exact gpE_iff.2 ⟨y3, x3, a1, a2, a3, a4⟩
theorem Red.trans {m r s : List En} (h : Red fs clock m r) (k : Red fs clock r s) (hs : m.Pairwise Ah) (hv : ∀ e ∈ m, Va e) (hr : r.Pairwise Ah) : Red fs clock m s := by
  have nput : ∀ {x y : En}, gpE x y = true → hasPut r x = true → hasPut m y = true := fun {x y} g hp => by
    obtain ⟨z, hz, gz, kz⟩ := hasPut_iff.1 hp
    have z3 := (gpE_iff.1 gz).1
    obtain ⟨u, hu, gu, _, pu⟩ := h.frm z hz z3
    rw [← hasPut_gp (gpE_trans gu (gpE_trans gz g))]
    exact pu (by omega)
  refine ⟨fun y hy y3 => ?_, fun y hy y4 => h.marks y (k.marks y hy y4) y4, fun x hx x4 sh => k.top x (h.top x hx x4 sh) x4 (shadow_sub h.marks sh), fun x hx x3 xd xm xe => ?_⟩
  · obtain ⟨x, hx, g, sq, p⟩ := k.frm y hy y3
    obtain ⟨u, hu, gu, squ, pu⟩ := h.frm x hx (gpE_iff.1 g).1
    exact ⟨u, hu, gpE_trans gu g, squ.trans sq, fun z => nput (gpE_symm gu) (p z)⟩
  · rcases h.alt x hx x3 xd xm xe with ⟨y, hy, e1, y3, yp⟩ | f
    · have g := gp_hk e1 x3 y3
      obtain ⟨g1, g2, g3, g4, g5, g6⟩ := gpE_iff.1 g
      have ym : maskOf r y < y.ts := by rw [h.mask hs hv, mask_mates (mates_of g) y3 x3, g6]; exact xm
      have ye : expS fs clock y = false := by rw [exp_mates g4 g6]; exact xe
      rcases k.alt y hy y3 (h.dec xd e1 x3) ym ye with ⟨z, hz, e2, z3, zp⟩ | f
      · exact .inl ⟨z, hz, e2.trans e1, z3, fun p => zp (yp p)⟩
      · exact .inr (f.mono (fun e he => he) (mates_of g) (by omega))
    · by_cases hf : Full fs s x
      · exact .inr hf
      · right
        obtain ⟨ts, nd, ln, ht⟩ := f
        refine ⟨ts, nd, ln, fun t h1 => ⟨(ht t h1).1, ?_⟩⟩
        obtain ⟨h2, p, hp, kp, hM, rfl⟩ := ht t h1
        obtain ⟨u, hu, gu, ud⟩ := decider hr hp (by omega)
        obtain ⟨u3, _, c1, c2, c3, c4⟩ := gpE_iff.1 gu
        have Mu : mates u x = true := mates_trans (mates_of gu) hM
        rcases k.alt u hu u3 ud (by rw [h.mask hs hv, mask_mates Mu u3 x3]; omega) (exp_up (mates_iff.1 Mu).2.1.symm (by omega) xe) with ⟨v, hv, e2, v3, vp⟩ | f2
        · have gv := gp_hk e2 u3 v3
          obtain ⟨q, hq, gq, kq⟩ := hasPut_iff.1 (vp (hasPut_iff.2 ⟨p, hp, gpE_symm gu, by omega⟩))
          obtain ⟨q3, _, f1, f2, f3, f4⟩ := gpE_iff.1 gq
          obtain ⟨_, _, d1, d2, d3, d4⟩ := gpE_iff.1 gv
          exact ⟨q, hq, by omega, mates_trans (mates_of (gpE_trans gq gv)) Mu, by omega⟩
        · exact absurd (f2.mono (s := s) (y := x) (fun e he => he) Mu (by omega)) hf
end
end Go.Proofs.YthhkpkfpifllkaaGreat
