import Derived.Test.YthhkpkfpifllkaaK13
import Derived.Shelf.SlSortCmp.NoneTotal
namespace Go.Proofs.Ythhkpkfpifllkaa
open Go.RowKit
set_option linter.unusedVariables false

theorem va_of_check {k : Nat} {e : EntD} (h : check3S k e = 0) : Va e.dat := by
  unfold check3S at h
  by_cases hc : checkS e = 0
  · unfold checkS at hc
    repeat' split at hc
    all_goals first | (exfalso; omega) | skip
    have hq : ∀ l : List Nat, ¬ 0 < l.length → l = [] := fun l hl => List.eq_nil_of_length_eq_zero (by omega)
    refine ⟨?_, ?_, ?_, fun z => hq _ (fun y => ?_), fun z => hq _ (fun y => ?_)⟩
    · show 1 ≤ e.kind; omega
    · show e.kind ≤ 5; omega
    · show 1 ≤ e.ts; omega
    · have z : e.kind ≠ 1 := z
      have y : 0 < e.val.length := y
      omega
    · have z : e.kind = 5 := z
      have y : 0 < e.qual.length := y
      omega
  · rw [if_pos hc] at h
    omega
theorem mark_cases (k a : Int) : (mark k a : Int) = if k = a then 0 else 1 := by
  unfold mark
  split <;> rfl
theorem cmpI_le {a b : Int} (h : cmpI a b ≤ 0) : a ≤ b := by
  unfold cmpI at h
  repeat' split at h
  all_goals omega
theorem cmpI_zero3 {a b : Int} : cmpI a b = 0 ↔ a = b := by
  unfold cmpI
  repeat' split
  all_goals omega
theorem lex_le {a b : Int} (h : (if a = 0 then b else a) ≤ 0) : a ≤ 0 ∧ (a = 0 → b ≤ 0) := by
  by_cases z : a = 0
  · rw [if_pos z] at h; exact ⟨by omega, fun _ => h⟩
  · rw [if_neg z] at h; exact ⟨h, fun y => absurd y z⟩
theorem ah_of {x y : EntD} (h : compareS x y ≤ 0) (hne : x.seq ≠ y.seq) : Ah x.dat y.dat := by
  unfold compareS cmpsS at h
  simp only [firstNZ] at h
  obtain ⟨h1, h⟩ := lex_le h
  have r0 : x.row = y.row → ordC x.row y.row = 0 := fun e => by rw [e]; exact ordC_self _
  have q0 : x.qual = y.qual → ordC x.qual y.qual = 0 := fun e => by rw [e]; exact ordC_self _
  have a5 : (x.kind = 5 ↔ y.kind = 5) → aheadS x y 5 = 0 := fun e => by
    unfold aheadS
    rw [cmpI_zero3, mark_cases, mark_cases]
    split <;> split <;> omega
  have a4 : (x.kind = 4 ↔ y.kind = 4) → aheadS x y 4 = 0 := fun e => by
    unfold aheadS
    rw [cmpI_zero3, mark_cases, mark_cases]
    split <;> split <;> omega
  refine ⟨h1, fun e1 => ?_, fun e1 e2 e3 => ?_, fun e1 e2 e3 => ?_, fun e1 e2 e3 e4 e5 => ?_, fun e1 e2 e3 e4 e5 => ?_, fun e1 e2 e3 e4 e5 e6 => ?_⟩
  · exact cmpI_le (lex_le (h (r0 e1))).1
  · have := (lex_le ((lex_le (h (r0 e1))).2 (cmpI_zero3.2 e2))).1
    have := cmpI_le this
    rw [mark_cases, mark_cases] at this
    show x.kind = 5
    have e3 : y.kind = 5 := e3
    rw [if_pos e3] at this
    split at this
    · assumption
    · omega
  · exact (lex_le ((lex_le ((lex_le (h (r0 e1))).2 (cmpI_zero3.2 e2))).2 (a5 e3))).1
  · have := (lex_le ((lex_le ((lex_le ((lex_le (h (r0 e1))).2 (cmpI_zero3.2 e2))).2 (a5 e3))).2 (q0 e4))).1
    have := cmpI_le this
    rw [mark_cases, mark_cases] at this
    show x.kind = 4
    have e5 : y.kind = 4 := e5
    rw [if_pos e5] at this
    split at this
    · assumption
    · omega
  · exact cmpI_le (lex_le ((lex_le ((lex_le ((lex_le ((lex_le (h (r0 e1))).2 (cmpI_zero3.2 e2))).2 (a5 e3))).2 (q0 e4))).2 (a4 e5))).1
  · have := cmpI_le (lex_le ((lex_le ((lex_le ((lex_le ((lex_le ((lex_le (h (r0 e1))).2 (cmpI_zero3.2 e2))).2 (a5 e3))).2 (q0 e4))).2 (a4 e5))).2 (cmpI_zero3.2 e6.symm))).1
    show y.seq < x.seq
    omega
theorem ah_irrefl {a : En} (h : Ah a a) : False := by
  have := h.seq rfl rfl Iff.rfl rfl Iff.rfl rfl
  omega
theorem ah_asymm {a b : En} (h : Ah a b) (k : Ah b a) : False := by
  have r : a.row = b.row := by have := ordC_swap a.row b.row; have := h.row; have := k.row; exact ordC_eq _ _ (by omega)
  have f : a.fam = b.fam := by have := h.fam r; have := k.fam r.symm; omega
  have k5 : a.kind = 5 ↔ b.kind = 5 := ⟨k.k5 r.symm f.symm, h.k5 r f⟩
  have q : a.qual = b.qual := by have := ordC_swap a.qual b.qual; have := h.qual r f k5; have := k.qual r.symm f.symm k5.symm; exact ordC_eq _ _ (by omega)
  have k4 : a.kind = 4 ↔ b.kind = 4 := ⟨k.k4 r.symm f.symm k5.symm q.symm, h.k4 r f k5 q⟩
  have t : a.ts = b.ts := by have := h.ts r f k5 q k4; have := k.ts r.symm f.symm k5.symm q.symm k4.symm; omega
  have := h.seq r f k5 q k4 t
  have := k.seq r.symm f.symm k5.symm q.symm k4.symm t.symm
  omega
theorem ord_unique : ∀ {l l' : List En}, l.Pairwise Ah → l'.Pairwise Ah → (∀ e, e ∈ l ↔ e ∈ l') → l = l'
  | [], [], _, _, _ => rfl
  | [], b :: t', _, _, h => by have := (h b).2 List.mem_cons_self; cases this
  | a :: t, [], _, _, h => by have := (h a).1 List.mem_cons_self; cases this
  | a :: t, b :: t', hl, hl', h => by
    have p := List.pairwise_cons.1 hl
    have p' := List.pairwise_cons.1 hl'
    have e : a = b := by
      rcases List.mem_cons.1 ((h a).1 List.mem_cons_self) with e | m1
      · exact e
      · rcases List.mem_cons.1 ((h b).2 List.mem_cons_self) with e | m2
        · exact e.symm
        · exact (ah_asymm (p.1 b m2) (p'.1 a m1)).elim
    subst e
    congr 1
    refine ord_unique p.2 p'.2 fun x => ⟨fun hx => ?_, fun hx => ?_⟩
    · rcases List.mem_cons.1 ((h x).1 (List.mem_cons_of_mem _ hx)) with rfl | q
      · exact (ah_irrefl (p.1 x hx)).elim
      · exact q
    · rcases List.mem_cons.1 ((h x).2 (List.mem_cons_of_mem _ hx)) with rfl | q
      · exact (ah_irrefl (p'.1 x hx)).elim
      · exact q
def EntD.ofEn (e : En) : EntD := ⟨.slice none 0 0, e.fam, .slice none 0 0, e.ts, e.seq, e.kind, .slice none 0 0, e.row, e.qual, e.val⟩
theorem check_dat (k : Nat) (x : EntD) : check3S k x = check3S k (EntD.ofEn x.dat) := rfl
structure IsOrd (k : Nat) (l m : List En) : Prop where
  ah : m.Pairwise Ah
  ne : m.Pairwise fun a b => a.seq ≠ b.seq
  va : ∀ e ∈ m, Va e
  ck : ∀ e ∈ m, check3S k (EntD.ofEn e) = 0
  mem : ∀ e, e ∈ m ↔ e ∈ l
theorem IsOrd.unique {k k' : Nat} {l m m' : List En} (h : IsOrd k l m) (h' : IsOrd k' l m') : m = m' := ord_unique h.ah h'.ah fun e => (h.mem e).trans (h'.mem e).symm
theorem sameS_dat {a b : EntD} (h : sameS a b = true) : a.dat = b.dat := by
  unfold sameS at h
  simp only [Bool.and_eq_true, decide_eq_true_eq] at h
  obtain ⟨h1, h2⟩ := h
  unfold compareS cmpsS at h1
  simp only [firstNZ] at h1
  have z : ∀ {a b : Int}, (if a = 0 then b else a) = 0 → a = 0 ∧ b = 0 := fun {a b} e => by
    by_cases y : a = 0
    · rw [if_pos y] at e; exact ⟨y, e⟩
    · rw [if_neg y] at e; exact absurd e y
  obtain ⟨z1, h1⟩ := z h1
  obtain ⟨z2, h1⟩ := z h1
  obtain ⟨z3, h1⟩ := z h1
  obtain ⟨z4, h1⟩ := z h1
  obtain ⟨z5, h1⟩ := z h1
  obtain ⟨z6, h1⟩ := z h1
  obtain ⟨z7, h1⟩ := z h1
  obtain ⟨z8, h1⟩ := z h1
  unfold EntD.dat
  rw [ordC_eq _ _ z1, cmpI_zero3.1 z2, ordC_eq _ _ z4, ← cmpI_zero3.1 z6, ← cmpI_zero3.1 z7, cmpI_zero3.1 z8, h2]
theorem sameS_of {a b : EntD} (h : a.dat = b.dat) : sameS a b = true := by
  have e := EntD.dat_same.1 h
  have : compareS a b = 0 := by rw [compareS_same (c := b) (d := b) e (EntD.dat_same.1 rfl)]; exact compareS_self b
  unfold sameS
  rw [this, e.2.2.2.2.2.2]
  simp
theorem once_all (l : List EntD) : ∀ (acc xs : List EntD), (acc.Pairwise fun a b => a.seq ≠ b.seq) → l.foldl (fun o e => o.bind fun xs => addO xs e) (some acc) = some xs → (xs.Pairwise fun a b => a.seq ≠ b.seq) ∧ ∀ d, d ∈ xs.map EntD.dat ↔ d ∈ (acc ++ l).map EntD.dat := by
  induction l with
  | nil => intro acc xs hp h; cases h; exact ⟨hp, fun d => by rw [List.append_nil]⟩
  | cons e r ih =>
    intro acc xs hp h
    have h2 : r.foldl (fun o e => o.bind fun xs => addO xs e) (addO acc e) = some xs := h
    cases hf : acc.find? (fun x => x.seq == e.seq) with
    | none =>
      have ha : addO acc e = some (acc ++ [e]) := by unfold addO; rw [hf]
      rw [ha] at h2
      have hn := List.find?_eq_none.1 hf
      have := ih (acc ++ [e]) xs (List.pairwise_append.2 ⟨hp, List.pairwise_singleton _ _, fun x hx y hy => by
        rw [List.mem_singleton] at hy
        subst hy
        have := hn x hx
        simpa using this⟩) h2
      refine ⟨this.1, fun d => ?_⟩
      rw [this.2 d, List.append_assoc]
      rfl
    | some x =>
      have ha : addO acc e = if sameS x e then some acc else none := addO_old hf
      rw [ha] at h2
      cases hs : sameS x e with
      | false => rw [hs] at h2; rw [if_neg (by simp), once_none] at h2; cases h2
      | true =>
        rw [hs, if_pos rfl] at h2
        have := ih acc xs hp h2
        refine ⟨this.1, fun d => ?_⟩
        rw [this.2 d, List.map_append, List.map_append, List.map_cons, List.mem_append, List.mem_append, List.mem_cons]
        have xd := sameS_dat hs
        have xm : x ∈ acc := List.mem_of_find?_eq_some hf
        constructor
        · rintro (q | q)
          · exact .inl q
          · exact .inr (.inr q)
        · rintro (q | q | q)
          · exact .inl q
          · exact .inl (by rw [q, ← xd]; exact List.mem_map_of_mem xm)
          · exact .inr q
theorem isOrd_of {k : Nat} {l xs ys : List EntD} (hc : inOrderE (check3S k) l = 0) (ho : onceS l = some xs) (hp : ys.Perm xs) (hs : ys.Pairwise fun x y => compareS x y ≤ 0) : IsOrd k (l.map EntD.dat) (ys.map EntD.dat) := by
  obtain ⟨hall, -⟩ := inOrder_ok hc
  obtain ⟨h1, h2⟩ := once_all l [] xs List.Pairwise.nil ho
  have hne : ys.Pairwise fun a b => a.seq ≠ b.seq := (hp.pairwise_iff (fun h => Ne.symm h)).2 h1
  have hmem : ∀ y ∈ ys, y ∈ l := fun y hy => onceS_mem ho y (hp.mem_iff.1 hy)
  refine ⟨?_, ?_, fun e he => ?_, fun e he => ?_, fun e => ?_⟩
  · rw [List.pairwise_map]
    exact (hs.and hne).imp fun h => ah_of h.1 h.2
  · rw [List.pairwise_map]; exact hne
  · obtain ⟨y, hy, rfl⟩ := List.mem_map.1 he
    exact va_of_check (hall y (hmem y hy))
  · obtain ⟨y, hy, rfl⟩ := List.mem_map.1 he
    exact hall y (hmem y hy)
  · rw [(hp.map EntD.dat).mem_iff]
    exact h2 e
theorem firstBad_none {chk : EntD → Int} {l : List EntD} (h : ∀ x ∈ l, chk x = 0) : firstBad chk l = 0 := firstBad_zero h
theorem once_self (l : List EntD) : ∀ (acc : List EntD), ((acc ++ l).Pairwise fun a b => a.seq ≠ b.seq) → l.foldl (fun o e => o.bind fun xs => addO xs e) (some acc) = some (acc ++ l) := by
  induction l with
  | nil => intro acc _; rw [List.append_nil]; rfl
  | cons e r ih =>
    intro acc hp
    show r.foldl (fun o e => o.bind fun xs => addO xs e) (addO acc e) = _
    have hf : acc.find? (fun x => x.seq == e.seq) = none := List.find?_eq_none.2 fun x hx => by
      have := (List.pairwise_append.1 hp).2.2 x hx e List.mem_cons_self
      simpa using this
    have ha : addO acc e = some (acc ++ [e]) := by unfold addO; rw [hf]
    rw [ha, ih (acc ++ [e]) (by rw [List.append_assoc]; exact hp), List.append_assoc]
    rfl
theorem IsOrd.takes {k : Nat} {l m : List En} (h : IsOrd k l m) {zs : List EntD} (hz : zs.map EntD.dat = m) : inOrderE (check3S k) zs = 0 := by
  have hne : zs.Pairwise fun a b => a.seq ≠ b.seq := by
    have := h.ne
    rw [← hz, List.pairwise_map] at this
    exact this
  have ho : onceS zs = some zs := by simpa [onceS] using once_self zs [] (by simpa using hne)
  unfold inOrderE
  rw [firstBad_zero (fun x hx => by rw [check_dat]; exact h.ck x.dat (by rw [← hz]; exact List.mem_map_of_mem hx)), if_neg (by simp), if_neg (by rw [ho]; simp)]
theorem tld_two (m : List En) (e : En) : tld m e = e ∨ (e.kind = 3 ∧ tld m e = { e with kind := 2 }) := by
  unfold tld
  split
  · exact .inl rfl
  · split
    · rcases kd_cases m e with h | ⟨h, h2⟩
      · rw [h]; exact .inl rfl
      · rw [h2]; exact .inr ⟨h, rfl⟩
    · exact .inl rfl
theorem check_zero {k : Nat} {e : EntD} : check3S k e = 0 ↔ (¬ (e.row.length = 0 ∨ 256 < e.row.length) ∧ ¬ (e.fam < 0 ∨ 8 ≤ e.fam) ∧ ¬ (256 < e.qual.length ∨ (0 < e.qual.length ∧ e.kind = 5)) ∧ ¬ (e.ts < 1 ∨ 1099511627776 < e.ts) ∧ ¬ (e.seq < 0 ∨ 17592186044431 < e.seq) ∧ ¬ (e.kind < 1 ∨ 5 < e.kind) ∧ ¬ (4096 < e.val.length ∨ (0 < e.val.length ∧ e.kind ≠ 1))) ∧ ¬ (k : Int) ≤ e.fam := by
  constructor
  · intro h
    unfold check3S at h
    by_cases z : checkS e = 0
    · rw [if_neg (by simpa using z)] at h
      refine ⟨?_, fun y => by rw [if_pos y] at h; cases h⟩
      unfold checkS at z
      repeat' split at z
      all_goals first | (exfalso; omega) | skip
      refine ⟨by assumption, by assumption, by assumption, by assumption, by assumption, by assumption, by assumption⟩
    · rw [if_pos z] at h; omega
  · rintro ⟨⟨h1, h2, h3, h4, h5, h6, h7⟩, h8⟩
    have z : checkS e = 0 := by unfold checkS; rw [if_neg h1, if_neg h2, if_neg h3, if_neg h4, if_neg h5, if_neg h6, if_neg h7]
    unfold check3S
    rw [if_neg (by simpa using z), if_neg h8]
theorem tld_ck {k : Nat} (m : List En) {e : En} (h : check3S k (EntD.ofEn e) = 0) : check3S k (EntD.ofEn (tld m e)) = 0 := by
  rcases tld_two m e with h0 | ⟨h3, h0⟩
  · rw [h0]; exact h
  · rw [h0]
    rw [check_zero] at h ⊢
    simp only [EntD.ofEn] at h ⊢
    refine ⟨⟨h.1.1, h.1.2.1, ?_, h.1.2.2.2.1, h.1.2.2.2.2.1, by omega, ?_⟩, h.2⟩
    · have := h.1.2.2.1; omega
    · have := h.1.2.2.2.2.2.2; omega
theorem IsOrd.left {fs : List (Int × Int)} {clock low : Int} {k : Nat} {l m : List En} (h : IsOrd k l m) (major : Bool) : IsOrd k (outS major low (verdictsS fs clock m)) (outS major low (verdictsS fs clock m)) := by
  rw [out_tld h.ah h.va]
  refine ⟨tld_sorted h.ah _, ?_, fun e he => ?_, fun e he => ?_, fun e => Iff.rfl⟩
  · rw [List.pairwise_map]
    refine (h.ne.filter _).imp fun {a b} hab => ?_
    rw [(tld_eq m a).2.2.2.2.1, (tld_eq m b).2.2.2.2.1]
    exact hab
  · obtain ⟨x, hx, rfl⟩ := List.mem_map.1 he
    exact tld_va m (h.va x (List.mem_filter.1 hx).1)
  · obtain ⟨x, hx, rfl⟩ := List.mem_map.1 he
    exact tld_ck m (h.ck x (List.mem_filter.1 hx).1)
end Go.Proofs.Ythhkpkfpifllkaa

namespace Go.Proofs.Ythhkpkfpifllkaa
open Go.RowKit
set_option linter.unusedVariables false

theorem sort_ok : SortP := sort_holds fun c' Z => AnyF.slices_SortFunc_none (P := Try.prog) (ρ := laidSort) laysSort none c' _ Z
theorem squash_all {W : World} {cap fc : Nat} {a fa : Option Addr} {fs : List FamD} {l : List EntD} (hr : RdF W (.slice fa fs.length fc) fs) (hn : fa = none → fc = 0) (C : Nat) (hC : (C = 0 ↔ SchemaOk fs) ∧ (C = 0 ∨ C = 28)) (clock low : Int) (major : Bool) (h0 : RdL3 W a cap l) (hl : l.length ≤ 1353245080300) :
    Calls Try.prog 9 #[.agg #[.slice fa fs.length fc], .int .i64 clock, .bool major, .int .i64 low, .slice a l.length cap] W fun r W' => Below W.heap.size W W' ∧ (squashE C fs clock low l ≠ 0 → r = .returned (.tuple #[.slice none 0 0, .int .i64 (squashE C fs clock low l)])) ∧ (squashE C fs clock low l = 0 → ∃ (zs : List EntD) (m : List En) (v : Value) (O : Nat → Prop), IsOrd fs.length (l.map EntD.dat) m ∧ r = .returned (.tuple #[v, .int .i64 0]) ∧ Rw W' W.heap.size v zs O ∧ zs.map EntD.dat = outS major low (verdictsS (mt fs) clock m) ∧ zs.length ≤ l.length) := by
  refine Calls.mono (squash_any sort_ok hr hn C hC clock low major h0 hl) ?_
  rintro r W' ⟨h1, h2, h3⟩
  refine ⟨h1, h2, fun z => ?_⟩
  obtain ⟨xs, ys, zs, v, O, k1, k2, k3, k4, k5, k6⟩ := h3 z
  have hi : inOrderE (check3S fs.length) l = 0 := by
    unfold squashE at z
    by_cases y : boundsS C [clock, low] = 0
    · rwa [if_neg (by simpa using y)] at z
    · rw [if_pos y] at z; exact absurd z y
  have ho := isOrd_of hi k1 k2 k3
  refine ⟨zs, _, v, O, ho, k4, k5, k6, ?_⟩
  have e : zs.length = (outS major low (verdictsS (mt fs) clock (ys.map EntD.dat))).length := by rw [← k6, List.length_map]
  rw [e, out_tld ho.ah ho.va, List.length_map]
  refine Nat.le_trans (List.length_filter_le _ _) ?_
  rw [List.length_map, k2.length_eq]
  exact onceS_len k1
end Go.Proofs.Ythhkpkfpifllkaa

namespace Go.Proofs.Ythhkpkfpifllkaa
open Go.RowKit
set_option linter.unusedVariables false

instance (a b : EntD) : Decidable (EntD.Same a b) := by unfold EntD.Same; infer_instance
set_option maxRecDepth 100000 in
theorem alike_any {a b : Value} {xs ys : List Nat} {w : World} (ha : Rd w a xs) (hb : Rd w b ys) :
    Calls Try.prog 31 #[a, b] w fun e w' => e = .returned (.bool (decide (xs = ys))) ∧ w' = w := by
  have h1 := conv_str ha
  have h2 := conv_str hb
  go_enter Try.func31, Try.ntmps31
  go_wp2
  go_ret
  exact ⟨by rw [← beq_str ha.1 hb.1]; rfl, rfl⟩
theorem alikeB_any {a b : Value} {xs ys : List Nat} {w : World} (ha : Rd w a xs) (hb : Rd w b ys) :
    Calls Try.prog 31 #[a, b] w fun e w' => e = .returned (.bool (decide (xs = ys))) ∧ Below w.heap.size w w' :=
  Calls.mono (alike_any ha hb) fun r w' h => ⟨h.1, by rw [h.2]; exact Below.refl _ _⟩

set_option maxRecDepth 100000 in
set_option maxHeartbeats 8000000 in
theorem same3r_any {a b : EntD} {w : World} (ha : EntD.Ok w a) (hb : EntD.Ok w b) :
    Calls Try.prog 18 #[.agg a.cells, .agg b.cells] w fun r w' => r = .returned (.bool (decide (EntD.Same a b))) ∧ Below w.heap.size w w' := by
  have A1 := (Below.refl w.heap.size w).alloc (Nat.le_refl _) (.cells a.cells 45)
  have A2 := A1.alloc A1.size (.cells b.cells 45)
  have bxa0 := (EBox.new w a).later ((Below.refl (w.alloc (.cells a.cells 45)).heap.size (w.alloc (.cells a.cells 45))).alloc (Nat.le_refl _) (.cells b.cells 45))
  have bxb0 := EBox.new (w.alloc (.cells a.cells 45)) b
  rw [World.size_alloc] at bxb0
  obtain ⟨V, hV⟩ : ∃ V, V = (w.alloc (.cells a.cells 45)).alloc (.cells b.cells 45) := ⟨_, rfl⟩
  rw [← hV] at A2 bxa0 bxb0
  have HV : Hid (V = _) := hV
  clear hV A1
  have HX : Hid (EBox V w.heap.size a ∧ EBox V (w.heap.size + 1) b ∧ Below w.heap.size w V) := ⟨bxa0, bxb0, A2⟩
  have HA : Hid (∀ wx, Below V.heap.size V wx → EntD.Ok wx a ∧ EntD.Ok wx b ∧ EBox wx w.heap.size a ∧ EBox wx (w.heap.size + 1) b) := fun wx q => ⟨(ha.later A2).later q, (hb.later A2).later q, bxa0.later q, bxb0.later q⟩
  obtain ⟨c0, c1, c2, c3, c4, c5, c6⟩ := (⟨bxa0.vr, bxa0.fam, bxa0.vq, bxa0.ts, bxa0.seq, bxa0.kind, bxa0.vv⟩ : _ ∧ _ ∧ _ ∧ _ ∧ _ ∧ _ ∧ _)
  obtain ⟨d0, d1, d2, d3, d4, d5, d6⟩ := (⟨bxb0.vr, bxb0.fam, bxb0.vq, bxb0.ts, bxb0.seq, bxb0.kind, bxb0.vv⟩ : _ ∧ _ ∧ _ ∧ _ ∧ _ ∧ _ ∧ _)
  clear A2 bxa0 bxb0 ha hb
  obtain ⟨va, fa, qa, ta, sa, ka, wa, ra, la, ya⟩ := a
  obtain ⟨vb, fb, qb, tb, sb, kb, wb, rb, lb, yb⟩ := b
  simp only [EntD.cells] at *
  by_cases h1 : fa = fb
  · by_cases h2 : ta = tb
    · by_cases h3 : sa = sb
      · by_cases h4 : ka = kb
        · subst h1 h2 h3 h4
          go_enter Try.func18, Try.ntmps18
          go_wp2_with fail
          rw [← HV.out]
          go_wp2_with fail
          refine (alikeB_any (HA.out _ (Below.refl _ _)).1.1 (HA.out _ (Below.refl _ _)).2.1.1).mono ?_
          rintro e w1 ⟨rfl, hb1⟩
          by_cases e1 : ra = rb
          · rw [decide_eq_true e1]
            have x2 := (HA.out _ hb1).2.2.1.vq
            have y2 := (HA.out _ hb1).2.2.2.vq
            simp only at x2 y2
            go_wp2_with fail
            refine (alikeB_any (HA.out _ hb1).1.2.1 (HA.out _ hb1).2.1.2.1).mono ?_
            rintro e w2 ⟨rfl, hb2⟩
            have B2 := hb1.trans (hb2.mono hb1.size)
            by_cases e2 : la = lb
            · rw [decide_eq_true e2]
              have x6 := (HA.out _ B2).2.2.1.vv
              have y6 := (HA.out _ B2).2.2.2.vv
              simp only at x6 y6
              go_wp2_with fail
              refine (alikeB_any (HA.out _ B2).1.2.2 (HA.out _ B2).2.1.2.2).mono ?_
              rintro e w3 ⟨rfl, hb3⟩
              have B3 := B2.trans (hb3.mono B2.size)
              by_cases e3 : ya = yb
              · rw [decide_eq_true e3]
                go_wp2
                go_ret
                have hd : decide (EntD.Same ⟨va, fa, qa, ta, sa, ka, wa, ra, la, ya⟩ ⟨vb, fa, qb, ta, sa, ka, wb, rb, lb, yb⟩) = true := decide_eq_true ⟨rfl, rfl, rfl, rfl, e1, e2, e3⟩
                rw [hd]
                exact ⟨rfl, HX.out.2.2.trans (B3.mono HX.out.2.2.size)⟩
              · rw [decide_eq_false e3]
                go_wp2
                go_ret
                rw [decide_eq_false (show ¬ EntD.Same _ _ from fun h => e3 h.2.2.2.2.2.2)]
                exact ⟨rfl, HX.out.2.2.trans (B3.mono HX.out.2.2.size)⟩
            · rw [decide_eq_false e2]
              go_wp2
              go_ret
              rw [decide_eq_false (show ¬ EntD.Same _ _ from fun h => e2 h.2.2.2.2.2.1)]
              exact ⟨rfl, HX.out.2.2.trans (B2.mono HX.out.2.2.size)⟩
          · rw [decide_eq_false e1]
            go_wp2
            go_ret
            rw [decide_eq_false (show ¬ EntD.Same _ _ from fun h => e1 h.2.2.2.2.1)]
            exact ⟨rfl, HX.out.2.2.trans (hb1.mono HX.out.2.2.size)⟩
        · subst h1 h2 h3
          go_enter Try.func18, Try.ntmps18
          go_wp2_with fail
          rw [← HV.out]
          go_wp2
          go_ret
          rw [decide_eq_false (show ¬ EntD.Same _ _ from fun h => h4 h.2.2.2.1)]
          exact ⟨rfl, HX.out.2.2⟩
      · subst h1 h2
        go_enter Try.func18, Try.ntmps18
        go_wp2_with fail
        rw [← HV.out]
        go_wp2
        go_ret
        rw [decide_eq_false (show ¬ EntD.Same _ _ from fun h => h3 h.2.2.1)]
        exact ⟨rfl, HX.out.2.2⟩
    · subst h1
      go_enter Try.func18, Try.ntmps18
      go_wp2_with fail
      rw [← HV.out]
      go_wp2
      go_ret
      rw [decide_eq_false (show ¬ EntD.Same _ _ from fun h => h2 h.2.1)]
      exact ⟨rfl, HX.out.2.2⟩
  · go_enter Try.func18, Try.ntmps18
    go_wp2_with fail
    rw [← HV.out]
    go_wp2
    go_ret
    rw [decide_eq_false (show ¬ EntD.Same _ _ from fun h => h1 h.1)]
    exact ⟨rfl, HX.out.2.2⟩
end Go.Proofs.Ythhkpkfpifllkaa

namespace Go.Proofs.Ythhkpkfpifllkaa
open Go.RowKit
set_option linter.unusedVariables false

theorem RdL3.cells {w w' : World} {b off cap : Nat} {xs : List EntD} (h : RdL3 w (some ⟨b, off, none⟩) cap xs) (hb : Below w.heap.size w w') {t : Nat} {x : EntD} (hx : xs[t]? = some x) : ∀ (j : Nat) u, x.cells.toList[j]? = some u → w'.cell? ⟨b, off + t * 7 + j, none⟩ = some u := by
  rcases (h.later hb).at_ with h0 | ⟨b2, off2, e, hc⟩
  · rw [h0] at hx; simp at hx
  · cases e
    exact hc t x hx
set_option maxRecDepth 100000 in
set_option maxHeartbeats 4000000 in
theorem sameAll_ok {w : World} {aa ab : Option Addr} {ca cb : Nat} {xs ys : List EntD} (ha : RdL3 w aa ca xs) (hb : RdL3 w ab cb ys) (hs : xs.map EntD.dat = ys.map EntD.dat) (hl : xs.length ≤ 1353245080300) :
    Calls Try.prog 10 #[.slice aa xs.length ca, .slice ab ys.length cb] w fun e w' => e = .returned (.bool true) ∧ Below w.heap.size w w' := by
  have HA := Lib.hid ha
  have HB := Lib.hid hb
  have el : ys.length = xs.length := by have := congrArg List.length hs; simpa using this.symm
  have HS := Lib.hid hs
  obtain ⟨n, hn⟩ : ∃ n, n = xs.length := ⟨_, rfl⟩
  rw [el, ← hn]
  rw [← hn] at hl
  have a1 : n ≤ ca := by rw [hn]; exact ha.cap.1
  have b1 : n ≤ cb := by rw [hn, ← el]; exact hb.cap.1
  have HN : Hid (xs.length = n) := hn.symm
  have HEl : Hid (ys.length = n) := el.trans hn.symm
  clear hn hs el ha hb
  have hmx : Try.prog.follows .mixedOrders = true := by kernel_rfl
  go_enter Try.func10, Try.ntmps10
  go_wp2
  go_loopw [5] (fun i wr => ∃ t : Nat, t ≤ n ∧ i = .int .i64 (t : Int) ∧ Below w.heap.size w wr) (fun i _ => n - (intOf i).toNat)
  case atStart => exact ⟨0, by omega, rfl, Below.refl _ _⟩
  case round =>
    obtain ⟨t, htn, rfl, hbk⟩ := hrel
    by_cases h1 : t < n
    · have h1' : (t : Int) < (n : Int) := by omega
      have ht0 : (0 : Int) ≤ (t : Int) := by omega
      have HBK := Lib.hid hbk
      obtain ⟨x, hx⟩ : ∃ x, xs[t]? = some x := ⟨xs[t]'(by rw [HN.out]; exact h1), List.getElem?_eq_getElem _⟩
      obtain ⟨y, hy⟩ : ∃ y, ys[t]? = some y := ⟨ys[t]'(by rw [HEl.out]; exact h1), List.getElem?_eq_getElem _⟩
      have hxy : EntD.Same x y := by
        have e1 : (xs.map EntD.dat)[t]? = some x.dat := by rw [List.getElem?_map, hx]; rfl
        have e2 : (ys.map EntD.dat)[t]? = some y.dat := by rw [List.getElem?_map, hy]; rfl
        rw [HS.out, e2] at e1
        exact EntD.dat_same.1 (Option.some.inj e1).symm
      obtain ⟨ba, oa, rfl⟩ : ∃ b off, aa = some ⟨b, off, none⟩ := by
        rcases HA.out.at_ with h0 | ⟨b, off, e, _⟩
        · rw [h0] at hx; simp at hx
        · exact ⟨b, off, e⟩
      obtain ⟨bb, ob, rfl⟩ : ∃ b off, ab = some ⟨b, off, none⟩ := by
        rcases HB.out.at_ with h0 | ⟨b, off, e, _⟩
        · rw [h0] at hy; simp at hy
        · exact ⟨b, off, e⟩
      have KS : Hid (∀ wx, Below wr.heap.size wr wx → (wx.cell? ⟨ba, oa + t * 7, none⟩ = some x.vr ∧ wx.cell? ⟨ba, oa + t * 7 + 1, none⟩ = some (.int .i64 x.fam) ∧ wx.cell? ⟨ba, oa + t * 7 + 2, none⟩ = some x.vq ∧ wx.cell? ⟨ba, oa + t * 7 + 3, none⟩ = some (.int .i64 x.ts) ∧ wx.cell? ⟨ba, oa + t * 7 + 4, none⟩ = some (.int .i64 x.seq) ∧ wx.cell? ⟨ba, oa + t * 7 + 5, none⟩ = some (.int .i64 x.kind) ∧ wx.cell? ⟨ba, oa + t * 7 + 6, none⟩ = some x.vv) ∧ (wx.cell? ⟨bb, ob + t * 7, none⟩ = some y.vr ∧ wx.cell? ⟨bb, ob + t * 7 + 1, none⟩ = some (.int .i64 y.fam) ∧ wx.cell? ⟨bb, ob + t * 7 + 2, none⟩ = some y.vq ∧ wx.cell? ⟨bb, ob + t * 7 + 3, none⟩ = some (.int .i64 y.ts) ∧ wx.cell? ⟨bb, ob + t * 7 + 4, none⟩ = some (.int .i64 y.seq) ∧ wx.cell? ⟨bb, ob + t * 7 + 5, none⟩ = some (.int .i64 y.kind) ∧ wx.cell? ⟨bb, ob + t * 7 + 6, none⟩ = some y.vv)) := fun wx b => by
        have k := (HBK.out.trans (b.mono HBK.out.size))
        have c1 := HA.out.cells k hx
        have c2 := HB.out.cells k hy
        exact ⟨⟨c1 0 _ rfl, c1 1 _ rfl, c1 2 _ rfl, c1 3 _ rfl, c1 4 _ rfl, c1 5 _ rfl, c1 6 _ rfl⟩, ⟨c2 0 _ rfl, c2 1 _ rfl, c2 2 _ rfl, c2 3 _ rfl, c2 4 _ rfl, c2 5 _ rfl, c2 6 _ rfl⟩⟩
      have HSe : Hid (∀ Z, Below wr.heap.size wr Z → Calls Try.prog 18 #[.agg #[x.vr, .int .i64 x.fam, x.vq, .int .i64 x.ts, .int .i64 x.seq, .int .i64 x.kind, x.vv], .agg #[y.vr, .int .i64 y.fam, y.vq, .int .i64 y.ts, .int .i64 y.seq, .int .i64 y.kind, y.vv]] Z fun r w' => r = .returned (.bool true) ∧ Below Z.heap.size Z w') := fun Z hZ => by
        have k := (HBK.out.trans (hZ.mono HBK.out.size))
        refine (same3r_any ((HA.out.later k).ok x (List.mem_of_getElem? hx)) ((HB.out.later k).ok y (List.mem_of_getElem? hy))).mono ?_
        rintro r w' ⟨rfl, hb⟩
        exact ⟨by rw [decide_eq_true hxy], hb⟩
      have D0 : Below wr.heap.size wr wr.drew := (Below.refl _ _).drew
      clear hx hy hxy hbk
      go_wp2_with fail
      go_region_held3 (fun wx => (wx.cell? ⟨ba, oa + t * 7, none⟩ = some x.vr ∧ wx.cell? ⟨ba, oa + t * 7 + 1, none⟩ = some (.int .i64 x.fam) ∧ wx.cell? ⟨ba, oa + t * 7 + 2, none⟩ = some x.vq ∧ wx.cell? ⟨ba, oa + t * 7 + 3, none⟩ = some (.int .i64 x.ts) ∧ wx.cell? ⟨ba, oa + t * 7 + 4, none⟩ = some (.int .i64 x.seq) ∧ wx.cell? ⟨ba, oa + t * 7 + 5, none⟩ = some (.int .i64 x.kind) ∧ wx.cell? ⟨ba, oa + t * 7 + 6, none⟩ = some x.vv) ∧ (wx.cell? ⟨bb, ob + t * 7, none⟩ = some y.vr ∧ wx.cell? ⟨bb, ob + t * 7 + 1, none⟩ = some (.int .i64 y.fam) ∧ wx.cell? ⟨bb, ob + t * 7 + 2, none⟩ = some y.vq ∧ wx.cell? ⟨bb, ob + t * 7 + 3, none⟩ = some (.int .i64 y.ts) ∧ wx.cell? ⟨bb, ob + t * 7 + 4, none⟩ = some (.int .i64 y.seq) ∧ wx.cell? ⟨bb, ob + t * 7 + 5, none⟩ = some (.int .i64 y.kind) ∧ wx.cell? ⟨bb, ob + t * 7 + 6, none⟩ = some y.vv)) (first | exact KS.out _ D1 | exact KS.out _ D0) ((go_at_call 18; refine Calls.mono (HSe.out _ D0) ?_; rintro e1 w1 ⟨rfl, hb1⟩; have D1 := D0.trans (hb1.mono D0.size)))
      go_wp2
      go_roundw
      case rel => exact ⟨t + 1, by omega, by go_num, HBK.out.trans (D1.mono HBK.out.size)⟩
      case measure => simp [intOf]; omega
    · have h1' : (n : Int) ≤ (t : Int) := by omega
      go_wp2
      go_ret
      exact ⟨rfl, hbk⟩
end Go.Proofs.Ythhkpkfpifllkaa

namespace Go.Proofs.Ythhkpkfpifllkaa
open Go.RowKit
set_option linter.unusedVariables false

def oneD (vr vq vv : Value) (k ts seq : Int) (val : List Nat) : EntD := ⟨vr, 0, vq, ts, seq, k, vv, [114], [113], val⟩
theorem heap_old9 {w : World} (o : Obj) {k : Nat} {x : Obj} (h : w.heap[k]? = some x) : (w.alloc o).heap[k]? = some x := by
  rw [Below.heap_alloc w o k (Array.getElem?_eq_some_iff.1 h).1]
  exact h
theorem heap_new9 (w : World) (o : Obj) {k : Nat} (h : k = w.heap.size) : (w.alloc o).heap[k]? = some o := by
  subst h
  show (w.heap.push o)[w.heap.size]? = some o
  simp
theorem five5 (w : World) (a b c d e : Obj) : ∃ X, X = ((((w.alloc a).alloc b).alloc c).alloc d).alloc e ∧ X.heap[w.heap.size]? = some a ∧ X.heap[w.heap.size + 1]? = some b ∧ X.heap[w.heap.size + 2]? = some c ∧ X.heap[w.heap.size + 4]? = some e ∧ Below w.heap.size w X := by
  have A1 := (Below.refl w.heap.size w).alloc (Nat.le_refl _) a
  have A2 := A1.alloc A1.size b
  have A3 := A2.alloc A2.size c
  have A4 := A3.alloc A3.size d
  have A5 := A4.alloc A4.size e
  exact ⟨_, rfl, heap_old9 _ (heap_old9 _ (heap_old9 _ (heap_old9 _ (heap_new9 _ _ rfl)))), heap_old9 _ (heap_old9 _ (heap_old9 _ (heap_new9 _ _ (by simp)))), heap_old9 _ (heap_old9 _ (heap_new9 _ _ (by simp))), heap_new9 _ _ (by simp), A5⟩
theorem four4 (w : World) (a b c d : Obj) : ∃ X, X = (((w.alloc a).alloc b).alloc c).alloc d ∧ X.heap[w.heap.size]? = some a ∧ X.heap[w.heap.size + 1]? = some b ∧ X.heap[w.heap.size + 2]? = some c ∧ Below w.heap.size w X := by
  have A1 := (Below.refl w.heap.size w).alloc (Nat.le_refl _) a
  have A2 := A1.alloc A1.size b
  have A3 := A2.alloc A2.size c
  have A4 := A3.alloc A3.size d
  exact ⟨_, rfl, heap_old9 _ (heap_old9 _ (heap_old9 _ (heap_new9 _ _ rfl))), heap_old9 _ (heap_old9 _ (heap_new9 _ _ (by simp))), heap_old9 _ (heap_new9 _ _ (by simp)), A4⟩
theorem rd_nil0 (w : World) : Rd w (.slice none 0 0) [] := ⟨(fun x hx => by cases hx), none, 0, rfl, Nat.le_refl _, Nat.zero_le _, Nat.zero_le _, .inl rfl, .inl rfl⟩
theorem cell_at9 {X : World} {g i : Nat} {cs : Array Value} {ty : TypeId} {fr : Nat × Nat} {u : Value} (h : X.heap[g]? = some (.cells cs ty fr)) (hu : cs[i]? = some u) : X.cell? ⟨g, i, none⟩ = some u := by simp [World.cell?, h, hu]
set_option maxRecDepth 100000 in
set_option maxHeartbeats 1000000 in
theorem one1_any (ts seq : Int) (w : World) : Calls Try.prog 14 #[.int .i64 1, .int .i64 ts, .int .i64 seq] w fun e w' => ∃ vr vq vv, e = .returned (.agg (oneD vr vq vv 1 ts seq [118]).cells) ∧ EntD.Ok w' (oneD vr vq vv 1 ts seq [118]) ∧ Below w.heap.size w w' := by
  have k1 := Joins.run_convert_bytes_const_at (P := Try.prog) (w.alloc (.cells zeroD.cells 45)) 43 5 #[.int .u8 114] 1 1 (w.heap.size + 1) (by simp) und_bytes und_byte
  have k2 := Joins.run_convert_bytes_const_at (P := Try.prog) ((w.alloc (.cells zeroD.cells 45)).alloc (.cells #[.int .u8 114] 5 (1, 2))) 43 5 #[.int .u8 113] 1 1 (w.heap.size + 2) (by simp) und_bytes und_byte
  have k3 := Joins.run_convert_bytes_const_at (P := Try.prog) ((((w.alloc (.cells zeroD.cells 45)).alloc (.cells #[.int .u8 114] 5 (1, 2))).alloc (.cells #[.int .u8 113] 5 (1, 2))).alloc (.cells (oneD (.slice (some ⟨w.heap.size + 1, 0, none⟩) 1 1) (.slice (some ⟨w.heap.size + 2, 0, none⟩) 1 1) (.slice none 0 0) 1 ts seq []).cells 45)) 43 5 #[.int .u8 118] 1 1 (w.heap.size + 4) (by simp) und_bytes und_byte
  simp only [zeroD, oneD, EntD.cells, List.size_toArray, List.length_cons, List.length_nil, Nat.zero_add] at k1 k2 k3
  have HF := Lib.hid (five5 w (.cells (oneD (.slice (some ⟨w.heap.size + 1, 0, none⟩) 1 1) (.slice (some ⟨w.heap.size + 2, 0, none⟩) 1 1) (.slice (some ⟨w.heap.size + 4, 0, none⟩) 1 1) 1 ts seq [118]).cells 45) (.cells #[.int .u8 114] 5 (1, 2)) (.cells #[.int .u8 113] 5 (1, 2)) (.cells (oneD (.slice (some ⟨w.heap.size + 1, 0, none⟩) 1 1) (.slice (some ⟨w.heap.size + 2, 0, none⟩) 1 1) (.slice (some ⟨w.heap.size + 4, 0, none⟩) 1 1) 1 ts seq [118]).cells 45) (.cells #[.int .u8 118] 5 (1, 2)))
  simp only [oneD, EntD.cells] at HF
  go_enter Try.func14, Try.ntmps14
  go_wp2
  clear k1 k2 k3
  obtain ⟨X, hX, h0, h1, h2, h4, bel⟩ := HF.out
  clear HF
  rw [← hX]
  have y0 := cell_at9 (i := 0) h0 rfl
  have y1 := cell_at9 (i := 1) h0 rfl
  have y2 := cell_at9 (i := 2) h0 rfl
  have y3 := cell_at9 (i := 3) h0 rfl
  have y4 := cell_at9 (i := 4) h0 rfl
  have y5 := cell_at9 (i := 5) h0 rfl
  have y6 := cell_at9 (i := 6) h0 rfl
  refine bodyPost_ret (v := .agg (oneD (.slice (some ⟨w.heap.size + 1, 0, none⟩) 1 1) (.slice (some ⟨w.heap.size + 2, 0, none⟩) 1 1) (.slice (some ⟨w.heap.size + 4, 0, none⟩) 1 1) 1 ts seq [118]).cells) (by simp [results, Try.results14, go_sem, y0, y1, y2, y3, y4, y5, y6, oneD, EntD.cells]) rfl ?_
  exact ⟨_, _, _, rfl, ⟨rd_one (cell_at9 (i := 0) h1 rfl) (by decide), rd_one (cell_at9 (i := 0) h2 rfl) (by decide), rd_one (cell_at9 (i := 0) h4 rfl) (by decide)⟩, bel⟩
set_option maxRecDepth 100000 in
set_option maxHeartbeats 1000000 in
theorem one2_any (ts seq : Int) (w : World) : Calls Try.prog 14 #[.int .i64 2, .int .i64 ts, .int .i64 seq] w fun e w' => ∃ vr vq vv, e = .returned (.agg (oneD vr vq vv 2 ts seq []).cells) ∧ EntD.Ok w' (oneD vr vq vv 2 ts seq []) ∧ Below w.heap.size w w' := by
  have k1 := Joins.run_convert_bytes_const_at (P := Try.prog) (w.alloc (.cells zeroD.cells 45)) 43 5 #[.int .u8 114] 1 1 (w.heap.size + 1) (by simp) und_bytes und_byte
  have k2 := Joins.run_convert_bytes_const_at (P := Try.prog) ((w.alloc (.cells zeroD.cells 45)).alloc (.cells #[.int .u8 114] 5 (1, 2))) 43 5 #[.int .u8 113] 1 1 (w.heap.size + 2) (by simp) und_bytes und_byte
  simp only [zeroD, EntD.cells, List.size_toArray, List.length_cons, List.length_nil, Nat.zero_add] at k1 k2
  have HF := Lib.hid (four4 w (.cells (oneD (.slice (some ⟨w.heap.size + 1, 0, none⟩) 1 1) (.slice (some ⟨w.heap.size + 2, 0, none⟩) 1 1) (.slice none 0 0) 2 ts seq []).cells 45) (.cells #[.int .u8 114] 5 (1, 2)) (.cells #[.int .u8 113] 5 (1, 2)) (.cells (oneD (.slice (some ⟨w.heap.size + 1, 0, none⟩) 1 1) (.slice (some ⟨w.heap.size + 2, 0, none⟩) 1 1) (.slice none 0 0) 2 ts seq []).cells 45))
  simp only [oneD, EntD.cells] at HF
  go_enter Try.func14, Try.ntmps14
  go_wp2
  clear k1 k2
  obtain ⟨X, hX, h0, h1, h2, bel⟩ := HF.out
  clear HF
  rw [← hX]
  have y0 := cell_at9 (i := 0) h0 rfl
  have y1 := cell_at9 (i := 1) h0 rfl
  have y2 := cell_at9 (i := 2) h0 rfl
  have y3 := cell_at9 (i := 3) h0 rfl
  have y4 := cell_at9 (i := 4) h0 rfl
  have y5 := cell_at9 (i := 5) h0 rfl
  have y6 := cell_at9 (i := 6) h0 rfl
  refine bodyPost_ret (v := .agg (oneD (.slice (some ⟨w.heap.size + 1, 0, none⟩) 1 1) (.slice (some ⟨w.heap.size + 2, 0, none⟩) 1 1) (.slice none 0 0) 2 ts seq []).cells) (by simp [results, Try.results14, go_sem, y0, y1, y2, y3, y4, y5, y6, oneD, EntD.cells]) rfl ?_
  exact ⟨_, _, _, rfl, ⟨rd_one (cell_at9 (i := 0) h1 rfl) (by decide), rd_one (cell_at9 (i := 0) h2 rfl) (by decide), rd_nil0 _⟩, bel⟩
set_option maxRecDepth 100000 in
set_option maxHeartbeats 1000000 in
theorem one3_any (ts seq : Int) (w : World) : Calls Try.prog 14 #[.int .i64 3, .int .i64 ts, .int .i64 seq] w fun e w' => ∃ vr vq vv, e = .returned (.agg (oneD vr vq vv 3 ts seq []).cells) ∧ EntD.Ok w' (oneD vr vq vv 3 ts seq []) ∧ Below w.heap.size w w' := by
  have k1 := Joins.run_convert_bytes_const_at (P := Try.prog) (w.alloc (.cells zeroD.cells 45)) 43 5 #[.int .u8 114] 1 1 (w.heap.size + 1) (by simp) und_bytes und_byte
  have k2 := Joins.run_convert_bytes_const_at (P := Try.prog) ((w.alloc (.cells zeroD.cells 45)).alloc (.cells #[.int .u8 114] 5 (1, 2))) 43 5 #[.int .u8 113] 1 1 (w.heap.size + 2) (by simp) und_bytes und_byte
  simp only [zeroD, EntD.cells, List.size_toArray, List.length_cons, List.length_nil, Nat.zero_add] at k1 k2
  have HF := Lib.hid (four4 w (.cells (oneD (.slice (some ⟨w.heap.size + 1, 0, none⟩) 1 1) (.slice (some ⟨w.heap.size + 2, 0, none⟩) 1 1) (.slice none 0 0) 3 ts seq []).cells 45) (.cells #[.int .u8 114] 5 (1, 2)) (.cells #[.int .u8 113] 5 (1, 2)) (.cells (oneD (.slice (some ⟨w.heap.size + 1, 0, none⟩) 1 1) (.slice (some ⟨w.heap.size + 2, 0, none⟩) 1 1) (.slice none 0 0) 3 ts seq []).cells 45))
  simp only [oneD, EntD.cells] at HF
  go_enter Try.func14, Try.ntmps14
  go_wp2
  clear k1 k2
  obtain ⟨X, hX, h0, h1, h2, bel⟩ := HF.out
  clear HF
  rw [← hX]
  have y0 := cell_at9 (i := 0) h0 rfl
  have y1 := cell_at9 (i := 1) h0 rfl
  have y2 := cell_at9 (i := 2) h0 rfl
  have y3 := cell_at9 (i := 3) h0 rfl
  have y4 := cell_at9 (i := 4) h0 rfl
  have y5 := cell_at9 (i := 5) h0 rfl
  have y6 := cell_at9 (i := 6) h0 rfl
  refine bodyPost_ret (v := .agg (oneD (.slice (some ⟨w.heap.size + 1, 0, none⟩) 1 1) (.slice (some ⟨w.heap.size + 2, 0, none⟩) 1 1) (.slice none 0 0) 3 ts seq []).cells) (by simp [results, Try.results14, go_sem, y0, y1, y2, y3, y4, y5, y6, oneD, EntD.cells]) rfl ?_
  exact ⟨_, _, _, rfl, ⟨rd_one (cell_at9 (i := 0) h1 rfl) (by decide), rd_one (cell_at9 (i := 0) h2 rfl) (by decide), rd_nil0 _⟩, bel⟩
def famF (mx tl : Int) : FamD := ⟨⟨#[102]⟩, mx, tl⟩
theorem two2 (w : World) (a b : Obj) : ∃ X, X = (w.alloc a).alloc b ∧ X.heap[w.heap.size]? = some a ∧ X.heap[w.heap.size + 1]? = some b ∧ Below w.heap.size w X := by
  have A1 := (Below.refl w.heap.size w).alloc (Nat.le_refl _) a
  have A2 := A1.alloc A1.size b
  exact ⟨_, rfl, heap_old9 _ (heap_new9 _ _ rfl), heap_new9 _ _ (by simp), A2⟩
set_option maxRecDepth 100000 in
set_option maxHeartbeats 1000000 in
theorem family3_any (mx tl : Int) (w : World) : Calls Try.prog 15 #[.int .i64 mx, .int .i64 tl] w fun e w' => ∃ b, e = .returned (.agg #[.slice (some ⟨b, 0, none⟩) 1 1]) ∧ RdF w' (.slice (some ⟨b, 0, none⟩) 1 1) [famF mx tl] ∧ Below w.heap.size w w' := by
  have HF := Lib.hid (two2 w (.cells #[.slice (some ⟨w.heap.size + 1, 0, none⟩) 1 1] 24) (.cells #[.string ⟨#[102]⟩, .int .i64 mx, .int .i64 tl] 73))
  go_enter Try.func15, Try.ntmps15
  go_wp2
  obtain ⟨X, hX, h0, h1, bel⟩ := HF.out
  clear HF
  rw [← hX]
  have y0 := cell_at9 (i := 0) h0 rfl
  refine bodyPost_ret (v := .agg #[.slice (some ⟨w.heap.size + 1, 0, none⟩) 1 1]) (by simp [results, Try.results15, go_sem, y0]) rfl ?_
  refine ⟨_, rfl, ⟨_, 1, rfl, Nat.le_refl _, by decide, by simp, .inr ⟨_, 0, rfl, fun i f hf => ?_⟩⟩, bel⟩
  cases i with
  | zero =>
    simp only [List.getElem?_cons_zero, Option.some.injEq] at hf
    subst hf
    exact ⟨cell_at9 (i := 0) h1 rfl, cell_at9 (i := 1) h1 rfl, cell_at9 (i := 2) h1 rfl⟩
  | succ i => simp at hf
end Go.Proofs.Ythhkpkfpifllkaa

namespace Go.Proofs.Ythhkpkfpifllkaa
open Go.RowKit
set_option linter.unusedVariables false

def oE (k ts seq : Int) (val : List Nat) : En := ⟨[114], 0, [113], ts, seq, k, val⟩
theorem oneD_dat (vr vq vv : Value) (k ts seq : Int) (val : List Nat) : (oneD vr vq vv k ts seq val).dat = oE k ts seq val := rfl
theorem ah_o {k ts seq k' ts' seq' : Int} {v v' : List Nat} (h : k ≤ 3) (h' : k' ≤ 3) (ht : ts' ≤ ts) (hs : ts = ts' → seq' < seq) : Ah (oE k ts seq v) (oE k' ts' seq' v') :=
  ⟨by simp [oE, ordC], fun _ => Int.le_refl _, fun _ _ z => by have z : k' = 5 := z; omega, fun _ _ _ => by simp [oE, ordC], fun _ _ _ _ z => by have z : k' = 4 := z; omega, fun _ _ _ _ _ => ht, fun _ _ _ _ _ z => hs z⟩
theorem inOrder_zero {k : Nat} {l : List EntD} (hck : ∀ x ∈ l, check3S k x = 0) (hne : l.Pairwise fun a b => a.seq ≠ b.seq) : inOrderE (check3S k) l = 0 := by
  have ho : onceS l = some l := by simpa [onceS] using once_self l [] (by simpa using hne)
  unfold inOrderE
  rw [firstBad_zero hck, if_neg (by simp), if_neg (by rw [ho]; simp)]
def dl : List En := [oE 1 5 3 [118], oE 1 9 1 [118], oE 3 7 4 [], oE 1 7 2 [118]]
def ml : List En := [oE 1 9 1 [118], oE 3 7 4 [], oE 1 7 2 [118], oE 1 5 3 [118]]
theorem dl_ck : ∀ e ∈ dl, check3S 1 (EntD.ofEn e) = 0 := by
  intro e he
  simp only [dl, List.mem_cons, List.not_mem_nil, or_false] at he
  rcases he with rfl | rfl | rfl | rfl <;> rfl
theorem ml_mem (e : En) : e ∈ ml ↔ e ∈ dl := by
  simp only [ml, dl, List.mem_cons, List.not_mem_nil, or_false]
  constructor
  · rintro (h | h | h | h) <;> simp [h]
  · rintro (h | h | h | h) <;> simp [h]
theorem ml_ord : IsOrd 1 dl ml := by
  refine ⟨?_, ?_, fun e he => va_of_check (k := 1) (e := EntD.ofEn e) (dl_ck e ((ml_mem e).1 he)), fun e he => dl_ck e ((ml_mem e).1 he), ml_mem⟩
  · simp only [ml, List.pairwise_cons, List.mem_cons, List.not_mem_nil, or_false, forall_eq_or_imp, forall_eq, List.Pairwise.nil, and_true, false_implies, implies_true]
    exact ⟨⟨ah_o (by omega) (by omega) (by omega) (by omega), ah_o (by omega) (by omega) (by omega) (by omega), ah_o (by omega) (by omega) (by omega) (by omega)⟩, ⟨ah_o (by omega) (by omega) (by omega) (by omega), ah_o (by omega) (by omega) (by omega) (by omega)⟩, ah_o (by omega) (by omega) (by omega) (by omega)⟩
  · simp [ml, oE]
theorem ml_vis : (showS 1099511627776 16 (verdictsS [(2, 10)] 12 ml)).2 = [oE 1 9 1 [118]] := rfl
theorem ml_read : (showS 12 1 (verdictsS [(2, 10)] 12 ml)).2 = [oE 1 9 1 [118]] := rfl
theorem ml_top : topS (verdictsS [(2, 10)] 12 ml) = 9 := rfl
theorem ml_squash : outS false 0 (verdictsS [(2, 10)] 12 ml) = [oE 1 9 1 [118], oE 2 7 4 []] := rfl
theorem famF_ok : SchemaOk [famF 2 10] := by
  refine ⟨by decide, fun i f hf => ?_⟩
  cases i with
  | succ i => simp at hf
  | zero =>
    simp only [List.getElem?_cons_zero, Option.some.injEq] at hf
    subst hf
    refine ⟨⟨⟨by decide, by decide, fun i hi => ?_⟩, by decide, by decide, by decide⟩, by simp [famIx, famF]⟩
    have : i = 0 := by have : i < 1 := hi; omega
    subst this
    exact .inl (by decide)
end Go.Proofs.Ythhkpkfpifllkaa

namespace Go.Proofs.Ythhkpkfpifllkaa
open Go.RowKit
set_option linter.unusedVariables false

def ByE (e : En) : Prop := (Bys e.row ∧ Bys e.qual ∧ Bys e.val) ∧ e.row.length ≤ 281474976710656 ∧ e.qual.length ≤ 281474976710656 ∧ e.val.length ≤ 281474976710656
theorem O3.okB {W : World} {N : Nat} {x : EntD} (h : O3 W N x) (hb : ByE x.dat) : EntD.Ok W x := ⟨h.row.rd hb.1.1 hb.2.1, h.qual.rd hb.1.2.1 hb.2.2.1, h.val.rd hb.1.2.2 hb.2.2.2⟩
theorem EntD.Ok.by {W : World} {x : EntD} (h : EntD.Ok W x) : ByE x.dat := by
  obtain ⟨⟨a1, _, _, _, _, _, a2, _⟩, ⟨b1, _, _, _, _, _, b2, _⟩, ⟨c1, _, _, _, _, _, c2, _⟩⟩ := h
  exact ⟨⟨a1, b1, c1⟩, a2, b2, c2⟩
theorem Rw.rdl {W : World} {N : Nat} {v : Value} {zs : List EntD} {O : Nat → Prop} (h : Rw W N v zs O) (hb : ∀ x ∈ zs, ByE x.dat) : ∃ a cap, v = .slice a zs.length cap ∧ (a = none → cap = 0) ∧ RdL3 W a cap zs := by
  have hok : ∀ x ∈ zs, EntD.Ok W x := fun x hx => (h.ents x hx).okB (hb x hx)
  rcases h.row.2 with ⟨h1, h2⟩ | ⟨g, cap, cur, h1, h2, h3, h4, h5, h6, h7⟩
  · have hz := List.eq_nil_of_length_eq_zero h2
    subst hz
    exact ⟨none, 0, h1, fun _ => rfl, ⟨⟨Nat.le_refl _, Nat.zero_le _⟩, .inl rfl, hok⟩⟩
  · refine ⟨some ⟨g, 0, none⟩, cap, h1, (fun z => by cases z), ⟨⟨h4, h5⟩, ?_, hok⟩⟩
    refine .inr ⟨g, 0, rfl, fun i x hi j u hj => ?_⟩
    have hr := h.row
    rw [h1] at hr
    obtain ⟨g2, e, _, _, hc⟩ := row_cells3 hr hi
    cases e
    rw [Nat.zero_add]
    exact hc j u hj
theorem bys_c {l : List Nat} (h : l.all (· < 256) = true) : Bys l := fun x hx => by simpa using List.all_eq_true.1 h x hx
theorem oE_by {k ts seq : Int} {v : List Nat} (h : v.all (· < 256) = true) (hl : v.length ≤ 4096) : ByE (oE k ts seq v) := ⟨⟨bys_c rfl, bys_c rfl, bys_c h⟩, by simp [oE], by simp [oE], by show v.length ≤ _; omega⟩
theorem hC0 : ((0 : Nat) = 0 ↔ SchemaOk [famF 2 10]) ∧ ((0 : Nat) = 0 ∨ (0 : Nat) = 28) := ⟨⟨fun _ => famF_ok, fun _ => rfl⟩, .inl rfl⟩
structure LS (W : World) (a : Option Addr) (cap : Nat) (l : List EntD) : Prop where
  rd : RdL3 W a cap l
  dat : l.map EntD.dat = dl
theorem LS.later {W W' : World} {a : Option Addr} {cap : Nat} {l : List EntD} (h : LS W a cap l) (b : Below W.heap.size W W') : LS W' a cap l := ⟨h.rd.later b, h.dat⟩
theorem LS.len {W : World} {a : Option Addr} {cap : Nat} {l : List EntD} (h : LS W a cap l) : l.length = 4 := by have := congrArg List.length h.dat; simpa [dl] using this
theorem LS.ord {W : World} {a : Option Addr} {cap : Nat} {l : List EntD} (h : LS W a cap l) : inOrderE (check3S 1) l = 0 := by
  refine inOrder_zero (fun x hx => ?_) ?_
  · rw [check_dat]
    exact dl_ck _ (by rw [← h.dat]; exact List.mem_map_of_mem hx)
  · have : (l.map EntD.dat).Pairwise fun a b => a.seq ≠ b.seq := by rw [h.dat]; simp [dl, oE]
    rw [List.pairwise_map] at this
    exact this
theorem LS.uniq {W : World} {a : Option Addr} {cap : Nat} {l xs ys : List EntD} (h : LS W a cap l) (k1 : onceS l = some xs) (k2 : ys.Perm xs) (k3 : ys.Pairwise fun x y => compareS x y ≤ 0) : ys.map EntD.dat = ml := by
  have := isOrd_of h.ord k1 k2 k3
  rw [h.dat] at this
  exact this.unique ml_ord
theorem one_of {z : List EntD} {e : En} (h : z.map EntD.dat = [e]) : ∃ x, z = [x] ∧ x.dat = e := by
  match z, h with
  | [x], h => exact ⟨x, rfl, by simpa using h⟩
theorem two_of {z : List EntD} {e f : En} (h : z.map EntD.dat = [e, f]) : ∃ x y, z = [x, y] ∧ x.dat = e ∧ y.dat = f := by
  match z, h with
  | [x, y], h => exact ⟨x, y, rfl, by simpa using h⟩
theorem some_of {W : World} {a : Option Addr} {cap : Nat} {x : EntD} {l : List EntD} (h : RdL3 W a cap (x :: l)) : ∃ b off, a = some ⟨b, off, none⟩ := by
  rcases h.at_ with h0 | ⟨b, off, e, _⟩
  · cases h0
  · exact ⟨b, off, e⟩
theorem vis_st {W : World} {b cap : Nat} {a : Option Addr} {l : List EntD} (hr : RdF W (.slice (some ⟨b, 0, none⟩) 1 1) [famF 2 10]) (h : LS W a cap l) :
    Calls Try.prog 7 #[.agg #[.slice (some ⟨b, 0, none⟩) 1 1], .int .i64 12, .slice a 4 cap] W fun r W' => Below W.heap.size W W' ∧ ∃ g o c x, r = .returned (.tuple #[.slice (some ⟨g, o, none⟩) 1 c, .int .i64 0]) ∧ RdL3 W' (some ⟨g, o, none⟩) c [x] ∧ x.dat = oE 1 9 1 [118] := by
  have hl := h.len
  have := vis_any sort_ok (W := W) (fa := some ⟨b, 0, none⟩) (fc := 1) (fs := [famF 2 10]) (cap := cap) (a := a) hr (fun z => by cases z) 0 hC0 12 h.rd (by omega)
  rw [hl] at this
  refine Calls.mono this ?_
  rintro r W' ⟨h1, h2, h3⟩
  refine ⟨h1, ?_⟩
  have hz : readE 0 [famF 2 10] 12 1099511627776 16 l = 0 := by
    unfold readE
    rw [if_neg (by decide)]
    exact h.ord
  obtain ⟨xs, ys, zs, v, O, k1, k2, k3, k4, k5, k6⟩ := h3 hz
  rw [h.uniq k1 k2 k3] at k6
  have k7 : zs.map EntD.dat = [oE 1 9 1 [118]] := k6.trans ml_vis
  obtain ⟨x, rfl, hx⟩ := one_of k7
  obtain ⟨a', c', hv, _, hrd⟩ := k5.rdl (fun y hy => by rw [List.mem_singleton.1 hy, hx]; exact oE_by rfl (by decide))
  obtain ⟨g, o, rfl⟩ := some_of hrd
  exact ⟨g, o, c', x, by rw [k4, hv]; rfl, hrd, hx⟩
theorem read_st {W : World} {b cap : Nat} {a : Option Addr} {l : List EntD} (hr : RdF W (.slice (some ⟨b, 0, none⟩) 1 1) [famF 2 10]) (h : LS W a cap l) :
    Calls Try.prog 8 #[.agg #[.slice (some ⟨b, 0, none⟩) 1 1], .int .i64 12, .int .i64 12, .int .i64 1, .slice a 4 cap] W fun r W' => Below W.heap.size W W' ∧ ∃ g o c x, r = .returned (.tuple #[.slice (some ⟨g, o, none⟩) 1 c, .int .i64 0]) ∧ RdL3 W' (some ⟨g, o, none⟩) c [x] ∧ x.dat = oE 1 9 1 [118] := by
  have hl := h.len
  have := read_any sort_ok (W := W) (fa := some ⟨b, 0, none⟩) (fc := 1) (fs := [famF 2 10]) (cap := cap) (a := a) hr (fun z => by cases z) 0 hC0 12 12 1 h.rd (by omega)
  rw [hl] at this
  refine Calls.mono this ?_
  rintro r W' ⟨h1, h2, h3⟩
  refine ⟨h1, ?_⟩
  have hz : readE 0 [famF 2 10] 12 12 1 l = 0 := by
    unfold readE
    rw [if_neg (by decide)]
    exact h.ord
  obtain ⟨xs, ys, zs, v, O, k1, k2, k3, k4, k5, k6⟩ := h3 hz
  rw [h.uniq k1 k2 k3] at k6
  have k7 : zs.map EntD.dat = [oE 1 9 1 [118]] := k6.trans ml_read
  obtain ⟨x, rfl, hx⟩ := one_of k7
  obtain ⟨a', c', hv, _, hrd⟩ := k5.rdl (fun y hy => by rw [List.mem_singleton.1 hy, hx]; exact oE_by rfl (by decide))
  obtain ⟨g, o, rfl⟩ := some_of hrd
  exact ⟨g, o, c', x, by rw [k4, hv]; rfl, hrd, hx⟩
theorem squash_st {W : World} {b cap : Nat} {a : Option Addr} {l : List EntD} (hr : RdF W (.slice (some ⟨b, 0, none⟩) 1 1) [famF 2 10]) (h : LS W a cap l) :
    Calls Try.prog 9 #[.agg #[.slice (some ⟨b, 0, none⟩) 1 1], .int .i64 12, .bool false, .int .i64 0, .slice a 4 cap] W fun r W' => Below W.heap.size W W' ∧ ∃ g o c x y, r = .returned (.tuple #[.slice (some ⟨g, o, none⟩) 2 c, .int .i64 0]) ∧ RdL3 W' (some ⟨g, o, none⟩) c [x, y] ∧ x.dat = oE 1 9 1 [118] ∧ y.dat = oE 2 7 4 [] := by
  have hl := h.len
  have := squash_any sort_ok (W := W) (fa := some ⟨b, 0, none⟩) (fc := 1) (fs := [famF 2 10]) (cap := cap) (a := a) hr (fun z => by cases z) 0 hC0 12 0 false h.rd (by omega)
  rw [hl] at this
  refine Calls.mono this ?_
  rintro r W' ⟨h1, h2, h3⟩
  refine ⟨h1, ?_⟩
  have hz : squashE 0 [famF 2 10] 12 0 l = 0 := by
    unfold squashE
    rw [if_neg (by decide)]
    exact h.ord
  obtain ⟨xs, ys, zs, v, O, k1, k2, k3, k4, k5, k6⟩ := h3 hz
  rw [h.uniq k1 k2 k3] at k6
  have k7 : zs.map EntD.dat = [oE 1 9 1 [118], oE 2 7 4 []] := k6.trans ml_squash
  obtain ⟨x, y, rfl, hx, hy⟩ := two_of k7
  obtain ⟨a', c', hv, _, hrd⟩ := k5.rdl (fun z hz => by
    simp only [List.mem_cons, List.not_mem_nil, or_false] at hz
    rcases hz with rfl | rfl
    · rw [hx]; exact oE_by rfl (by decide)
    · rw [hy]; exact oE_by rfl (by decide))
  obtain ⟨g, o, rfl⟩ := some_of hrd
  exact ⟨g, o, c', x, y, by rw [k4, hv]; rfl, hrd, hx, hy⟩
theorem top_st {W : World} {b cap : Nat} {a : Option Addr} {l : List EntD} (hr : RdF W (.slice (some ⟨b, 0, none⟩) 1 1) [famF 2 10]) (h : LS W a cap l) :
    Calls Try.prog 16 #[.agg #[.slice (some ⟨b, 0, none⟩) 1 1], .int .i64 12, .slice a 4 cap] W fun r W' => Below W.heap.size W W' ∧ r = .returned (.tuple #[.int .i64 9, .int .i64 0]) := by
  have hl := h.len
  have := top_any sort_ok (W := W) (fa := some ⟨b, 0, none⟩) (fc := 1) (fs := [famF 2 10]) (cap := cap) (a := a) hr (fun z => by cases z) 0 hC0 12 h.rd (by omega)
  rw [hl] at this
  refine Calls.mono this ?_
  rintro r W' ⟨h1, h2, h3⟩
  refine ⟨h1, ?_⟩
  have hz : topE 0 [famF 2 10] 12 l = 0 := by
    unfold topE
    rw [if_neg (by decide)]
    exact h.ord
  obtain ⟨xs, ys, k1, k2, k3, k4⟩ := h3 hz
  rw [h.uniq k1 k2 k3] at k4
  rw [k4]
  show _ = Ending.returned (Value.tuple #[.int .i64 9, .int .i64 0])
  rw [show topS (verdictsS (mt [famF 2 10]) 12 ml) = 9 from ml_top]
end Go.Proofs.Ythhkpkfpifllkaa
