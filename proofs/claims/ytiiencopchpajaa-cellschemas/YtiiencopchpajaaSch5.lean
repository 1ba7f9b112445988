import Derived.Test.YtiiencopchpajaaSch4
import Derived.Laws.AppendOwnNone
import Derived.Lib.Hide
namespace Go.Proofs.Ytiiencopchpajaa
open Go.RowKit
set_option linter.unusedVariables false

theorem und_fams : Try.prog.underlying 22 = some (.slice 27) := by kernel_rfl
theorem info_fam : (Try.prog.info? 27).map (fun i => (i.zero, i.size, i.bytes)) = some (some (.agg #[.string ⟨#[]⟩, .int .i64 0, .int .i64 0]), 3, 32) := by kernel_rfl
def fvals : List FamD → List Value
  | [] => []
  | f :: r => .string f.nm :: .int .i64 f.mx :: .int .i64 f.tl :: fvals r
theorem fvals_len (fs : List FamD) : (fvals fs).length = fs.length * 3 := by
  induction fs with
  | nil => rfl
  | cons f r ih => simp [fvals, ih]; omega
theorem fvals_app (a b : List FamD) : fvals (a ++ b) = fvals a ++ fvals b := by
  induction a with
  | nil => rfl
  | cons f r ih => simp [fvals, ih]
theorem fvals_one (fs : List FamD) : ∀ u ∈ fvals fs, u.oneCell' = true := by
  induction fs with
  | nil => intro u hu; simp [fvals] at hu
  | cons f r ih =>
    intro u hu
    simp only [fvals, List.mem_cons] at hu
    rcases hu with rfl | rfl | rfl | hu
    · rfl
    · rfl
    · rfl
    · exact ih u hu
theorem fvals_at {fs : List FamD} : ∀ {i : Nat} {f : FamD}, fs[i]? = some f → (fvals fs)[i * 3]? = some (.string f.nm) ∧ (fvals fs)[i * 3 + 1]? = some (.int .i64 f.mx) ∧ (fvals fs)[i * 3 + 2]? = some (.int .i64 f.tl) := by
  induction fs with
  | nil => intro i f h; simp at h
  | cons x r ih =>
    intro i f h
    cases i with
    | zero => simp at h; subst h; exact ⟨rfl, rfl, rfl⟩
    | succ i =>
      obtain ⟨h0, h1, h2⟩ := ih (i := i) (f := f) (by simpa using h)
      have e : (i + 1) * 3 = i * 3 + 3 := by omega
      rw [e]
      exact ⟨by simpa [fvals] using h0, by simpa [fvals] using h1, by simpa [fvals] using h2⟩
theorem fvals_get {fs : List FamD} : ∀ {j : Nat} {u : Value}, (fvals fs)[j]? = some u → ∃ i f, fs[i]? = some f ∧ ((j = i * 3 ∧ u = .string f.nm) ∨ (j = i * 3 + 1 ∧ u = .int .i64 f.mx) ∨ (j = i * 3 + 2 ∧ u = .int .i64 f.tl)) := by
  induction fs with
  | nil => intro j u h; simp [fvals] at h
  | cons x r ih =>
    intro j u h
    match j with
    | 0 => simp [fvals] at h; exact ⟨0, x, rfl, .inl ⟨rfl, h.symm⟩⟩
    | 1 => simp [fvals] at h; exact ⟨0, x, rfl, .inr (.inl ⟨rfl, h.symm⟩)⟩
    | 2 => simp [fvals] at h; exact ⟨0, x, rfl, .inr (.inr ⟨rfl, h.symm⟩)⟩
    | j + 3 =>
      obtain ⟨i, f, hf, hx⟩ := ih (j := j) (u := u) (by simpa [fvals] using h)
      refine ⟨i + 1, f, by simpa using hf, ?_⟩
      rcases hx with ⟨e, hu⟩ | ⟨e, hu⟩ | ⟨e, hu⟩
      · exact .inl ⟨by omega, hu⟩
      · exact .inr (.inl ⟨by omega, hu⟩)
      · exact .inr (.inr ⟨by omega, hu⟩)
/-- A value owns its families. -/
def OwnF (w : World) (B : Nat) (v : Value) (n : Nat) (fs : List FamD) : Prop := n = fs.length ∧ w.ownsRow B 27 3 v n (fvals fs)
theorem ownF_form {w : World} {B n : Nat} {v : Value} {xs : List Value} (h : w.ownsRow B 27 3 v n xs) : ∃ a c, v = .slice a n c := by
  rcases h.2 with ⟨rfl, rfl⟩ | ⟨g, cap, cur, rfl, _⟩
  · exact ⟨_, _, rfl⟩
  · exact ⟨_, _, rfl⟩
theorem OwnF.nil (w : World) (B : Nat) : OwnF w B (.slice none 0 0) 0 [] := ⟨rfl, rfl, .inl ⟨rfl, rfl⟩⟩

/-- append(own, l...): families that lie somewhere. -/
theorem wpList_append_fams {w : World} {ops : Array Oper} {rest : List Oper} {o : Oper} {a : Act} {Q : Exit → Act → World → Prop} (hgd : o.guard = none) (s x : Operand)
    (ho : o.op = .call { callee := .builtin .append, args := #[s, x], argTypes := #[22, 22] })
    (B : Nat) (a0 : Option Addr) (m0 c0 : Nat) (acc : List FamD) (hs : a.eval s = .slice a0 m0 c0) (hown : OwnF w B (.slice a0 m0 c0) m0 acc)
    (ao : Option Addr) (m c : Nat) (fs : List FamD) (hx : a.eval x = .slice ao m c) (hrd : RdF w (.slice ao m c) fs) (hc0 : ao = none → c = 0)
    (hbytes : m0 + m ≤ 1000000) (hB : B ≤ w.heap.size)
    (h : ∀ a' m' c' w', Hid (m' = m0 + m) → OwnF w' B (.slice a' m' c') m' (acc ++ fs) → Below B w w' → wpList Try.prog ops Q rest (a.put o.dst (.slice a' m' c')) w') : wpList Try.prog ops Q (o :: rest) a w := by
  obtain ⟨i0, hi, hz0, hz1, hz2⟩ := info_parts info_fam
  obtain ⟨a1, c1, h2, hle, hm, hl48, hat⟩ := hrd
  simp only [Value.slice.injEq] at h2
  obtain ⟨rfl, rfl, rfl⟩ := h2
  cases ao with
  | none =>
    have hb0 : fs = [] := by
      rcases hat with h | ⟨b, off, h, _⟩
      · exact h
      · cases h
    subst hb0
    have hcc := hc0 rfl
    subst hcc
    refine wpList_append_own_none hgd s x 22 ho B 27 i0 3 und_fams hi _ _ _ hs hown.2 (by simpa using hx) ?_
    exact h _ _ _ _ (by unfold Hid; simp) (by simpa using hown) (Below.refl _ _)
  | some ad =>
    have hnews : ∀ j u, (fvals fs)[j]? = some u → w.cell? (ad.add j) = some u := by
      intro j u hj
      obtain ⟨i, f, hf, hxx⟩ := fvals_get hj
      rcases hat with h | ⟨b, off, h, hc⟩
      · rw [h] at hf; simp at hf
      · simp only [Option.some.injEq] at h
        subst h
        obtain ⟨k0, k1, k2⟩ := hc i f hf
        have e : (⟨b, off, none⟩ : Addr).add j = ⟨b, off + j, none⟩ := by unfold Addr.add; split <;> simp_all
        rw [e]
        rcases hxx with ⟨rfl, rfl⟩ | ⟨rfl, rfl⟩ | ⟨rfl, rfl⟩
        · exact k0
        · exact k1
        · exact k2
    refine wpList_append_own _ hgd s x 22 ho B 27 i0 (.agg #[.string ⟨#[]⟩, .int .i64 0, .int .i64 0]) 3 32 und_fams hi hz0 hz1 hz2 rfl (by decide) _ m0 (fvals acc) hs hown.2 ad fs.length c (fvals fs) hx (fvals_len fs) hnews (fvals_one fs) (by unfold maxLen; omega) (by omega) hB ?_
    intro v' w' h1 h2 _
    obtain ⟨a', c', rfl⟩ := ownF_form h1
    refine h a' _ c' w' (by unfold Hid; rfl) ⟨by rw [hown.1]; simp, by rw [fvals_app]; exact h1⟩ ((Below.refl B w).grown h2 hB (fun k hk => (hown.2.lt k hk).1))

def markF : FamD := ⟨⟨#[109, 97, 114, 107]⟩, -1, 0⟩
/-- Families with marks behind them. -/
def LaidF (w : World) (u : Value) (fs : List FamD) : Prop := ∃ g c, u = .slice (some ⟨g, 0, none⟩) fs.length c ∧ fs.length + 9 ≤ c ∧ c ≤ maxLen ∧ ∀ i f, (fs ++ List.replicate 9 markF)[i]? = some f → w.cell? ⟨g, i * 3, none⟩ = some (.string f.nm) ∧ w.cell? ⟨g, i * 3 + 1, none⟩ = some (.int .i64 f.mx) ∧ w.cell? ⟨g, i * 3 + 2, none⟩ = some (.int .i64 f.tl)
theorem LaidF.later {w w' : World} {u : Value} {fs : List FamD} (h : LaidF w u fs) (hb : Below w.heap.size w w') : LaidF w' u fs := by
  obtain ⟨g, c, h1, h2, h3, hc⟩ := h
  refine ⟨g, c, h1, h2, h3, fun i f hf => ?_⟩
  obtain ⟨c0, c1, c2⟩ := hc i f hf
  exact ⟨by rw [hb.cell (p := ⟨g, i * 3, none⟩) (World.block_lt_of_cell? w _ c0)]; exact c0, by rw [hb.cell (p := ⟨g, i * 3 + 1, none⟩) (World.block_lt_of_cell? w _ c1)]; exact c1, by rw [hb.cell (p := ⟨g, i * 3 + 2, none⟩) (World.block_lt_of_cell? w _ c2)]; exact c2⟩
theorem LaidF.rd {w : World} {u : Value} {fs : List FamD} (h : LaidF w u fs) (hl : fs.length ≤ 1000) : RdF w u fs := by
  obtain ⟨g, c, h1, h2, h3, hc⟩ := h
  refine ⟨_, c, h1, by omega, h3, by omega, .inr ⟨g, 0, rfl, fun i f hf => ?_⟩⟩
  have := hc i f (by rw [List.getElem?_append_left (List.getElem?_eq_some_iff.1 hf).1]; exact hf)
  simpa using this
theorem OwnF.cells {w : World} {B n c : Nat} {a : Option Addr} {fs : List FamD} (h : OwnF w B (.slice a n c) n fs) (hp : 0 < n) : ∃ g, a = some ⟨g, 0, none⟩ ∧ n ≤ c ∧ c ≤ maxLen ∧ ∀ i f, fs[i]? = some f → w.cell? ⟨g, i * 3, none⟩ = some (.string f.nm) ∧ w.cell? ⟨g, i * 3 + 1, none⟩ = some (.int .i64 f.mx) ∧ w.cell? ⟨g, i * 3 + 2, none⟩ = some (.int .i64 f.tl) := by
  rcases h.2.2 with ⟨_, h2⟩ | ⟨g, cap, cur, h1, h2, h3, h4, h5, h6, h7⟩
  · omega
  · simp only [Value.slice.injEq] at h1
    obtain ⟨rfl, _, rfl⟩ := h1
    refine ⟨g, rfl, h4, h5, fun i f hf => ?_⟩
    have key : ∀ j u, (fvals fs)[j]? = some u → w.cell? ⟨g, j, none⟩ = some u := by
      intro j u hj
      have hlt : j < n * 3 := by
        have := (List.getElem?_eq_some_iff.1 hj).1
        rw [fvals_len, ← h.1] at this
        exact this
      rw [← h7, List.getElem?_take_of_lt hlt] at hj
      have e : cur[j]? = some u := by simpa using hj
      simp [World.cell?, h3, e]
    obtain ⟨q0, q1, q2⟩ := fvals_at hf
    exact ⟨key _ _ q0, key _ _ q1, key _ _ q2⟩

set_option maxRecDepth 100000 in
set_option maxHeartbeats 4000000 in
theorem schema_go {a : Option Addr} {n cap : Nat} {fs : List FamD} {w : World} (hr : RdF w (.slice a n cap) fs) (ha : a = none → cap = 0) :
    Calls Try.prog 11 #[.agg #[.slice a n cap]] w fun e w' => ∃ u, e = .returned (.agg #[u]) ∧ LaidF w' u (fs.take 20) ∧ (∀ g, u.ownBlock = some g → w.heap.size ≤ g ∧ g < w'.heap.size) ∧ Below w.heap.size w w' := by
  have hn : n = fs.length := by
    obtain ⟨a1, c1, h2, _⟩ := hr
    simp only [Value.slice.injEq] at h2
    exact h2.2.1
  have hcap : n ≤ cap ∧ cap ≤ maxLen := by
    obtain ⟨a1, c1, h2, h3, h4, _⟩ := hr
    simp only [Value.slice.injEq] at h2
    obtain ⟨_, rfl, rfl⟩ := h2
    exact ⟨h3, h4⟩
  have A1 := ((Below.refl w.heap.size w).alloc (Nat.le_refl _) (.cells #[.slice a n cap] 24)).alloc (by simp) (.cells #[.slice none 0 0] 24)
  have s1 : ((w.alloc (.cells #[.slice a n cap] 24)).alloc (.cells #[.slice none 0 0] 24)).heap.size = w.heap.size + 2 := by simp
  have bx : ((w.alloc (.cells #[.slice a n cap] 24)).alloc (.cells #[.slice none 0 0] 24)).heap[w.heap.size + 1]? = some (.cells #[.slice none 0 0] 24) := by
    have := heap_new (w.alloc (.cells #[.slice a n cap] 24)) (.cells #[.slice none 0 0] 24)
    simpa using this
  have HX : Hid (_ ∧ _ ∧ _) := ⟨A1, s1, bx⟩
  clear A1 s1 bx
  by_cases hcut : 20 < n
  · have hcut' : (20 : Int) < (n : Int) := by omega
    have hq : (20 : Int) ≤ (cap : Int) := by omega
    have HLL : Hid ((fs.take 20).length = 20) := by unfold Hid; rw [List.length_take, ← hn]; omega
    have r20 : RdF w (.slice a 20 cap) (fs.take 20) := by
      obtain ⟨a1, c1, h2, h3, h4, h5, h6⟩ := hr
      simp only [Value.slice.injEq] at h2
      obtain ⟨rfl, _, rfl⟩ := h2
      refine ⟨a, cap, by rw [HLL.out], by rw [HLL.out]; omega, h4, by rw [HLL.out]; omega, ?_⟩
      rcases h6 with h | ⟨b, off, h, hc⟩
      · exact .inl (by rw [h]; rfl)
      · refine .inr ⟨b, off, h, fun i f hf => hc i f ?_⟩
        have hi : i < 20 := by have := (List.getElem?_eq_some_iff.1 hf).1; rw [HLL.out] at this; exact this
        rwa [List.getElem?_take_of_lt hi] at hf
    have ha' : a = none → cap = 0 := ha
    clear hn
    generalize fs.take 20 = gs at HLL r20 ⊢
    go_enter Try.func11, Try.ntmps11
    go_wp2_with (at_builtin; refine wpList_append_fams rfl _ _ rfl (w.heap.size + 2) none 0 0 [] rfl (OwnF.nil _ _) a 20 cap _ rfl (r20.later HX.out.1) ha (by omega) (Nat.le_of_eq HX.out.2.1.symm) ?_; intro a1 m1 c1 w1 hm1 own1 hb1; refine Hid.out ?_)
    refine Lib.hid ?_
    rw [List.nil_append] at own1
    have B1 : Below w.heap.size w w1 := HX.out.1.trans (hb1.mono (by omega))
    have hS1 : w.heap.size + 2 ≤ w1.heap.size := by have := hb1.size; have := HX.out.2.1; omega
    have bx1 : Hid (w1.heap[w.heap.size + 1]? = some (.cells #[.slice none 0 0] 24)) := by unfold Hid; rw [hb1.block (w.heap.size + 1) (by omega)]; exact HX.out.2.2
    clear hb1 HX hm1
    go_wp2
    go_loopw [4, 5] (fun s i wr => ∃ t a m c, t ≤ 9 ∧ i = .int .i64 ((t : Nat) : Int) ∧ s = .slice a m c ∧ OwnF wr (w.heap.size + 2) (.slice a m c) m (gs ++ List.replicate t markF) ∧ Below w.heap.size w wr ∧ w.heap.size + 2 ≤ wr.heap.size ∧ wr.heap[w.heap.size + 1]? = some (.cells #[.slice none 0 0] 24)) (fun _ i _ => 9 - (intOf i).toNat)
    case atStart => exact ⟨0, a1, m1, c1, by omega, rfl, rfl, by simpa using own1, B1, hS1, bx1.out⟩
    case round =>
      obtain ⟨t, a2, m2, c2, ht, rfl, rfl, own2, B2, hS2, bx2⟩ := hrel
      have HM2 : Hid (m2 = 20 + t) := by unfold Hid; rw [own2.1, List.length_append, HLL.out, List.length_replicate]
      have hm2b : m2 ≤ 40 := by have := HM2.out; omega
      have HB2 : Hid (Below w.heap.size w wr ∧ wr.heap[w.heap.size + 1]? = some (.cells #[.slice none 0 0] 24)) := ⟨B2, bx2⟩
      clear B2
      by_cases hlt : t < 9
      · have j1 : (t : Int) < 9 := by omega
        have A3 := (Below.refl wr.heap.size wr).alloc (Nat.le_refl _) (.cells #[.string ⟨#[109, 97, 114, 107]⟩, .int .i64 (-1), .int .i64 0] 27)
        have rm : RdF (wr.alloc (.cells #[.string ⟨#[109, 97, 114, 107]⟩, .int .i64 (-1), .int .i64 0] 27)) (.slice (some ⟨wr.heap.size, 0, none⟩) 1 1) [markF] := by
          have hh := heap_new wr (.cells #[.string ⟨#[109, 97, 114, 107]⟩, .int .i64 (-1), .int .i64 0] 27)
          generalize (wr.alloc (.cells #[.string ⟨#[109, 97, 114, 107]⟩, .int .i64 (-1), .int .i64 0] 27)) = wz at hh
          refine ⟨_, 1, rfl, Nat.le_refl _, by decide, by simp, .inr ⟨wr.heap.size, 0, rfl, fun i f hf => ?_⟩⟩
          obtain rfl : i = 0 := by have := (List.getElem?_eq_some_iff.1 hf).1; simp at this; omega
          simp at hf
          subst hf
          exact ⟨by simp [World.cell?, hh, markF], by simp [World.cell?, hh, markF], by simp [World.cell?, hh, markF]⟩
        have own3 : OwnF (wr.alloc (.cells #[.string ⟨#[109, 97, 114, 107]⟩, .int .i64 (-1), .int .i64 0] 27)) (w.heap.size + 2) (.slice a2 m2 c2) m2 (gs ++ List.replicate t markF) := ⟨own2.1, own2.2.alloc _⟩
        have hS3 : w.heap.size + 2 ≤ (wr.alloc (.cells #[.string ⟨#[109, 97, 114, 107]⟩, .int .i64 (-1), .int .i64 0] 27)).heap.size := by simp; omega
        have HA3 : Hid (Below wr.heap.size wr _) := A3
        clear A3 own2 bx2
        go_wp2_with (at_builtin; refine wpList_append_fams rfl _ _ rfl (w.heap.size + 2) a2 m2 c2 _ rfl own3 (some ⟨wr.heap.size, 0, none⟩) 1 1 [markF] rfl rm (fun h => by cases h) (by omega) hS3 ?_; intro a4 m4 c4 w4 hm4 own4 hb4; refine Hid.out ?_)
        refine Lib.hid ?_
        have H4 : Hid (OwnF w4 (w.heap.size + 2) (.slice a4 m4 c4) m4 (gs ++ List.replicate (t + 1) markF) ∧ Below w.heap.size w w4 ∧ w.heap.size + 2 ≤ w4.heap.size ∧ w4.heap[w.heap.size + 1]? = some (.cells #[.slice none 0 0] 24)) := by
          refine ⟨?_, (HB2.out.1.trans (HA3.out.mono HB2.out.1.size)).trans (hb4.mono (by omega)), Nat.le_trans hS3 hb4.size, ?_⟩
          · rw [List.append_assoc, ← List.replicate_succ'] at own4; exact own4
          · rw [hb4.block (w.heap.size + 1) (by omega), HA3.out.block (w.heap.size + 1) (by omega)]; exact HB2.out.2
        clear own4 hb4 own3 rm hS3 HA3 HB2 hm4
        go_wp2
        go_roundw
        case rel => exact ⟨t + 1, a4, m4, c4, by omega, by go_num, rfl, H4.out.1, H4.out.2.1, H4.out.2.2.1, H4.out.2.2.2⟩
        case measure => simp [intOf]; omega
      · have j1 : (9 : Int) ≤ (t : Int) := by omega
        obtain rfl : t = 9 := by omega
        obtain ⟨g, rfl, hg1, hg2, hcells⟩ := own2.cells (by have := HM2.out; omega)
        have q1 : (20 : Int) ≤ (c2 : Int) := by have := HM2.out; omega
        have q2 : (0 : Int) ≤ (20 : Int) := by omega
        have z0 : wr.cell? ⟨w.heap.size + 1, 0, none⟩ = some (.slice none 0 0) := by simp [World.cell?, bx2]
        have zf : wr.frozen? ⟨w.heap.size + 1, 0, none⟩ = false := by simp [World.frozen?, bx2]
        have HCL := Lib.hid hcells
        have bxk := Lib.hid bx2
        have HBG : Hid (g ≠ w.heap.size + 1 ∧ g < wr.heap.size ∧ w.heap.size ≤ g) := by
          have := own2.2.lt g rfl
          exact ⟨by omega, this.2, by omega⟩
        clear hcells bx2 own2
        go_wp2
        have hap := apart_set wr (w.heap.size + 1) 0 (.slice (some ⟨g, 0, none⟩) 20 c2)
        have y0 : (wr.setCell ⟨w.heap.size + 1, 0, none⟩ (.slice (some ⟨g, 0, none⟩) 20 c2)).cell? ⟨w.heap.size + 1, 0, none⟩ = some (.slice (some ⟨g, 0, none⟩) 20 c2) := by
          simp [World.setCell, World.cell?, Array.getElem?_modify, bxk.out]
        generalize (wr.setCell ⟨w.heap.size + 1, 0, none⟩ (.slice (some ⟨g, 0, none⟩) 20 c2)) = wE at hap y0
        refine bodyPost_ret (v := .agg #[.slice (some ⟨g, 0, none⟩) 20 c2]) (by simp [results, Try.results11, go_sem, y0]) rfl ?_
        refine ⟨_, rfl, ⟨g, c2, by rw [HLL.out], by have := HLL.out; have := HM2.out; omega, hg2, fun i f hf => ?_⟩, (fun k hk => by
          have e : g = k := by simpa [Value.ownBlock] using hk
          subst e
          exact ⟨HBG.out.2.2, Nat.lt_of_lt_of_le HBG.out.2.1 hap.size⟩), HB2.out.1.trans (hap.below (by omega) HB2.out.1.size)⟩
        obtain ⟨k0, k1, k2⟩ := HCL.out i f hf
        exact ⟨hap.cell k0 HBG.out.1, hap.cell k1 HBG.out.1, hap.cell k2 HBG.out.1⟩
  · have hcut' : (n : Int) ≤ 20 := by omega
    have HLL : Hid ((fs.take 20).length = n) := by unfold Hid; rw [List.length_take, ← hn]; omega
    have e20 : fs.take 20 = fs := List.take_of_length_le (by rw [← hn]; omega)
    rw [e20] at HLL ⊢
    clear e20 hn
    go_enter Try.func11, Try.ntmps11
    go_wp2_with (at_builtin; refine wpList_append_fams rfl _ _ rfl (w.heap.size + 2) none 0 0 [] rfl (OwnF.nil _ _) a n cap _ rfl (hr.later HX.out.1) ha (by omega) (Nat.le_of_eq HX.out.2.1.symm) ?_; intro a1 m1 c1 w1 hm1 own1 hb1; refine Hid.out ?_)
    refine Lib.hid ?_
    rw [List.nil_append] at own1
    have B1 : Below w.heap.size w w1 := HX.out.1.trans (hb1.mono (by omega))
    have hS1 : w.heap.size + 2 ≤ w1.heap.size := by have := hb1.size; have := HX.out.2.1; omega
    have bx1 : Hid (w1.heap[w.heap.size + 1]? = some (.cells #[.slice none 0 0] 24)) := by unfold Hid; rw [hb1.block (w.heap.size + 1) (by omega)]; exact HX.out.2.2
    clear hb1 HX hm1
    go_wp2
    go_loopw [4, 5] (fun s i wr => ∃ t a m c, t ≤ 9 ∧ i = .int .i64 ((t : Nat) : Int) ∧ s = .slice a m c ∧ OwnF wr (w.heap.size + 2) (.slice a m c) m (fs ++ List.replicate t markF) ∧ Below w.heap.size w wr ∧ w.heap.size + 2 ≤ wr.heap.size ∧ wr.heap[w.heap.size + 1]? = some (.cells #[.slice none 0 0] 24)) (fun _ i _ => 9 - (intOf i).toNat)
    case atStart => exact ⟨0, a1, m1, c1, by omega, rfl, rfl, by simpa using own1, B1, hS1, bx1.out⟩
    case round =>
      obtain ⟨t, a2, m2, c2, ht, rfl, rfl, own2, B2, hS2, bx2⟩ := hrel
      have HM2 : Hid (m2 = n + t) := by unfold Hid; rw [own2.1, List.length_append, HLL.out, List.length_replicate]
      have hm2b : m2 ≤ 40 := by have := HM2.out; omega
      have HB2 : Hid (Below w.heap.size w wr ∧ wr.heap[w.heap.size + 1]? = some (.cells #[.slice none 0 0] 24)) := ⟨B2, bx2⟩
      clear B2
      by_cases hlt : t < 9
      · have j1 : (t : Int) < 9 := by omega
        have A3 := (Below.refl wr.heap.size wr).alloc (Nat.le_refl _) (.cells #[.string ⟨#[109, 97, 114, 107]⟩, .int .i64 (-1), .int .i64 0] 27)
        have rm : RdF (wr.alloc (.cells #[.string ⟨#[109, 97, 114, 107]⟩, .int .i64 (-1), .int .i64 0] 27)) (.slice (some ⟨wr.heap.size, 0, none⟩) 1 1) [markF] := by
          have hh := heap_new wr (.cells #[.string ⟨#[109, 97, 114, 107]⟩, .int .i64 (-1), .int .i64 0] 27)
          generalize (wr.alloc (.cells #[.string ⟨#[109, 97, 114, 107]⟩, .int .i64 (-1), .int .i64 0] 27)) = wz at hh
          refine ⟨_, 1, rfl, Nat.le_refl _, by decide, by simp, .inr ⟨wr.heap.size, 0, rfl, fun i f hf => ?_⟩⟩
          obtain rfl : i = 0 := by have := (List.getElem?_eq_some_iff.1 hf).1; simp at this; omega
          simp at hf
          subst hf
          exact ⟨by simp [World.cell?, hh, markF], by simp [World.cell?, hh, markF], by simp [World.cell?, hh, markF]⟩
        have own3 : OwnF (wr.alloc (.cells #[.string ⟨#[109, 97, 114, 107]⟩, .int .i64 (-1), .int .i64 0] 27)) (w.heap.size + 2) (.slice a2 m2 c2) m2 (fs ++ List.replicate t markF) := ⟨own2.1, own2.2.alloc _⟩
        have hS3 : w.heap.size + 2 ≤ (wr.alloc (.cells #[.string ⟨#[109, 97, 114, 107]⟩, .int .i64 (-1), .int .i64 0] 27)).heap.size := by simp; omega
        have HA3 : Hid (Below wr.heap.size wr _) := A3
        clear A3 own2 bx2
        go_wp2_with (at_builtin; refine wpList_append_fams rfl _ _ rfl (w.heap.size + 2) a2 m2 c2 _ rfl own3 (some ⟨wr.heap.size, 0, none⟩) 1 1 [markF] rfl rm (fun h => by cases h) (by omega) hS3 ?_; intro a4 m4 c4 w4 hm4 own4 hb4; refine Hid.out ?_)
        refine Lib.hid ?_
        have H4 : Hid (OwnF w4 (w.heap.size + 2) (.slice a4 m4 c4) m4 (fs ++ List.replicate (t + 1) markF) ∧ Below w.heap.size w w4 ∧ w.heap.size + 2 ≤ w4.heap.size ∧ w4.heap[w.heap.size + 1]? = some (.cells #[.slice none 0 0] 24)) := by
          refine ⟨?_, (HB2.out.1.trans (HA3.out.mono HB2.out.1.size)).trans (hb4.mono (by omega)), Nat.le_trans hS3 hb4.size, ?_⟩
          · rw [List.append_assoc, ← List.replicate_succ'] at own4; exact own4
          · rw [hb4.block (w.heap.size + 1) (by omega), HA3.out.block (w.heap.size + 1) (by omega)]; exact HB2.out.2
        clear own4 hb4 own3 rm hS3 HA3 HB2 hm4
        go_wp2
        go_roundw
        case rel => exact ⟨t + 1, a4, m4, c4, by omega, by go_num, rfl, H4.out.1, H4.out.2.1, H4.out.2.2.1, H4.out.2.2.2⟩
        case measure => simp [intOf]; omega
      · have j1 : (9 : Int) ≤ (t : Int) := by omega
        obtain rfl : t = 9 := by omega
        obtain ⟨g, rfl, hg1, hg2, hcells⟩ := own2.cells (by have := HM2.out; omega)
        have q1 : (n : Int) ≤ (c2 : Int) := by have := HM2.out; omega
        have q2 : (0 : Int) ≤ (n : Int) := by omega
        have z0 : wr.cell? ⟨w.heap.size + 1, 0, none⟩ = some (.slice none 0 0) := by simp [World.cell?, bx2]
        have zf : wr.frozen? ⟨w.heap.size + 1, 0, none⟩ = false := by simp [World.frozen?, bx2]
        have HCL := Lib.hid hcells
        have bxk := Lib.hid bx2
        have HBG : Hid (g ≠ w.heap.size + 1 ∧ g < wr.heap.size ∧ w.heap.size ≤ g) := by
          have := own2.2.lt g rfl
          exact ⟨by omega, this.2, by omega⟩
        clear hcells bx2 own2
        go_wp2
        have hap := apart_set wr (w.heap.size + 1) 0 (.slice (some ⟨g, 0, none⟩) n c2)
        have y0 : (wr.setCell ⟨w.heap.size + 1, 0, none⟩ (.slice (some ⟨g, 0, none⟩) n c2)).cell? ⟨w.heap.size + 1, 0, none⟩ = some (.slice (some ⟨g, 0, none⟩) n c2) := by
          simp [World.setCell, World.cell?, Array.getElem?_modify, bxk.out]
        generalize (wr.setCell ⟨w.heap.size + 1, 0, none⟩ (.slice (some ⟨g, 0, none⟩) n c2)) = wE at hap y0
        refine bodyPost_ret (v := .agg #[.slice (some ⟨g, 0, none⟩) n c2]) (by simp [results, Try.results11, go_sem, y0]) rfl ?_
        refine ⟨_, rfl, ⟨g, c2, by rw [HLL.out], by have := HLL.out; have := HM2.out; omega, hg2, fun i f hf => ?_⟩, (fun k hk => by
          have e : g = k := by simpa [Value.ownBlock] using hk
          subst e
          exact ⟨HBG.out.2.2, Nat.lt_of_lt_of_le HBG.out.2.1 hap.size⟩), HB2.out.1.trans (hap.below (by omega) HB2.out.1.size)⟩
        obtain ⟨k0, k1, k2⟩ := HCL.out i f hf
        exact ⟨hap.cell k0 HBG.out.1, hap.cell k1 HBG.out.1, hap.cell k2 HBG.out.1⟩
end Go.Proofs.Ytiiencopchpajaa
