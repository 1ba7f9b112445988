import Derived.Test.YtiiencopchpajaaSch2
namespace Go.Proofs.Ytiiencopchpajaa
open Go.RowKit
set_option linter.unusedVariables false

structure FamD where
  nm : ByteArray
  mx : Int
  tl : Int
/-- A list of families reads as these. -/
def RdF (w : World) (v : Value) (fs : List FamD) : Prop := ∃ a cap, v = .slice a fs.length cap ∧ fs.length ≤ cap ∧ cap ≤ maxLen ∧ fs.length ≤ 281474976710656 ∧ (fs = [] ∨ ∃ b off, a = some ⟨b, off, none⟩ ∧ ∀ i f, fs[i]? = some f → w.cell? ⟨b, off + i * 3, none⟩ = some (.string f.nm) ∧ w.cell? ⟨b, off + i * 3 + 1, none⟩ = some (.int .i64 f.mx) ∧ w.cell? ⟨b, off + i * 3 + 2, none⟩ = some (.int .i64 f.tl))
theorem RdF.later {w w' : World} {v : Value} {fs : List FamD} (h : RdF w v fs) (hb : Below w.heap.size w w') : RdF w' v fs := by
  obtain ⟨a, cap, h1, h2, h3, h4, h5⟩ := h
  refine ⟨a, cap, h1, h2, h3, h4, ?_⟩
  rcases h5 with h5 | ⟨b, off, rfl, hc⟩
  · exact .inl h5
  · refine .inr ⟨b, off, rfl, fun i f hf => ?_⟩
    obtain ⟨c0, c1, c2⟩ := hc i f hf
    exact ⟨by rw [hb.cell (p := ⟨b, off + i * 3, none⟩) (World.block_lt_of_cell? w _ c0)]; exact c0, by rw [hb.cell (p := ⟨b, off + i * 3 + 1, none⟩) (World.block_lt_of_cell? w _ c1)]; exact c1, by rw [hb.cell (p := ⟨b, off + i * 3 + 2, none⟩) (World.block_lt_of_cell? w _ c2)]; exact c2⟩
theorem bytes_ne {a b : ByteArray} (h : ¬ a = b) : (a.toList == b.toList) = false := by
  rw [ByteArray.toList_eq, ByteArray.toList_eq]
  have h2 : a.data.toList ≠ b.data.toList := fun e => h (by
    have := Array.toList_inj.1 e
    cases a; cases b
    simp_all)
  simpa using h2
def famIx : List FamD → ByteArray → Nat → Int
  | [], _, _ => -1
  | f :: r, n, i => if f.nm = n then (i : Int) else famIx r n (i + 1)
theorem famIx_at {fs : List FamD} {n : ByteArray} : ∀ {t k : Nat} {f : FamD}, fs[t]? = some f → (∀ j g, j < t → fs[j]? = some g → g.nm ≠ n) → f.nm = n → famIx fs n k = ((k + t : Nat) : Int) := by
  induction fs with
  | nil => intro t k f h; simp at h
  | cons x r ih =>
    intro t k f h hj he
    cases t with
    | zero =>
      simp at h
      subst h
      unfold famIx
      rw [if_pos he]
      rfl
    | succ t =>
      unfold famIx
      rw [if_neg (hj 0 x (by omega) rfl), ih (t := t) (k := k + 1) (f := f) (by simpa using h) (fun j g hjt hg => hj (j + 1) g (by omega) (by simpa using hg)) he]
      congr 1
      omega
theorem famIx_none {fs : List FamD} {n : ByteArray} : ∀ {k : Nat}, (∀ g, g ∈ fs → g.nm ≠ n) → famIx fs n k = -1 := by
  induction fs with
  | nil => intro k _; rfl
  | cons x r ih =>
    intro k h
    unfold famIx
    rw [if_neg (h x (by simp)), ih (fun g hg => h g (by simp [hg]))]

set_option maxRecDepth 100000 in
set_option maxHeartbeats 4000000 in
theorem family_any {v : Value} {fs : List FamD} {w : World} (hr : RdF w v fs) (n : ByteArray) :
    Calls Try.prog 13 #[.agg #[v], .string n] w fun e w' => e = .returned (.int .i64 (famIx fs n 0)) ∧ Below w.heap.size w w' := by
  obtain ⟨a, cap, rfl, h2, h3, h4, h5⟩ := hr
  obtain ⟨k, hk⟩ : ∃ k, k = fs.length := ⟨_, rfl⟩
  rw [← hk] at h2 h4 ⊢
  have HK : Hid (k = fs.length) := hk
  have HC : Hid (fs = [] ∨ ∃ b off, a = some ⟨b, off, none⟩ ∧ ∀ i f, fs[i]? = some f → w.cell? ⟨b, off + i * 3, none⟩ = some (.string f.nm) ∧ w.cell? ⟨b, off + i * 3 + 1, none⟩ = some (.int .i64 f.mx) ∧ w.cell? ⟨b, off + i * 3 + 2, none⟩ = some (.int .i64 f.tl)) := h5
  have A1 := (Below.refl w.heap.size w).alloc (Nat.le_refl _) (.cells #[.slice a k cap] 24)
  clear hk h5
  go_enter Try.func13, Try.ntmps13
  go_wp2
  go_loopw [5, 6, 10] (fun _ _ i wr => ∃ t : Nat, t ≤ k ∧ i = .int .i64 (t : Int) ∧ Below w.heap.size w wr ∧ ∀ j g, j < t → fs[j]? = some g → g.nm ≠ n) (fun _ _ i _ => k - (intOf i).toNat)
  case atStart => exact ⟨0, by omega, rfl, A1, fun j g hj _ => absurd hj (by omega)⟩
  case round =>
    obtain ⟨t, ht, rfl, B1, hj⟩ := hrel
    have HJ : Hid (∀ j g, j < t → fs[j]? = some g → g.nm ≠ n) := hj
    clear hj A1
    by_cases hlt : t < k
    · have j1 : (t : Int) < (k : Int) := by omega
      have j2 : (0 : Int) ≤ (t : Int) := by omega
      rcases HC.out with h0 | ⟨b, off, rfl, hc⟩
      · have := HK.out; rw [h0] at this; simp at this; omega
      obtain ⟨f, hf⟩ : ∃ f, fs[t]? = some f := ⟨fs[t]'(by rw [← HK.out]; exact hlt), List.getElem?_eq_getElem _⟩
      obtain ⟨c0, c1, c2⟩ := hc t f hf
      have d0 : wr.cell? ⟨b, off + t * 3, none⟩ = some (.string f.nm) := by rw [B1.cell (p := ⟨b, off + t * 3, none⟩) (World.block_lt_of_cell? w _ c0)]; exact c0
      have d1 : wr.cell? ⟨b, off + t * 3 + 1, none⟩ = some (.int .i64 f.mx) := by rw [B1.cell (p := ⟨b, off + t * 3 + 1, none⟩) (World.block_lt_of_cell? w _ c1)]; exact c1
      have d2 : wr.cell? ⟨b, off + t * 3 + 2, none⟩ = some (.int .i64 f.tl) := by rw [B1.cell (p := ⟨b, off + t * 3 + 2, none⟩) (World.block_lt_of_cell? w _ c2)]; exact c2
      have HF : Hid (fs[t]? = some f) := hf
      clear hc c0 c1 c2 hf
      have A2 := B1.alloc B1.size (.cells #[.string f.nm, .int .i64 f.mx, .int .i64 f.tl] 27)
      by_cases he : f.nm = n
      · have HV : Hid (famIx fs n 0 = (t : Int)) := by
          unfold Hid
          rw [famIx_at HF.out HJ.out he]
          simp
        go_wp2
        go_ret
        rw [HV.out]
        exact ⟨rfl, B1.alloc B1.size _⟩
      · have he2 := bytes_ne he
        have HNE : Hid (∀ j g, j < t + 1 → fs[j]? = some g → g.nm ≠ n) := fun j g hj hg => by
          by_cases e : j = t
          · subst e
            rw [HF.out] at hg
            simp at hg
            rw [← hg]; exact he
          · exact HJ.out j g (by omega) hg
        go_wp2
        go_roundw
        case rel => exact ⟨t + 1, by omega, by go_num, B1.alloc B1.size _, HNE.out⟩
        case measure => simp [intOf]; omega
    · have j1 : (k : Int) ≤ (t : Int) := by omega
      have HV : Hid (famIx fs n 0 = -1) := famIx_none (fun g hg => by
        obtain ⟨i, hi⟩ := List.getElem?_of_mem hg
        have := (List.getElem?_eq_some_iff.1 hi).1
        exact HJ.out i g (by have := HK.out; omega) hi)
      go_wp2
      go_ret
      rw [HV.out]
      exact ⟨rfl, B1⟩

set_option maxRecDepth 100000 in
set_option maxHeartbeats 4000000 in
theorem refFamily_any {v : Value} {fs : List FamD} {w : World} (hr : RdF w v fs) (n : ByteArray) :
    Calls Try.prog 15 #[.agg #[v], .string n] w fun e w' => e = .returned (.int .i64 (famIx fs n 0)) ∧ Below w.heap.size w w' := by
  obtain ⟨a, cap, rfl, h2, h3, h4, h5⟩ := hr
  obtain ⟨k, hk⟩ : ∃ k, k = fs.length := ⟨_, rfl⟩
  rw [← hk] at h2 h4 ⊢
  have HK : Hid (k = fs.length) := hk
  have HC : Hid (fs = [] ∨ ∃ b off, a = some ⟨b, off, none⟩ ∧ ∀ i f, fs[i]? = some f → w.cell? ⟨b, off + i * 3, none⟩ = some (.string f.nm) ∧ w.cell? ⟨b, off + i * 3 + 1, none⟩ = some (.int .i64 f.mx) ∧ w.cell? ⟨b, off + i * 3 + 2, none⟩ = some (.int .i64 f.tl)) := h5
  have A1 := (Below.refl w.heap.size w).alloc (Nat.le_refl _) (.cells #[.slice a k cap] 24)
  clear hk h5
  go_enter Try.func15, Try.ntmps15
  go_wp2
  go_loopw [5] (fun i wr => ∃ t : Nat, t ≤ k ∧ i = .int .i64 (t : Int) ∧ (Below w.heap.size w wr ∧ wr.cell? ⟨w.heap.size, 0, none⟩ = some (.slice a k cap)) ∧ ∀ j g, j < t → fs[j]? = some g → g.nm ≠ n) (fun i _ => k - (intOf i).toNat)
  case atStart => exact ⟨0, by omega, rfl, ⟨A1, by simp⟩, fun j g hj _ => absurd hj (by omega)⟩
  case round =>
    obtain ⟨t, ht, rfl, ⟨B1, hbx⟩, hj⟩ := hrel
    have HJ : Hid (∀ j g, j < t → fs[j]? = some g → g.nm ≠ n) := hj
    clear hj A1
    by_cases hlt : t < k
    · have j1 : (t : Int) < (k : Int) := by omega
      have j2 : (0 : Int) ≤ (t : Int) := by omega
      rcases HC.out with h0 | ⟨b, off, rfl, hc⟩
      · have := HK.out; rw [h0] at this; simp at this; omega
      obtain ⟨f, hf⟩ : ∃ f, fs[t]? = some f := ⟨fs[t]'(by rw [← HK.out]; exact hlt), List.getElem?_eq_getElem _⟩
      obtain ⟨c0, c1, c2⟩ := hc t f hf
      have d0 : wr.cell? ⟨b, off + t * 3, none⟩ = some (.string f.nm) := by rw [B1.cell (p := ⟨b, off + t * 3, none⟩) (World.block_lt_of_cell? w _ c0)]; exact c0
      have d1 : wr.cell? ⟨b, off + t * 3 + 1, none⟩ = some (.int .i64 f.mx) := by rw [B1.cell (p := ⟨b, off + t * 3 + 1, none⟩) (World.block_lt_of_cell? w _ c1)]; exact c1
      have d2 : wr.cell? ⟨b, off + t * 3 + 2, none⟩ = some (.int .i64 f.tl) := by rw [B1.cell (p := ⟨b, off + t * 3 + 2, none⟩) (World.block_lt_of_cell? w _ c2)]; exact c2
      have HF : Hid (fs[t]? = some f) := hf
      clear hc c0 c1 c2 hf
      by_cases he : f.nm = n
      · have HV : Hid (famIx fs n 0 = (t : Int)) := by
          unfold Hid
          rw [famIx_at HF.out HJ.out he]
          simp
        go_wp2
        go_ret
        rw [HV.out]
        exact ⟨rfl, B1⟩
      · have he2 := bytes_ne he
        have HNE : Hid (∀ j g, j < t + 1 → fs[j]? = some g → g.nm ≠ n) := fun j g hj hg => by
          by_cases e : j = t
          · subst e
            rw [HF.out] at hg
            simp at hg
            rw [← hg]; exact he
          · exact HJ.out j g (by omega) hg
        go_wp2
        go_roundw
        case rel => exact ⟨t + 1, by omega, by go_num, ⟨B1, hbx⟩, HNE.out⟩
        case measure => simp [intOf]; omega
    · have j1 : (k : Int) ≤ (t : Int) := by omega
      have HV : Hid (famIx fs n 0 = -1) := famIx_none (fun g hg => by
        obtain ⟨i, hi⟩ := List.getElem?_of_mem hg
        have := (List.getElem?_eq_some_iff.1 hi).1
        exact HJ.out i g (by have := HK.out; omega) hi)
      go_wp2
      go_ret
      rw [HV.out]
      exact ⟨rfl, B1⟩

end Go.Proofs.Ytiiencopchpajaa
