import Derived.Test.YtiiencopchpajaaSch3
namespace Go.Proofs.Ytiiencopchpajaa
open Go.RowKit
set_option linter.unusedVariables false

def FamOk (f : FamD) : Prop := NameOk f.nm ∧ (1 ≤ f.mx ∧ f.mx ≤ 16) ∧ 0 ≤ f.tl ∧ f.tl ≤ 1099511627776
open Classical in
theorem name_y {s : ByteArray} (h : NameOk s) (w : World) : Calls Try.prog 64 #[.string s] w fun e w' => e = .returned (.bool true) ∧ w' = w := by
  have k := famName_any s w; rw [decide_eq_true h] at k; exact k
open Classical in
theorem name_n {s : ByteArray} (h : ¬ NameOk s) (w : World) : Calls Try.prog 64 #[.string s] w fun e w' => e = .returned (.bool false) ∧ w' = w := by
  have k := famName_any s w; rw [decide_eq_false h] at k; exact k
open Classical in
theorem rname_y {s : ByteArray} (h : NameOk s) (w : World) : Calls Try.prog 45 #[.string s] w fun e w' => e = .returned (.bool true) ∧ w' = w := by
  have k := refName_any s w; rw [decide_eq_true h] at k; exact k
open Classical in
theorem rname_n {s : ByteArray} (h : ¬ NameOk s) (w : World) : Calls Try.prog 45 #[.string s] w fun e w' => e = .returned (.bool false) ∧ w' = w := by
  have k := refName_any s w; rw [decide_eq_false h] at k; exact k

set_option maxRecDepth 100000 in
set_option maxHeartbeats 2000000 in
theorem isFamily_is (f : FamD) (w : World) (R : Bool) (hR : R = true ↔ FamOk f) : Calls Try.prog 43 #[.agg #[.string f.nm, .int .i64 f.mx, .int .i64 f.tl]] w fun e w' => e = .returned (.bool R) ∧ Below w.heap.size w w' := by
  have A1 := (Below.refl w.heap.size w).alloc (Nat.le_refl _) (.cells #[.string f.nm, .int .i64 f.mx, .int .i64 f.tl] 27)
  have no : ¬ FamOk f → R = false := fun h => by
    cases hr : R with
    | false => rfl
    | true => exact absurd (hR.1 hr) h
  obtain ⟨nm, mx, tl⟩ := f
  simp only at *
  by_cases hn : NameOk nm
  · have HNM : Hid (NameOk nm) := hn
    clear hn
    by_cases c0 : 1 ≤ mx
    · have d0 : decide ((1 : Int) ≤ mx) = true := decide_eq_true c0
      by_cases c1 : mx ≤ 16
      · have d1 : decide (mx ≤ 16) = true := decide_eq_true c1
        by_cases c2 : 0 ≤ tl
        · have d2 : decide ((0 : Int) ≤ tl) = true := decide_eq_true c2
          by_cases c3 : tl ≤ 1099511627776
          · have d3 : decide (tl ≤ 1099511627776) = true := decide_eq_true c3
            have hRt : R = true := hR.2 ⟨HNM.out, ⟨c0, c1⟩, c2, c3⟩
            subst hRt
            clear no hR
            go_enter Try.func43, Try.ntmps43
            go_wp2_with fail
            refine (name_y HNM.out _).mono ?_
            rintro e w1 ⟨rfl, rfl⟩
            go_wp2
            go_ret
            exact ⟨rfl, A1⟩
          · have d3 : decide (tl ≤ 1099511627776) = false := decide_eq_false c3
            have hRf := no (fun h => c3 (by have := h.2.1.1; have := h.2.1.2; have := h.2.2.1; have := h.2.2.2; omega))
            subst hRf
            clear no hR
            go_enter Try.func43, Try.ntmps43
            go_wp2_with fail
            refine (name_y HNM.out _).mono ?_
            rintro e w1 ⟨rfl, rfl⟩
            go_wp2
            go_ret
            exact ⟨rfl, A1⟩
        · have d2 : decide ((0 : Int) ≤ tl) = false := decide_eq_false c2
          have hRf := no (fun h => c2 (by have := h.2.1.1; have := h.2.1.2; have := h.2.2.1; have := h.2.2.2; omega))
          subst hRf
          clear no hR
          go_enter Try.func43, Try.ntmps43
          go_wp2_with fail
          refine (name_y HNM.out _).mono ?_
          rintro e w1 ⟨rfl, rfl⟩
          go_wp2
          go_ret
          exact ⟨rfl, A1⟩
      · have d1 : decide (mx ≤ 16) = false := decide_eq_false c1
        have hRf := no (fun h => c1 (by have := h.2.1.1; have := h.2.1.2; have := h.2.2.1; have := h.2.2.2; omega))
        subst hRf
        clear no hR
        go_enter Try.func43, Try.ntmps43
        go_wp2_with fail
        refine (name_y HNM.out _).mono ?_
        rintro e w1 ⟨rfl, rfl⟩
        go_wp2
        go_ret
        exact ⟨rfl, A1⟩
    · have d0 : decide ((1 : Int) ≤ mx) = false := decide_eq_false c0
      have hRf := no (fun h => c0 (by have := h.2.1.1; have := h.2.1.2; have := h.2.2.1; have := h.2.2.2; omega))
      subst hRf
      clear no hR
      go_enter Try.func43, Try.ntmps43
      go_wp2_with fail
      refine (name_y HNM.out _).mono ?_
      rintro e w1 ⟨rfl, rfl⟩
      go_wp2
      go_ret
      exact ⟨rfl, A1⟩
  · have HNM : Hid (¬ NameOk nm) := hn
    have hRf := no (fun h => hn h.1)
    subst hRf
    clear no hR hn
    go_enter Try.func43, Try.ntmps43
    go_wp2_with fail
    refine (name_n HNM.out _).mono ?_
    rintro e w1 ⟨rfl, rfl⟩
    go_wp2
    go_ret
    exact ⟨rfl, A1⟩

open Classical in
theorem isFamily_y {f : FamD} (h : FamOk f) (w : World) : Calls Try.prog 43 #[.agg #[.string f.nm, .int .i64 f.mx, .int .i64 f.tl]] w fun e w' => e = .returned (.bool true) ∧ Below w.heap.size w w' := isFamily_is f w true ⟨fun _ => h, fun _ => rfl⟩
theorem isFamily_n {f : FamD} (h : ¬ FamOk f) (w : World) : Calls Try.prog 43 #[.agg #[.string f.nm, .int .i64 f.mx, .int .i64 f.tl]] w fun e w' => e = .returned (.bool false) ∧ Below w.heap.size w w' := isFamily_is f w false ⟨fun k => (by cases k), fun k => absurd k h⟩

def SchemaOk (fs : List FamD) : Prop := (1 ≤ fs.length ∧ fs.length ≤ 8) ∧ ∀ (i : Nat) f, fs[i]? = some f → FamOk f ∧ famIx fs f.nm 0 = (i : Int)
set_option maxRecDepth 100000 in
set_option maxHeartbeats 8000000 in
theorem checkSchema_is {v : Value} {fs : List FamD} {w : World} (hr : RdF w v fs) (C : Nat) (hC : (C = 0 ↔ SchemaOk fs) ∧ (C = 0 ∨ C = 28)) :
    Calls Try.prog 12 #[.agg #[v]] w fun e w' => e = .returned (.int .i64 (C : Int)) ∧ Below w.heap.size w w' := by
  have HRF : Hid (RdF w v fs) := hr
  obtain ⟨a, cap, rfl, h2, h3, h4, h5⟩ := hr
  obtain ⟨k, hk⟩ : ∃ k, k = fs.length := ⟨_, rfl⟩
  rw [← hk] at h2 h4 HRF ⊢
  have HK : Hid (k = fs.length) := hk
  have HC : Hid (fs = [] ∨ ∃ b off, a = some ⟨b, off, none⟩ ∧ ∀ i f, fs[i]? = some f → w.cell? ⟨b, off + i * 3, none⟩ = some (.string f.nm) ∧ w.cell? ⟨b, off + i * 3 + 1, none⟩ = some (.int .i64 f.mx) ∧ w.cell? ⟨b, off + i * 3 + 2, none⟩ = some (.int .i64 f.tl)) := h5
  have A1 := (Below.refl w.heap.size w).alloc (Nat.le_refl _) (.cells #[.slice a k cap] 24)
  have bad : ¬ SchemaOk fs → C = 28 := fun h => by
    rcases hC.2 with e | e
    · exact absurd (hC.1.1 e) h
    · exact e
  have HBAD := Lib.hid bad
  have HGOOD : Hid (SchemaOk fs → C = 0) := hC.1.2
  clear hk h5 hC bad
  by_cases hlen : 1 ≤ k ∧ k ≤ 8
  · have l1 : (1 : Int) ≤ (k : Int) := by omega
    have l2 : (k : Int) ≤ 8 := by omega
    have dl1 : decide ((k : Int) < 1) = false := decide_eq_false (by omega)
    have dl2 : decide ((8 : Int) < (k : Int)) = false := decide_eq_false (by omega)
    go_enter Try.func12, Try.ntmps12
    go_wp2
    go_loopw [3, 4, 18] (fun _ _ i wr => ∃ t : Nat, t ≤ k ∧ i = .int .i64 (t : Int) ∧ (Below w.heap.size w wr ∧ wr.cell? ⟨w.heap.size, 0, none⟩ = some (.slice a k cap)) ∧ ∀ (j : Nat) g, j < t → fs[j]? = some g → FamOk g ∧ famIx fs g.nm 0 = (j : Int)) (fun _ _ i _ => k - (intOf i).toNat)
    case atStart => exact ⟨0, by omega, rfl, ⟨A1, by simp⟩, fun j g hj _ => absurd hj (by omega)⟩
    case round =>
      obtain ⟨t, ht, rfl, ⟨B1, hbx⟩, hj⟩ := hrel
      have HJ : Hid (∀ (j : Nat) g, j < t → fs[j]? = some g → FamOk g ∧ famIx fs g.nm 0 = (j : Int)) := hj
      clear hj A1
      by_cases hlt : t < k
      · have j1 : (t : Int) < (k : Int) := by omega
        have j2 : (0 : Int) ≤ (t : Int) := by omega
        rcases HC.out with h0 | ⟨b, off, rfl, hc⟩
        · have := HK.out; rw [h0] at this; simp at this; omega
        obtain ⟨f, hf⟩ : ∃ f, fs[t]? = some f := ⟨fs[t]'(by rw [← HK.out]; exact hlt), List.getElem?_eq_getElem _⟩
        obtain ⟨c0, c1, c2⟩ := hc t f hf
        have d0 : wr.cell? ⟨b, off + t * 3, none⟩ = some (.string f.nm) := by rw [B1.cell (p := ⟨b, off + t * 3, none⟩) (World.block_lt_of_cell? w _ c0)]; exact c0
        have d1 : wr.cell? ⟨b, off + t * 3 + 1, none⟩ = some (.int .i64 f.mx) := by rw [B1.cell (p := ⟨b, off + t * 3 + 1, none⟩) (World.block_lt_of_cell? w _ c1)]; exact c1
        have d2 : wr.cell? ⟨b, off + t * 3 + 2, none⟩ = some (.int .i64 f.tl) := by rw [B1.cell (p := ⟨b, off + t * 3 + 2, none⟩) (World.block_lt_of_cell? w _ c2)]; exact c2
        have HF : Hid (fs[t]? = some f) := hf
        have HNO : Hid (¬ (FamOk f ∧ famIx fs f.nm 0 = (t : Int)) → C = 28) := fun h => HBAD.out (fun k => h (k.2 t f HF.out))
        have HST : Hid ((FamOk f ∧ famIx fs f.nm 0 = (t : Int)) → ∀ (j : Nat) g, j < t + 1 → fs[j]? = some g → FamOk g ∧ famIx fs g.nm 0 = (j : Int)) := fun h j g hj hg => by
          by_cases e : j = t
          · subst e
            rw [HF.out] at hg
            simp at hg
            rw [← hg]; exact h
          · exact HJ.out j g (by omega) hg
        have A2 := (Below.refl wr.heap.size wr).alloc (Nat.le_refl _) (.cells #[.string f.nm, .int .i64 f.mx, .int .i64 f.tl] 27)
        have B2 := B1.trans (A2.mono B1.size)
        have x0 : (wr.alloc (.cells #[.string f.nm, .int .i64 f.mx, .int .i64 f.tl] 27)).cell? ⟨w.heap.size, 0, none⟩ = some (.slice (some ⟨b, off, none⟩) k cap) := by rw [A2.cell (p := ⟨w.heap.size, 0, none⟩) (World.block_lt_of_cell? wr _ hbx)]; exact hbx
        have fx := heap_new wr (.cells #[.string f.nm, .int .i64 f.mx, .int .i64 f.tl] 27)
        have HFX : Hid ((wr.alloc (.cells #[.string f.nm, .int .i64 f.mx, .int .i64 f.tl] 27)).heap[wr.heap.size]? = some (.cells #[.string f.nm, .int .i64 f.mx, .int .i64 f.tl] 27) ∧ Below w.heap.size w (wr.alloc (.cells #[.string f.nm, .int .i64 f.mx, .int .i64 f.tl] 27)) ∧ (wr.alloc (.cells #[.string f.nm, .int .i64 f.mx, .int .i64 f.tl] 27)).cell? ⟨w.heap.size, 0, none⟩ = some (.slice (some ⟨b, off, none⟩) k cap)) := ⟨fx, B2, x0⟩
        clear hc c0 c1 c2 hf fx A2 B2 x0
        by_cases hfo : FamOk f
        · have HFO : Hid (FamOk f) := hfo
          clear hfo
          go_wp2_with fail
          refine (isFamily_y HFO.out _).mono ?_
          rintro e w2 ⟨rfl, hb2⟩
          have B2 := HFX.out.2.1.trans (hb2.mono HFX.out.2.1.size)
          have y0 : w2.cell? ⟨w.heap.size, 0, none⟩ = some (.slice (some ⟨b, off, none⟩) k cap) := by rw [hb2.cell (p := ⟨w.heap.size, 0, none⟩) (World.block_lt_of_cell? _ _ HFX.out.2.2)]; exact HFX.out.2.2
          have yh : w2.heap[wr.heap.size]? = some (.cells #[.string f.nm, .int .i64 f.mx, .int .i64 f.tl] 27) := by rw [hb2.block wr.heap.size (Array.getElem?_eq_some_iff.1 HFX.out.1).1]; exact HFX.out.1
          have y1 : w2.cell? ⟨wr.heap.size, 0, none⟩ = some (.string f.nm) := by simp [World.cell?, yh]
          clear hb2 yh
          go_wp2_with fail
          refine (family_any (HRF.out.later B2) f.nm).mono ?_
          rintro e w3 ⟨rfl, hb3⟩
          have B3 := B2.trans (hb3.mono B2.size)
          have y3 : w3.cell? ⟨w.heap.size, 0, none⟩ = some (.slice (some ⟨b, off, none⟩) k cap) := by rw [hb3.cell (p := ⟨w.heap.size, 0, none⟩) (World.block_lt_of_cell? _ _ y0)]; exact y0
          obtain ⟨ix, hix⟩ : ∃ ix, ix = famIx fs f.nm 0 := ⟨_, rfl⟩
          rw [← hix]
          by_cases hi : ix = (t : Int)
          · have HIX : Hid (famIx fs f.nm 0 = (t : Int)) := by unfold Hid; rw [← hix]; exact hi
            clear hix
            subst hi
            go_wp2
            go_roundw
            case rel => exact ⟨t + 1, by omega, by go_num, ⟨B3, y3⟩, HST.out ⟨HFO.out, HIX.out⟩⟩
            case measure => simp [intOf]; omega
          · have HIX : Hid (¬ (famIx fs f.nm 0 = (t : Int))) := by unfold Hid; rw [← hix]; exact hi
            clear hix
            have h28 := HNO.out (fun h => HIX.out h.2)
            subst h28
            go_wp2
            go_ret
            exact ⟨rfl, B3⟩
        · have HFO : Hid (¬ FamOk f) := hfo
          clear hfo
          go_wp2_with fail
          refine (isFamily_n HFO.out _).mono ?_
          rintro e w2 ⟨rfl, hb2⟩
          have B2 := HFX.out.2.1.trans (hb2.mono HFX.out.2.1.size)
          have h28 := HNO.out (fun h => HFO.out h.1)
          subst h28
          go_wp2
          go_ret
          exact ⟨rfl, B2⟩
      · have j1 : (k : Int) ≤ (t : Int) := by omega
        have h0 := HGOOD.out ⟨by rw [← HK.out]; exact hlen, fun i f hf => HJ.out i f (by have := (List.getElem?_eq_some_iff.1 hf).1; have := HK.out; omega) hf⟩
        subst h0
        go_wp2
        go_ret
        exact ⟨rfl, B1⟩
  · have h28 := HBAD.out (fun h => hlen (by rw [HK.out]; exact h.1))
    subst h28
    by_cases h1 : k < 1
    · have dl1 : decide ((k : Int) < 1) = true := decide_eq_true (by omega)
      have l1 : (k : Int) < 1 := by omega
      clear hlen
      go_enter Try.func12, Try.ntmps12
      go_wp2
      go_ret
      exact ⟨rfl, A1⟩
    · have dl1 : decide ((k : Int) < 1) = false := decide_eq_false (by omega)
      have dl2 : decide ((8 : Int) < (k : Int)) = true := decide_eq_true (by omega)
      have l1 : (1 : Int) ≤ (k : Int) := by omega
      have l2 : (8 : Int) < (k : Int) := by omega
      clear hlen
      go_enter Try.func12, Try.ntmps12
      go_wp2
      go_ret
      exact ⟨rfl, A1⟩

set_option maxRecDepth 100000 in
set_option maxHeartbeats 8000000 in
theorem refCheckSchema_is {v : Value} {fs : List FamD} {w : World} (hr : RdF w v fs) (C : Nat) (hC : (C = 0 ↔ SchemaOk fs) ∧ (C = 0 ∨ C = 28)) :
    Calls Try.prog 14 #[.agg #[v]] w fun e w' => e = .returned (.int .i64 (C : Int)) ∧ Below w.heap.size w w' := by
  have HRF : Hid (RdF w v fs) := hr
  obtain ⟨a, cap, rfl, h2, h3, h4, h5⟩ := hr
  obtain ⟨k, hk⟩ : ∃ k, k = fs.length := ⟨_, rfl⟩
  rw [← hk] at h2 h4 HRF ⊢
  have HK : Hid (k = fs.length) := hk
  have HC : Hid (fs = [] ∨ ∃ b off, a = some ⟨b, off, none⟩ ∧ ∀ i f, fs[i]? = some f → w.cell? ⟨b, off + i * 3, none⟩ = some (.string f.nm) ∧ w.cell? ⟨b, off + i * 3 + 1, none⟩ = some (.int .i64 f.mx) ∧ w.cell? ⟨b, off + i * 3 + 2, none⟩ = some (.int .i64 f.tl)) := h5
  have A1 := (Below.refl w.heap.size w).alloc (Nat.le_refl _) (.cells #[.slice a k cap] 24)
  have bad : ¬ SchemaOk fs → C = 28 := fun h => by
    rcases hC.2 with e | e
    · exact absurd (hC.1.1 e) h
    · exact e
  have HBAD := Lib.hid bad
  have HGOOD : Hid (SchemaOk fs → C = 0) := hC.1.2
  clear hk h5 hC bad
  by_cases hlen : 1 ≤ k ∧ k ≤ 8
  · have l1 : (1 : Int) ≤ (k : Int) := by omega
    have l2 : (k : Int) ≤ 8 := by omega
    have dl1 : decide ((k : Int) < 1) = false := decide_eq_false (by omega)
    have dl2 : decide ((8 : Int) < (k : Int)) = false := decide_eq_false (by omega)
    go_enter Try.func14, Try.ntmps14
    go_wp2_with fail
    refine (refOut_in _ _ _ _ l1 l2).mono ?_
    rintro e w0 ⟨rfl, rfl⟩
    go_wp2
    go_loopw [3, 4] (fun i _ wr => ∃ t : Nat, t ≤ k ∧ i = .int .i64 (t : Int) ∧ (Below w.heap.size w wr ∧ wr.cell? ⟨w.heap.size, 0, none⟩ = some (.slice a k cap)) ∧ ∀ (j : Nat) g, j < t → fs[j]? = some g → FamOk g ∧ famIx fs g.nm 0 = (j : Int)) (fun i _ _ => k - (intOf i).toNat)
    case atStart => exact ⟨0, by omega, rfl, ⟨A1, by simp⟩, fun j g hj _ => absurd hj (by omega)⟩
    case round =>
      obtain ⟨t, ht, rfl, ⟨B1, hbx⟩, hj⟩ := hrel
      have HJ : Hid (∀ (j : Nat) g, j < t → fs[j]? = some g → FamOk g ∧ famIx fs g.nm 0 = (j : Int)) := hj
      clear hj A1
      by_cases hlt : t < k
      · have j1 : (t : Int) < (k : Int) := by omega
        have j2 : (0 : Int) ≤ (t : Int) := by omega
        rcases HC.out with h0 | ⟨b, off, rfl, hc⟩
        · have := HK.out; rw [h0] at this; simp at this; omega
        obtain ⟨f, hf⟩ : ∃ f, fs[t]? = some f := ⟨fs[t]'(by rw [← HK.out]; exact hlt), List.getElem?_eq_getElem _⟩
        obtain ⟨c0, c1, c2⟩ := hc t f hf
        have d0 : wr.cell? ⟨b, off + t * 3, none⟩ = some (.string f.nm) := by rw [B1.cell (p := ⟨b, off + t * 3, none⟩) (World.block_lt_of_cell? w _ c0)]; exact c0
        have d1 : wr.cell? ⟨b, off + t * 3 + 1, none⟩ = some (.int .i64 f.mx) := by rw [B1.cell (p := ⟨b, off + t * 3 + 1, none⟩) (World.block_lt_of_cell? w _ c1)]; exact c1
        have d2 : wr.cell? ⟨b, off + t * 3 + 2, none⟩ = some (.int .i64 f.tl) := by rw [B1.cell (p := ⟨b, off + t * 3 + 2, none⟩) (World.block_lt_of_cell? w _ c2)]; exact c2
        have HF : Hid (fs[t]? = some f) := hf
        have HNO : Hid (¬ (FamOk f ∧ famIx fs f.nm 0 = (t : Int)) → C = 28) := fun h => HBAD.out (fun k => h (k.2 t f HF.out))
        have HST : Hid ((FamOk f ∧ famIx fs f.nm 0 = (t : Int)) → ∀ (j : Nat) g, j < t + 1 → fs[j]? = some g → FamOk g ∧ famIx fs g.nm 0 = (j : Int)) := fun h j g hj hg => by
          by_cases e : j = t
          · subst e
            rw [HF.out] at hg
            simp at hg
            rw [← hg]; exact h
          · exact HJ.out j g (by omega) hg
        have A2 := (Below.refl wr.heap.size wr).alloc (Nat.le_refl _) (.cells #[.string f.nm, .int .i64 f.mx, .int .i64 f.tl] 27)
        have B2 := B1.trans (A2.mono B1.size)
        have x0 : (wr.alloc (.cells #[.string f.nm, .int .i64 f.mx, .int .i64 f.tl] 27)).cell? ⟨w.heap.size, 0, none⟩ = some (.slice (some ⟨b, off, none⟩) k cap) := by rw [A2.cell (p := ⟨w.heap.size, 0, none⟩) (World.block_lt_of_cell? wr _ hbx)]; exact hbx
        have fx := heap_new wr (.cells #[.string f.nm, .int .i64 f.mx, .int .i64 f.tl] 27)
        have HFX : Hid ((wr.alloc (.cells #[.string f.nm, .int .i64 f.mx, .int .i64 f.tl] 27)).heap[wr.heap.size]? = some (.cells #[.string f.nm, .int .i64 f.mx, .int .i64 f.tl] 27) ∧ Below w.heap.size w (wr.alloc (.cells #[.string f.nm, .int .i64 f.mx, .int .i64 f.tl] 27)) ∧ (wr.alloc (.cells #[.string f.nm, .int .i64 f.mx, .int .i64 f.tl] 27)).cell? ⟨w.heap.size, 0, none⟩ = some (.slice (some ⟨b, off, none⟩) k cap)) := ⟨fx, B2, x0⟩
        clear hc c0 c1 c2 hf fx A2 B2 x0
        by_cases hn : NameOk f.nm
        · have HN : Hid (NameOk f.nm) := hn
          clear hn
          go_wp2_with fail
          refine (rname_y HN.out _).mono ?_
          rintro e w2 ⟨rfl, rfl⟩
          by_cases m1 : 1 ≤ f.mx ∧ f.mx ≤ 16
          · go_wp2_with fail
            refine (refOut_in _ _ _ _ m1.1 m1.2).mono ?_
            rintro e w2 ⟨rfl, rfl⟩
            by_cases m2 : 0 ≤ f.tl ∧ f.tl ≤ 1099511627776
            · go_wp2_with fail
              refine (refOut_in _ _ _ _ m2.1 m2.2).mono ?_
              rintro e w2 ⟨rfl, rfl⟩
              have HFO : Hid (FamOk f) := ⟨HN.out, m1, m2⟩
              have x0 := HFX.out.2.2
              go_wp2_with fail
              refine (refFamily_any (HRF.out.later HFX.out.2.1) f.nm).mono ?_
              rintro e w3 ⟨rfl, hb3⟩
              have B3 := HFX.out.2.1.trans (hb3.mono HFX.out.2.1.size)
              have y3 : w3.cell? ⟨w.heap.size, 0, none⟩ = some (.slice (some ⟨b, off, none⟩) k cap) := by rw [hb3.cell (p := ⟨w.heap.size, 0, none⟩) (World.block_lt_of_cell? _ _ HFX.out.2.2)]; exact HFX.out.2.2
              obtain ⟨ix, hix⟩ : ∃ ix, ix = famIx fs f.nm 0 := ⟨_, rfl⟩
              rw [← hix]
              by_cases hi : ix = (t : Int)
              · have HIX : Hid (famIx fs f.nm 0 = (t : Int)) := by unfold Hid; rw [← hix]; exact hi
                clear hix
                subst hi
                go_wp2
                go_roundw
                case rel => exact ⟨t + 1, by omega, by go_num, ⟨B3, y3⟩, HST.out ⟨HFO.out, HIX.out⟩⟩
                case measure => simp [intOf]; omega
              · have HIX : Hid (¬ (famIx fs f.nm 0 = (t : Int))) := by unfold Hid; rw [← hix]; exact hi
                clear hix
                have h28 := HNO.out (fun h => HIX.out h.2)
                subst h28
                go_wp2
                go_ret
                exact ⟨rfl, B3⟩
            · have HM : Hid (f.tl < 0 ∨ 1099511627776 < f.tl) := by unfold Hid; omega
              have HM2 : Hid (¬ (0 ≤ f.tl ∧ f.tl ≤ 1099511627776)) := m2
              clear m2
              go_wp2_with fail
              refine (refOut_out _ _ _ _ HM.out).mono ?_
              rintro e w2 ⟨rfl, rfl⟩
              have h28 := HNO.out (fun h => HM2.out h.1.2.2)
              subst h28
              go_wp2
              go_ret
              exact ⟨rfl, HFX.out.2.1⟩
          · have HM : Hid (f.mx < 1 ∨ 16 < f.mx) := by unfold Hid; omega
            have HM2 : Hid (¬ (1 ≤ f.mx ∧ f.mx ≤ 16)) := m1
            clear m1
            go_wp2_with fail
            refine (refOut_out _ _ _ _ HM.out).mono ?_
            rintro e w2 ⟨rfl, rfl⟩
            have h28 := HNO.out (fun h => HM2.out h.1.2.1)
            subst h28
            go_wp2
            go_ret
            exact ⟨rfl, HFX.out.2.1⟩
        · have HN : Hid (¬ NameOk f.nm) := hn
          clear hn
          go_wp2_with fail
          refine (rname_n HN.out _).mono ?_
          rintro e w2 ⟨rfl, rfl⟩
          have h28 := HNO.out (fun h => HN.out h.1.1)
          subst h28
          go_wp2
          go_ret
          exact ⟨rfl, HFX.out.2.1⟩
      · have j1 : (k : Int) ≤ (t : Int) := by omega
        have h0 := HGOOD.out ⟨by rw [← HK.out]; exact hlen, fun i f hf => HJ.out i f (by have := (List.getElem?_eq_some_iff.1 hf).1; have := HK.out; omega) hf⟩
        subst h0
        go_wp2
        go_ret
        exact ⟨rfl, B1⟩
  · have h28 := HBAD.out (fun h => hlen (by rw [HK.out]; exact h.1))
    subst h28
    have HI : Hid ((k : Int) < 1 ∨ (8 : Int) < (k : Int)) := by unfold Hid; omega
    clear hlen
    go_enter Try.func14, Try.ntmps14
    go_wp2_with fail
    refine (refOut_out _ _ _ _ HI.out).mono ?_
    rintro e w0 ⟨rfl, rfl⟩
    go_wp2
    go_ret
    exact ⟨rfl, A1⟩

end Go.Proofs.Ytiiencopchpajaa
