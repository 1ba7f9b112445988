import Derived.Test.YtncbiohmogmcpaaDoorOpen
namespace Go.Proofs.YtncbiohmogmcpaaDoor
open Go.ChangeShapes Go.WideShapes Go.ChangeAt Go.RowKit
set_option linter.unusedVariables false

theorem rdp_nil0 (w : World) : RdP w (.slice none 0 0) [] := ⟨by simp, none, 0, rfl, .inl rfl⟩
/-- A slice of slices of bytes that came in. -/
theorem open_parts {H : Type} {enc : TypeId × Value → H} {W : World} {v : Value} {d : DataW H} {p : List MemPlace} {base : Nat} {held : Bool} (h : DataW.Trod enc Tryd.prog W base (fun _ => true) held 32 v d p) (hs : ∃ a n c, v = .slice a n c) (hk : Rows.uptoBulk d ≤ 1048576) :
    ∃ ps : List (List Nat), RdP W v ps ∧ ps.length + ps.flatten.length + 1 ≤ Rows.uptoBulk d := by
  obtain ⟨a, n, c, rfl⟩ := hs
  obtain ⟨fuel, hf⟩ := h
  rcases Deep.open_slice1 und_parts cells_bytes hf with ⟨hcs, hx⟩ | ⟨x, l, c', m, k, V, D, Pl, hcs, _, hl, hm, hmm, hx, hel⟩
  · simp [Value.cells] at hcs
    obtain ⟨rfl, rfl, rfl⟩ := hcs
    refine ⟨[], rdp_nil0 W, ?_⟩
    have := bulk_pos d
    simpa using this
  · simp [Value.cells] at hcs
    obtain ⟨rfl, rfl, rfl⟩ := hcs
    simp only [if_true] at hmm
    simp only [Prod.mk.injEq] at hx
    obtain ⟨rfl, _⟩ := hx
    have sum_le : ∀ j, j ≤ n → ∃ ps : List (List Nat), ps.length = j ∧ (∀ i, i < j → Rd W (V i) (ps.getD i [])) ∧ ps.length + ps.flatten.length ≤ Rows.uptoBulkAll ((List.range j).map D) := by
      intro j
      induction j with
      | zero => intro _; exact ⟨[], rfl, fun i hi => by omega, by simp⟩
      | succ j ih =>
        intro hj
        obtain ⟨ps, hpl, hrd, hb⟩ := ih (by omega)
        obtain ⟨hcell, htr⟩ := hel j (by omega)
        have hsl : ∃ a n c, V j = .slice a n c := by
          rcases DataW.trod_slice und_bytes htr with ⟨h0, _⟩ | ⟨a, len, cap, _, _, _, _, h0, _⟩
          · simp at h0; exact ⟨_, _, _, h0⟩
          · simp at h0; exact ⟨_, _, _, h0⟩
        have htr2 : DataW.Trod enc Tryd.prog W base (fun _ => true) held 27 (V j) (D j) (Pl j) := by
          obtain ⟨a, n, c, hv⟩ := hsl
          refine ⟨k, ?_⟩
          rw [hv] at htr ⊢
          simpa [Value.cells] using htr
        obtain ⟨bs, hbs, hbl, _⟩ := open_bytes htr2 hsl
        have happ : Rows.uptoBulkAll ((List.range (j + 1)).map D) = Rows.uptoBulkAll ((List.range j).map D) + Rows.uptoBulk (D j) := by
          rw [List.range_succ, List.map_append]
          have app : ∀ (l r : List (DataW H)), Rows.uptoBulkAll (l ++ r) = Rows.uptoBulkAll l + Rows.uptoBulkAll r := by
            intro l r
            induction l with
            | nil => simp [Rows.uptoBulkAll]
            | cons x l ih => simp only [List.cons_append, Rows.uptoBulkAll, ih]; omega
          rw [app]
          simp [Rows.uptoBulkAll]
        have htot : Rows.uptoBulkAll ((List.range n).map D) ≤ 1048576 := by
          simp only [Rows.uptoBulk] at hk
          omega
        have hmono : ∀ i, i ≤ n → Rows.uptoBulkAll ((List.range i).map D) ≤ Rows.uptoBulkAll ((List.range n).map D) := by
          intro i hi
          have : List.range n = List.range i ++ (List.range (n - i)).map (fun q => i + q) := by
            rw [show n = i + (n - i) by omega, List.range_add]
            simp
          rw [this, List.map_append]
          have app : ∀ (l r : List (DataW H)), Rows.uptoBulkAll (l ++ r) = Rows.uptoBulkAll l + Rows.uptoBulkAll r := by
            intro l r
            induction l with
            | nil => simp [Rows.uptoBulkAll]
            | cons x l ih => simp only [List.cons_append, Rows.uptoBulkAll, ih]; omega
          rw [app]
          omega
        have h1 := hmono (j + 1) hj
        refine ⟨ps ++ [bs], by simp [hpl], ?_, ?_⟩
        · intro i hi
          by_cases hij : i < j
          · have := hrd i hij
            have e : (ps ++ [bs]).getD i [] = ps.getD i [] := by simp [List.getD, List.getElem?_append_left (show i < ps.length by omega)]
            rw [e]
            exact this
          · have hij2 : i = j := by omega
            subst hij2
            have e : (ps ++ [bs]).getD i [] = bs := by simp [List.getD, hpl]
            rw [e]
            exact hbs (by omega)
        · rw [happ]
          simp only [List.length_append, List.length_cons, List.length_nil, List.flatten_append, List.flatten_cons, List.flatten_nil, List.append_nil]
          omega
    obtain ⟨ps, hpl, hrd, hb⟩ := sum_le n (Nat.le_refl _)
    have htot : Rows.uptoBulkAll ((List.range n).map D) ≤ 1048576 := by
      simp only [Rows.uptoBulk] at hk
      omega
    refine ⟨ps, ⟨by omega, some x, c, by rw [hpl], ?_⟩, ?_⟩
    · by_cases hn0 : n = 0
      · left; exact List.eq_nil_of_length_eq_zero (by omega)
      · right
        obtain ⟨b, off, spot⟩ := x
        have hc := (hel 0 (by omega)).1
        have hspot : spot = none := by simpa [Addr.add] using World.cell?_spot hc
        subst hspot
        refine ⟨b, off, rfl, fun i hi => ⟨V i, ?_, hrd i (by omega)⟩⟩
        have hc := (hel i (by omega)).1
        have e : (⟨b, off, none⟩ : Addr).add i = ⟨b, off + i, none⟩ := by unfold Addr.add; split <;> simp_all
        rw [e] at hc
        exact hc
    · simp only [Rows.uptoBulk]
      omega

end Go.Proofs.YtncbiohmogmcpaaDoor
