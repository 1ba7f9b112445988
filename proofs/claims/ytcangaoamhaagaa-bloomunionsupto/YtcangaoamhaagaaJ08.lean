import Derived.Test.YtcangaoamhaagaaJ07
import Derived.Test.YtcangaoamhaagaaChecked
namespace Go.Proofs.Ytcangaoamhaagaa
open Go.ChangeShapes Go.WideShapes Go.ChangeAt Go.RowKit
set_option linter.unusedVariables false

theorem rdp_nil0 (w : World) : RdP w (.slice none 0 0) [] := ⟨by simp, none, 0, rfl, .inl rfl⟩
/-- A slice of slices of bytes that came in. -/
theorem open_parts {H : Type} {enc : TypeId × Value → H} {W : World} {v : Value} {d : DataW H} {p : List MemPlace} {base : Nat} {held : Bool} (h : DataW.Trod enc Try.prog W base (fun _ => true) held 22 v d p) (hs : ∃ a n c, v = .slice a n c) (hk : Rows.uptoBulk d ≤ 1048576) :
    ∃ ps : List (List Nat), RdP W v ps ∧ ps.length + ps.flatten.length + 1 ≤ Rows.uptoBulk d := by
  obtain ⟨a, n, c, rfl⟩ := hs
  obtain ⟨fuel, hf⟩ := h
  rcases Deep.open_slice1 und_parts cells_bytes hf with ⟨hcs, hx⟩ | ⟨x, l, c', m, k, V, D, Pl, hcs, _, hl, hm, hmm, hx, hel⟩
  · simp [Value.cells] at hcs
    obtain ⟨rfl, rfl, rfl⟩ := hcs
    refine ⟨[], rdp_nil0 W, ?_⟩
    have := bulk_pos d
    simpa using this
  · simp [Value.cells] at hcs
    obtain ⟨rfl, rfl, rfl⟩ := hcs
    simp only [if_true] at hmm
    simp only [Prod.mk.injEq] at hx
    obtain ⟨rfl, _⟩ := hx
    have sum_le : ∀ j, j ≤ n → ∃ ps : List (List Nat), ps.length = j ∧ (∀ i, i < j → Rd W (V i) (ps.getD i [])) ∧ ps.length + ps.flatten.length ≤ Rows.uptoBulkAll ((List.range j).map D) := by
      intro j
      induction j with
      | zero => intro _; exact ⟨[], rfl, fun i hi => by omega, by simp⟩
      | succ j ih =>
        intro hj
        obtain ⟨ps, hpl, hrd, hb⟩ := ih (by omega)
        obtain ⟨hcell, htr⟩ := hel j (by omega)
        have hsl : ∃ a n c, V j = .slice a n c := by
          rcases DataW.trod_slice und_bytes htr with ⟨h0, _⟩ | ⟨a, len, cap, _, _, _, _, h0, _⟩
          · simp at h0; exact ⟨_, _, _, h0⟩
          · simp at h0; exact ⟨_, _, _, h0⟩
        have htr2 : DataW.Trod enc Try.prog W base (fun _ => true) held 24 (V j) (D j) (Pl j) := by
          obtain ⟨a, n, c, hv⟩ := hsl
          refine ⟨k, ?_⟩
          rw [hv] at htr ⊢
          simpa [Value.cells] using htr
        obtain ⟨bs, hbs, hbl, _⟩ := open_bytes htr2 hsl
        have happ : Rows.uptoBulkAll ((List.range (j + 1)).map D) = Rows.uptoBulkAll ((List.range j).map D) + Rows.uptoBulk (D j) := by
          rw [List.range_succ, List.map_append]
          have app : ∀ (l r : List (DataW H)), Rows.uptoBulkAll (l ++ r) = Rows.uptoBulkAll l + Rows.uptoBulkAll r := by
            intro l r
            induction l with
            | nil => simp [Rows.uptoBulkAll]
            | cons x l ih => simp only [List.cons_append, Rows.uptoBulkAll, ih]; omega
          rw [app]
          simp [Rows.uptoBulkAll]
        have htot : Rows.uptoBulkAll ((List.range n).map D) ≤ 1048576 := by
          simp only [Rows.uptoBulk] at hk
          omega
        have hmono : ∀ i, i ≤ n → Rows.uptoBulkAll ((List.range i).map D) ≤ Rows.uptoBulkAll ((List.range n).map D) := by
          intro i hi
          have : List.range n = List.range i ++ (List.range (n - i)).map (fun q => i + q) := by
            rw [show n = i + (n - i) by omega, List.range_add]
            simp
          rw [this, List.map_append]
          have app : ∀ (l r : List (DataW H)), Rows.uptoBulkAll (l ++ r) = Rows.uptoBulkAll l + Rows.uptoBulkAll r := by
            intro l r
            induction l with
            | nil => simp [Rows.uptoBulkAll]
            | cons x l ih => simp only [List.cons_append, Rows.uptoBulkAll, ih]; omega
          rw [app]
          omega
        have h1 := hmono (j + 1) hj
        refine ⟨ps ++ [bs], by simp [hpl], ?_, ?_⟩
        · intro i hi
          by_cases hij : i < j
          · have := hrd i hij
            have e : (ps ++ [bs]).getD i [] = ps.getD i [] := by simp [List.getD, List.getElem?_append_left (show i < ps.length by omega)]
            rw [e]
            exact this
          · have hij2 : i = j := by omega
            subst hij2
            have e : (ps ++ [bs]).getD i [] = bs := by simp [List.getD, hpl]
            rw [e]
            exact hbs (by omega)
        · rw [happ]
          simp only [List.length_append, List.length_cons, List.length_nil, List.flatten_append, List.flatten_cons, List.flatten_nil, List.append_nil]
          omega
    obtain ⟨ps, hpl, hrd, hb⟩ := sum_le n (Nat.le_refl _)
    have htot : Rows.uptoBulkAll ((List.range n).map D) ≤ 1048576 := by
      simp only [Rows.uptoBulk] at hk
      omega
    refine ⟨ps, ⟨by omega, some x, c, by rw [hpl], ?_⟩, ?_⟩
    · by_cases hn0 : n = 0
      · left; exact List.eq_nil_of_length_eq_zero (by omega)
      · right
        obtain ⟨b, off, spot⟩ := x
        have hc := (hel 0 (by omega)).1
        have hspot : spot = none := by simpa [Addr.add] using World.cell?_spot hc
        subst hspot
        refine ⟨b, off, rfl, fun i hi => ⟨V i, ?_, hrd i (by omega)⟩⟩
        have hc := (hel i (by omega)).1
        have e : (⟨b, off, none⟩ : Addr).add i = ⟨b, off + i, none⟩ := by unfold Addr.add; split <;> simp_all
        rw [e] at hc
        exact hc
    · simp only [Rows.uptoBulk]
      omega

end Go.Proofs.Ytcangaoamhaagaa

namespace Go.Proofs.Ytcangaoamhaagaa.bloomUnionsUptoRow
open Go.ChangeShapes Go.WideShapes Go.ChangeAt Go.RowKit
set_option linter.unusedVariables false

set_option maxRecDepth 100000 in
theorem contract (H : Type) (enc : TypeId × Value → H) (W : World) (base : Nat) (args : Array Value) (ds gs : List (DataW H)) (before : List MemPlace)
    (hval0 : ∀ (j : Nat) t v, Try.f5.params[j]? = some t → args[j]? = some v → Value.okWide Try.prog W .any base t v)
    (hW : DataW.Whole enc Try.prog Try.f5.params.toList Rows.bloomUnionsSpec.vars false W args.toList ds gs before) (hk : Rows.uptoSmall H (ds ++ gs) = true) :
    Calls Try.prog 5 args W fun e W' => ∃ v, e = .returned v ∧ Rows.bloomUnionsSpec.post enc Try.prog Try.f5 false true false false W args v W' := by
  have hW' := hW
  obtain ⟨p, q, hA0, hV, rfl, hfz, hnd⟩ := hW
  have hA : DataW.TrodAll enc Try.prog W 0 (fun _ => true) true Try.f5.params.toList args.toList ds p := hA0
  have hval := hval0
  rw [Try.params5] at hA hval
  obtain ⟨v0, vs0, d0, ds0, p0, q0, hargs, rfl, rfl, h0, r0⟩ := trodAll_cons hA
  obtain ⟨v1, vs1, d1, ds1, p1, q1, rfl, rfl, rfl, h1, r1⟩ := trodAll_cons r0
  obtain ⟨v2, vs2, d2, ds2, p2, q2, rfl, rfl, rfl, h2, r2⟩ := trodAll_cons r1
  obtain ⟨rfl, rfl, rfl⟩ := trodAll_nil r2
  obtain rfl : args = #[v0, v1, v2] := by cases args; simp_all
  obtain ⟨rfl, rfl⟩ := trodVars_none hV
  have hbulk : Rows.uptoBulkAll ([d0, d1, d2] ++ []) ≤ 1048576 := of_decide_eq_true hk
  simp only [List.append_nil, Rows.uptoBulkAll] at hbulk
  obtain ⟨x0, rfl, rfl, rfl, wf0⟩ := open_int und_int (hval 0 3 v0 rfl rfl) h0
  have s1 := okWide_slice und_parts (hval 1 22 v1 rfl rfl)
  have k1 := h1
  have lt1 : ∀ x ∈ p1, x.block < W.heap.size := by obtain ⟨m, hm⟩ := k1; exact DataW.trod_lt m _ _ _ hm
  obtain ⟨x1, rd1, bk1⟩ := open_parts h1 s1 (by omega)
  have s2 := okWide_slice und_parts (hval 2 22 v2 rfl rfl)
  have k2 := h2
  have lt2 : ∀ x ∈ p2, x.block < W.heap.size := by obtain ⟨m, hm⟩ := k2; exact DataW.trod_lt m _ _ _ hm
  obtain ⟨x2, rd2, bk2⟩ := open_parts h2 s2 (by omega)
  clear hA0 hval0
  refine (unions_walk x0 rd1 rd2 (parts_cap k1) (parts_cap k2) (by omega) (by omega)).mono fun e W' ⟨he, bel⟩ => ?_
  subst he
  exact ⟨_, rfl, _, _, _, [], _, [], hW', trodAll_mk1 (shut_bool und_bool _), (trodAll_cons_mk (shut_int und_int wf0) (trodAll_cons_mk (Below.trod laid_out (by kernel_rfl) (of_decide_eq_true (by kernel_rfl)) k1 bel lt1) (trodAll_cons_mk (Below.trod laid_out (by kernel_rfl) (of_decide_eq_true (by kernel_rfl)) k2 bel lt2) trodAll_mk0))), rfl, bel.frame _, fun h => by cases h⟩

theorem laid_met (os : Os) : laidMet Try.prog Rows.bloomUnionsUptoRow.laid ((World.holding Try.prog os ⟨#[], #[], []⟩ : World).forCall (fun _ _ => 0) ⟨#[], #[.int .i64 0, .slice none 0 0, .slice none 0 0], []⟩).memory :=
  laidMet_of_run' 8 (by kernel_rfl) (by kernel_rfl)
theorem reads (os : Os) {H : Type} (enc : TypeId × Value → H) : ∃ places, DataW.whole enc Try.prog ((World.holding Try.prog os ⟨#[], #[], []⟩ : World).forCall (fun _ _ => 0) ⟨#[], #[.int .i64 0, .slice none 0 0, .slice none 0 0], []⟩).memory Try.f5.params.toList Rows.bloomUnionsSpec.vars false (#[.int .i64 0, .slice none 0 0, .slice none 0 0] : Array Value).toList 8 = some ([.lit (.int .i64 0), .nil, .nil], [], places) :=
  ⟨[], by kernel_rfl⟩

set_option maxRecDepth 100000 in
theorem lifted (os : Os) (started : os.Started) (H : Type) (enc : TypeId × Value → H) (F : Stop.Interp) :
    ReturnsInHanded {} Try.checked os 5 .any ((Rows.OpenSpec.upto Rows.bloomUnionsSpec).preRow enc Try.prog Try.f5 Rows.bloomUnionsUptoRow.domain false Rows.bloomUnionsUptoRow.laid) (((Rows.OpenSpec.upto Rows.bloomUnionsSpec).at F).post enc Try.prog Try.f5 false true false false) := by
  obtain ⟨places, hx⟩ := reads os enc
  refine returnsInHanded_of_row (C := Try.checked) (s := Rows.OpenSpec.upto Rows.bloomUnionsSpec) own_knob started (by kernel_rfl) Try.func5
    (witness_row_at (enc := enc) (C := Try.checked) false (World.holding Try.prog os ⟨#[], #[], []⟩) #[.int .i64 0, .slice none 0 0, .slice none 0 0] rfl (by kernel_rfl) (by kernel_rfl) (by kernel_rfl)
      (OpenSpec.preRow_of_cond 8 hx (by kernel_rfl) (fun k hk => by cases hk; kernel_rfl) (by kernel_rfl) (laid_met os))) ?_
  intro W base args ds gs before hval hW _ hcond hsz hL _ _
  exact contract H enc W base args ds gs before hval hW (hcond _ rfl)

end Go.Proofs.Ytcangaoamhaagaa.bloomUnionsUptoRow
namespace Go.Proofs.Ytcangaoamhaagaa
open Go.ChangeShapes Go.WideShapes Go.ChangeAt Go.RowKit

theorem bloomUnionsUpto_holds : Rows.BloomUnionsUptoSaid :=
  OpenClaim.holds_of_cond 5 Try.f5 rfl rfl rfl rfl rfl rfl rfl ⟨rfl, rfl, rfl, rfl, rfl⟩ rfl rfl rfl rfl rfl (by kernel_rfl) Try.func5 (by kernel_rfl)
    (of_decide_eq_true (by kernel_rfl)) (by unfold Func.isWrapper; first | (rw [if_pos (by decide +kernel)]; kernel_rfl) | (rw [if_neg (by decide +kernel)]; exact ⟨rfl, rfl⟩))
    (fun os started H enc _ F => by rw [OpenClaim.pre_eq_preRow]; exact bloomUnionsUptoRow.lifted os started H enc F)
#print axioms bloomUnionsUpto_holds
end Go.Proofs.Ytcangaoamhaagaa
