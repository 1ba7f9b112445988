import Derived.Test.YtieehdhinponcaaJ12
import Derived.Test.YtieehdhinponcaaJ10
import Derived.Test.YtieehdhinponcaaChecked
namespace Go.Proofs.Ytieehdhinponcaa
open Go.ChangeShapes Go.WideShapes Go.ChangeAt Go.RowKit
set_option linter.unusedVariables false

/-- The weights of one argument. -/
theorem weight_atP {H : Type} : ∀ {ts : List TypeId} {ds : List (DataW H)} (h : (DataW.weightsEach Try.prog ts ds).all (fun x => decide (x ≤ reachBytes)) = true) (j : Nat) {t : TypeId} {d : DataW H} (ht : ts[j]? = some t) (hd : ds[j]? = some d), (d.weights Try.prog t).all (fun x => decide (x ≤ reachBytes)) = true
  | [], _, _, j, _, _, ht, _ => by simp at ht
  | _ :: _, [], _, j, _, _, _, hd => by simp at hd
  | t :: ts, d :: ds, h, 0, _, _, ht, hd => by
    simp only [List.getElem?_cons_zero, Option.some.injEq] at ht hd
    subst ht hd
    simp only [DataW.weightsEach, List.all_append, Bool.and_eq_true] at h
    exact h.1
  | t :: ts, d :: ds, h, j + 1, _, _, ht, hd => by
    simp only [DataW.weightsEach, List.all_append, Bool.and_eq_true] at h
    exact weight_atP h.2 j (by simpa using ht) (by simpa using hd)
theorem weight_all {H : Type} {e : TypeId} : ∀ {ds : List (DataW H)} (h : (DataW.weightsAll Try.prog e ds).all (fun x => decide (x ≤ reachBytes)) = true) {d : DataW H} (hd : d ∈ ds), (d.weights Try.prog e).all (fun x => decide (x ≤ reachBytes)) = true
  | [], _, _, hd => by cases hd
  | x :: ds, h, d, hd => by
    simp only [DataW.weightsAll, List.all_append, Bool.and_eq_true] at h
    rcases List.mem_cons.1 hd with rfl | hd
    · exact h.1
    · exact weight_all h.2 hd

/-- A nil slice that came in has no room. -/
theorem parts_cap {H : Type} {enc : TypeId × Value → H} {W : World} {v : Value} {d : DataW H} {p : List MemPlace} {base : Nat} {held : Bool} (h : DataW.Trod enc Try.prog W base (fun _ => true) held 22 v d p) : ∀ n c, v = .slice none n c → c = 0 := by
  rintro n c rfl
  obtain ⟨fuel, hf⟩ := h
  rcases Deep.open_slice1 und_parts cells_bytes hf with ⟨hcs, _⟩ | ⟨x, l, c', m, k, V, D, Pl, hcs, _⟩
  · simp [Value.cells] at hcs
    exact hcs.2
  · simp [Value.cells] at hcs
/-- A slice that came in is no longer than its room. -/
theorem parts_cap2 {H : Type} {enc : TypeId × Value → H} {W : World} {v : Value} {d : DataW H} {p : List MemPlace} {base : Nat} {held : Bool} (h : DataW.Trod enc Try.prog W base (fun _ => true) held 22 v d p) : ∀ a n c, v = .slice a n c → n ≤ c ∧ c ≤ maxLen := by
  rintro a n c rfl
  obtain ⟨fuel, hf⟩ := h
  rcases Deep.open_slice1 und_parts cells_bytes hf with ⟨hcs, _⟩ | ⟨x, l, c', m, k, V, D, Pl, hcs, _, hl, hm, _⟩
  · simp [Value.cells] at hcs
    obtain ⟨rfl, rfl, rfl⟩ := hcs
    exact ⟨Nat.le_refl _, Nat.zero_le _⟩
  · simp [Value.cells] at hcs
    obtain ⟨rfl, rfl, rfl⟩ := hcs
    exact ⟨hl, hm⟩
/-- A slice of slices of bytes that came in, however long; with the bounds of its bytes. -/
theorem open_partsG {H : Type} {enc : TypeId × Value → H} {W : World} {v : Value} {d : DataW H} {p : List MemPlace} {base : Nat} {held : Bool} (h : DataW.Trod enc Try.prog W base (fun _ => true) held 22 v d p) (hs : ∃ a n c, v = .slice a n c)
    (hk : (d.weights Try.prog 22).all (fun x => decide (x ≤ reachBytes)) = true) : ∃ ps : List (List Nat), RdP W v ps ∧ (∀ i, (ps.getD i []).length ≤ 140737488351232) ∧ ps.length ≤ 5864062014634 := by
  obtain ⟨a, n, c, rfl⟩ := hs
  obtain ⟨fuel, hf⟩ := h
  rcases Deep.open_slice1 und_parts cells_bytes hf with ⟨hcs, hx⟩ | ⟨x, l, c', m, k, V, D, Pl, hcs, _, hl, hm, hmm, hx, hel⟩
  · simp [Value.cells] at hcs
    obtain ⟨rfl, rfl, rfl⟩ := hcs
    exact ⟨[], ⟨by simp, none, 0, rfl, .inl rfl⟩, fun i => by simp, by simp⟩
  · simp [Value.cells] at hcs
    obtain ⟨rfl, rfl, rfl⟩ := hcs
    simp only [if_true] at hmm
    simp only [Prod.mk.injEq] at hx
    obtain ⟨hx1, _⟩ := hx
    have hn : n ≤ 5864062014634 := by
      have hs2 : (DataW.weightsEach Try.prog [22] ([d] ++ [])).all (fun x => decide (x ≤ reachBytes)) = true := by simpa [DataW.weightsEach] using hk
      rw [hx1] at hs2
      have := sized_slice hs2 (j := 0) (t := 22) rfl rfl und_parts
      rw [show Try.prog.bytesOf 24 = 24 by kernel_rfl] at this
      simp at this
      unfold reachBytes at this
      omega
    have hw : ∀ j, j < n → ((D j).weights Try.prog 24).all (fun x => decide (x ≤ reachBytes)) = true := by
      intro j hj
      rw [hx1] at hk
      simp only [DataW.weights, und_parts, List.all_cons, List.all_append, Bool.and_eq_true] at hk
      exact weight_all hk.2.1 (by simp only [List.mem_map, List.mem_range]; exact ⟨j, hj, rfl⟩)
    have sum_le : ∀ j, j ≤ n → ∃ ps : List (List Nat), ps.length = j ∧ (∀ i, i < j → Rd W (V i) (ps.getD i [])) ∧ (∀ i, (ps.getD i []).length ≤ 140737488351232) := by
      intro j
      induction j with
      | zero => intro _; exact ⟨[], rfl, fun i hi => by omega, fun i => by simp⟩
      | succ j ih =>
        intro hj
        obtain ⟨ps, hpl, hrd, hll⟩ := ih (by omega)
        obtain ⟨hcell, htr⟩ := hel j (by omega)
        have hsl : ∃ a n c, V j = .slice a n c := by
          rcases DataW.trod_slice und_bytes htr with ⟨h0, _⟩ | ⟨a, len, cap, _, _, _, _, h0, _⟩
          · simp at h0; exact ⟨_, _, _, h0⟩
          · simp at h0; exact ⟨_, _, _, h0⟩
        have htr2 : DataW.Trod enc Try.prog W base (fun _ => true) held 24 (V j) (D j) (Pl j) := by
          obtain ⟨a, n, c, hv⟩ := hsl
          refine ⟨k, ?_⟩
          rw [hv] at htr ⊢
          simpa [Value.cells] using htr
        obtain ⟨bs, hbs, hbl, hfm⟩ := open_bytes htr2 hsl
        have hlen : bs.length ≤ 140737488351232 := by
          have hs2 : (DataW.weightsEach Try.prog [24] ([D j] ++ [])).all (fun x => decide (x ≤ reachBytes)) = true := by simpa [DataW.weightsEach] using hw j (by omega)
          have := reach_bytes hs2 0 rfl rfl hfm
          omega
        refine ⟨ps ++ [bs], by simp [hpl], ?_, ?_⟩
        rotate_left
        · intro i
          by_cases hij : i < j
          · have e : (ps ++ [bs]).getD i [] = ps.getD i [] := by simp [List.getD, List.getElem?_append_left (show i < ps.length by omega)]
            rw [e]
            exact hll i
          · by_cases hij2 : i = j
            · subst hij2
              have e : (ps ++ [bs]).getD i [] = bs := by simp [List.getD, hpl]
              rw [e]
              exact hlen
            · have e : (ps ++ [bs]).getD i [] = [] := by simp [List.getD, List.getElem?_eq_none (show (ps ++ [bs]).length ≤ i by simp; omega)]
              rw [e]
              simp
        intro i hi
        by_cases hij : i < j
        · have := hrd i hij
          have e : (ps ++ [bs]).getD i [] = ps.getD i [] := by simp [List.getD, List.getElem?_append_left (show i < ps.length by omega)]
          rw [e]
          exact this
        · have hij2 : i = j := by omega
          subst hij2
          have e : (ps ++ [bs]).getD i [] = bs := by simp [List.getD, hpl]
          rw [e]
          exact hbs (by omega)
    obtain ⟨ps, hpl, hrd, hll⟩ := sum_le n (Nat.le_refl _)
    refine ⟨ps, ⟨by omega, some x, c, by rw [hpl], ?_⟩, hll, by omega⟩
    by_cases hn0 : n = 0
    · left; exact List.eq_nil_of_length_eq_zero (by omega)
    · right
      obtain ⟨b, off, spot⟩ := x
      have hc := (hel 0 (by omega)).1
      have hspot : spot = none := by simpa [Addr.add] using World.cell?_spot hc
      subst hspot
      refine ⟨b, off, rfl, fun i hi => ⟨V i, ?_, hrd i (by omega)⟩⟩
      have hc := (hel i (by omega)).1
      have e : (⟨b, off, none⟩ : Addr).add i = ⟨b, off + i, none⟩ := by unfold Addr.add; split <;> simp_all
      rw [e] at hc
      exact hc
theorem open_partsF {H : Type} {enc : TypeId × Value → H} {W : World} {v : Value} {d : DataW H} {p : List MemPlace} {base : Nat} {held : Bool} (h : DataW.Trod enc Try.prog W base (fun _ => true) held 22 v d p) (hs : ∃ a n c, v = .slice a n c)
    (hk : (d.weights Try.prog 22).all (fun x => decide (x ≤ reachBytes)) = true) : ∃ ps : List (List Nat), RdP W v ps := let ⟨ps, h, _⟩ := open_partsG h hs hk; ⟨ps, h⟩

end Go.Proofs.Ytieehdhinponcaa

namespace Go.Proofs.Ytieehdhinponcaa
open Go.ChangeShapes Go.WideShapes Go.ChangeAt Go.RowKit
set_option linter.unusedVariables false

set_option maxRecDepth 100000 in
theorem und_ask : Try.prog.underlying 42 = some (.struct #[{ name := "Kind", type := 3, offset := 0, embedded := false, tag := "", pkgPath := "", byteOffset := 0 }, { name := "N", type := 3, offset := 1, embedded := false, tag := "", pkgPath := "", byteOffset := 8 }, { name := "Keys", type := 22, offset := 2, embedded := false, tag := "", pkgPath := "", byteOffset := 16 }, { name := "F", type := 24, offset := 3, embedded := false, tag := "", pkgPath := "", byteOffset := 40 }, { name := "G", type := 24, offset := 4, embedded := false, tag := "", pkgPath := "", byteOffset := 64 }]) := by kernel_rfl
theorem und_asks : Try.prog.underlying 52 = some (.slice 42) := by kernel_rfl
theorem cells_ask : Try.prog.cellsOf 42 = 5 := by kernel_rfl
theorem cells_int : Try.prog.cellsOf 3 = 1 := by kernel_rfl
theorem cells_parts : Try.prog.cellsOf 22 = 1 := by kernel_rfl

theorem slice_one {H : Type} {enc : TypeId × Value → H} {W : World} {base fuel : Nat} {held : Bool} {t e : TypeId} {c : Value} {x : DataW H × List MemPlace} (hu : Try.prog.underlying t = some (.slice e)) (h : DataW.trod enc Try.prog W base (fun _ => true) held fuel t [c] = some x) : (∃ a n k, c = .slice a n k) ∧ DataW.Trod enc Try.prog W base (fun _ => true) held t c x.1 x.2 := by
  have hsl : ∃ a n k, c = .slice a n k := by
    rcases DataW.trod_slice hu h with ⟨h0, _⟩ | ⟨a, len, cap, _, _, _, _, h0, _⟩
    · simp at h0; exact ⟨_, _, _, h0⟩
    · simp at h0; exact ⟨_, _, _, h0⟩
  refine ⟨hsl, fuel, ?_⟩
  obtain ⟨a, n, k, rfl⟩ := hsl
  simpa [Value.cells] using h

set_option maxRecDepth 100000 in
theorem open_ask {H : Type} {enc : TypeId × Value → H} {W : World} {base fuel : Nat} {held : Bool} {cs : List Value} {x : DataW H × List MemPlace} (h : DataW.trod enc Try.prog W base (fun _ => true) held fuel 42 cs = some x) (hk : (x.1.weights Try.prog 42).all (fun x => decide (x ≤ reachBytes)) = true) :
    ∃ o : AskD, cs = o.cells ∧ AskD.Ok W o := by
  obtain ⟨xs, n, rfl, rfl, hcl, hxl, hf⟩ := DataW.trod_struct und_ask h
  rw [cells_ask] at hcl
  obtain ⟨c0, c1, c2, c3, c4, rfl⟩ : ∃ c0 c1 c2 c3 c4, cs = [c0, c1, c2, c3, c4] := by
    match cs, hcl with
    | [c0, c1, c2, c3, c4], _ => exact ⟨_, _, _, _, _, rfl⟩
  obtain ⟨x0, x1, x2, x3, x4, rfl⟩ : ∃ x0 x1 x2 x3 x4, xs = [x0, x1, x2, x3, x4] := by
    match xs, hxl with
    | [c0, c1, c2, c3, c4], _ => exact ⟨_, _, _, _, _, rfl⟩
  have f0 := hf 0 _ rfl
  have f1 := hf 1 _ rfl
  have f2 := hf 2 _ rfl
  have f3 := hf 3 _ rfl
  have f4 := hf 4 _ rfl
  simp [cells_int, cells_bytes, cells_parts] at f0 f1 f2 f3 f4
  obtain ⟨n0, e0, _, w0⟩ := DataW.trod_int und_int f0
  obtain ⟨n1, e1, _, w1⟩ := DataW.trod_int und_int f1
  simp at e0 e1
  subst e0 e1
  have hs2 : (DataW.weightsEach Try.prog [3, 3, 22, 24, 24] ([x0.1, x1.1, x2.1, x3.1, x4.1] ++ [])).all (fun x => decide (x ≤ reachBytes)) = true := by
    simp only [DataW.weights, und_ask] at hk
    simpa using hk
  obtain ⟨s2, t2⟩ := slice_one und_parts f2
  obtain ⟨s3, t3⟩ := slice_one und_bytes f3
  obtain ⟨s4, t4⟩ := slice_one und_bytes f4
  obtain ⟨bf, hbf, hbfl, fmf⟩ := open_bytes t3 s3
  obtain ⟨bg, hbg, hbgl, fmg⟩ := open_bytes t4 s4
  obtain ⟨ps, hps, hpl, hpn⟩ := open_partsG t2 s2 (weight_atP hs2 2 rfl rfl)
  have lf := reach_bytes hs2 3 rfl rfl fmf
  have lg := reach_bytes hs2 4 rfl rfl fmg
  have b1 := bounds_i64 w1
  exact ⟨⟨n0, n1, c2, c3, c4, ps, bf, bg⟩, rfl, hps, hbf (by omega), hbg (by omega), lf, lg, by simp only; omega, by simp only; omega, hpl, hpn⟩

set_option maxRecDepth 100000 in
/-- A script that came in. -/
theorem open_asks {H : Type} {enc : TypeId × Value → H} {W : World} {v : Value} {d : DataW H} {p : List MemPlace} {base : Nat} {held : Bool} (h : DataW.Trod enc Try.prog W base (fun _ => true) held 52 v d p) (hs : ∃ a n c, v = .slice a n c) (hk : (d.weights Try.prog 52).all (fun x => decide (x ≤ reachBytes)) = true) :
    ∃ os : List AskD, RdA W v os := by
  obtain ⟨a, n, c, rfl⟩ := hs
  obtain ⟨fuel, hf⟩ := h
  rcases Deep.open_slice und_asks hf with ⟨hcs, hx⟩ | ⟨x, l, c', m, k, D, Pl, hcs, _, hl, hm, hmm, hx, hel⟩
  · simp [Value.cells] at hcs
    obtain ⟨rfl, rfl, rfl⟩ := hcs
    exact ⟨[], by simp, none, 0, rfl, .inl rfl⟩
  · simp [Value.cells] at hcs
    obtain ⟨rfl, rfl, rfl⟩ := hcs
    simp only [if_true] at hmm
    simp only [Prod.mk.injEq] at hx
    obtain ⟨hx1, _⟩ := hx
    have hn : n ≤ 281474976710656 := by
      have hs2 : (DataW.weightsEach Try.prog [52] ([d] ++ [])).all (fun x => decide (x ≤ reachBytes)) = true := by simpa [DataW.weightsEach] using hk
      rw [hx1] at hs2
      have := sized_slice hs2 (j := 0) (t := 52) rfl rfl und_asks
      rw [show Try.prog.bytesOf 42 = 88 by kernel_rfl] at this
      simp at this
      unfold reachBytes at this
      omega
    have hwt : ∀ j, j < n → ((D j).weights Try.prog 42).all (fun x => decide (x ≤ reachBytes)) = true := by
      intro j hj
      rw [hx1] at hk
      simp only [DataW.weights, und_asks, List.all_cons, List.all_append, Bool.and_eq_true] at hk
      exact weight_all hk.2.1 (by simp only [List.mem_map, List.mem_range]; exact ⟨j, hj, rfl⟩)
    rw [cells_ask] at hel
    have hop : ∀ i, i < n → ∃ o : AskD, (∀ j y, o.cells[j]? = some y → W.cell? ((x.add (i * 5)).add j) = some y) ∧ AskD.Ok W o := by
      intro i hi
      obtain ⟨cs', hc1, hc2⟩ := hel i (by omega)
      obtain ⟨o, rfl, hok⟩ := open_ask hc2 (hwt i hi)
      refine ⟨o, fun j y hj => ?_, hok⟩
      obtain ⟨_, hlen, hget⟩ := World.cells?_some hc1
      have hj5 : j < 5 := by
        have := (List.getElem?_eq_some_iff.1 hj).1
        simpa [AskD.cells] using this
      rw [hget j hj5]
      exact hj
    have build : ∀ q, q ≤ n → ∃ os : List AskD, os.length = q ∧ ∀ i o, os[i]? = some o → (∀ j y, o.cells[j]? = some y → W.cell? ((x.add (i * 5)).add j) = some y) ∧ AskD.Ok W o := by
      intro q
      induction q with
      | zero => intro _; exact ⟨[], rfl, fun i o h => by simp at h⟩
      | succ q ih =>
        intro hq
        obtain ⟨os, hol, hos⟩ := ih (by omega)
        obtain ⟨o, ho⟩ := hop q (by omega)
        refine ⟨os ++ [o], by simp [hol], fun i o' h => ?_⟩
        by_cases hi : i < os.length
        · rw [List.getElem?_append_left hi] at h
          exact hos i o' h
        · rw [List.getElem?_append_right (by omega)] at h
          have hi2 : i = q := by
            by_cases h9 : i - os.length = 0
            · omega
            · rw [List.getElem?_eq_none (by simp; omega)] at h; cases h
          subst hi2
          rw [hol, Nat.sub_self] at h
          simp at h
          subst h
          exact ho
    obtain ⟨os, hol, hos⟩ := build n (Nat.le_refl _)
    refine ⟨os, by omega, some x, c, by rw [hol], ?_⟩
    by_cases hn0 : n = 0
    · left; exact List.eq_nil_of_length_eq_zero (by omega)
    · right
      obtain ⟨b, off, spot⟩ := x
      have hc := (hop 0 (by omega))
      obtain ⟨o, hc, _⟩ := hc
      have hc0 := hc 0 _ rfl
      have hspot : spot = none := by simpa [Addr.add] using World.cell?_spot hc0
      subst hspot
      refine ⟨b, off, rfl, fun i o hi => ⟨fun j y hj => ?_, (hos i o hi).2⟩⟩
      have := (hos i o hi).1 j y hj
      have e : ∀ q r : Nat, ((⟨b, q, none⟩ : Addr).add r) = ⟨b, q + r, none⟩ := fun q r => by unfold Addr.add; split <;> simp_all
      rw [e, e] at this
      exact this

end Go.Proofs.Ytieehdhinponcaa

namespace Go.Proofs.Ytieehdhinponcaa.bloomPlaysRow
open Go.ChangeShapes Go.WideShapes Go.ChangeAt Go.RowKit
set_option linter.unusedVariables false

set_option maxRecDepth 100000 in
theorem contract (H : Type) (enc : TypeId × Value → H) (W : World) (base : Nat) (args : Array Value) (ds gs : List (DataW H)) (before : List MemPlace)
    (hval0 : ∀ (j : Nat) t v, Try.f11.params[j]? = some t → args[j]? = some v → Value.okWide Try.prog W .any base t v)
    (hW : DataW.Whole enc Try.prog Try.f11.params.toList Rows.bloomPlaysSpec.vars false W args.toList ds gs before) (hsz : (DataW.weightsEach Try.prog (Try.f11.params.toList ++ DataSpec.varTypes Try.prog (OpenSpec.ofChange Rows.bloomPlaysSpec).bare.plain) (ds ++ gs)).all (fun x => decide (x ≤ reachBytes)) = true) :
    Calls Try.prog 11 args W fun e W' => ∃ v, e = .returned v ∧ Rows.bloomPlaysSpec.post enc Try.prog Try.f11 false true false false W args v W' := by
  have hW' := hW
  obtain ⟨p, q, hA0, hV, rfl, hfz, hnd⟩ := hW
  have hA : DataW.TrodAll enc Try.prog W 0 (fun _ => true) true Try.f11.params.toList args.toList ds p := hA0
  have hval := hval0
  rw [Try.params11] at hA hval
  obtain ⟨v0, vs0, d0, ds0, p0, q0, hargs, rfl, rfl, h0, r0⟩ := trodAll_cons hA
  obtain ⟨rfl, rfl, rfl⟩ := trodAll_nil r0
  obtain rfl : args = #[v0] := by cases args; simp_all
  obtain ⟨rfl, rfl⟩ := trodVars_none hV
  have hsz2 : (DataW.weightsEach Try.prog [52] ([d0] ++ [])).all (fun x => decide (x ≤ reachBytes)) = true := by
    have e : Try.f11.params.toList ++ DataSpec.varTypes Try.prog (OpenSpec.ofChange Rows.bloomPlaysSpec).bare.plain = [52] := by kernel_rfl
    rw [e] at hsz
    exact hsz
  have s0 := okWide_slice und_asks (hval 0 52 v0 rfl rfl)
  have k0 := h0
  have lt0 : ∀ x ∈ p0, x.block < W.heap.size := by obtain ⟨m, hm⟩ := k0; exact DataW.trod_lt m _ _ _ hm
  obtain ⟨x0, rd0⟩ := open_asks h0 s0 (weight_atP hsz2 0 rfl rfl)
  clear hA0 hval0
  refine (bloomPlays_walk rd0).mono fun e W' ⟨he, bel⟩ => ?_
  subst he
  exact ⟨_, rfl, _, _, _, [], _, [], hW', trodAll_mk1 (shut_bool und_bool _), (trodAll_cons_mk (Below.trod laid_out (by kernel_rfl) (of_decide_eq_true (by kernel_rfl)) k0 bel lt0) trodAll_mk0), rfl, bel.frame _, fun h => by cases h⟩

theorem laid_met (os : Os) : laidMet Try.prog Rows.bloomPlaysRow.laid ((World.holding Try.prog os ⟨#[], #[], []⟩ : World).forCall (fun _ _ => 0) ⟨#[], #[.slice none 0 0], []⟩).memory :=
  laidMet_of_run' 8 (by kernel_rfl) (by kernel_rfl)
theorem reads (os : Os) {H : Type} (enc : TypeId × Value → H) : ∃ places, DataW.whole enc Try.prog ((World.holding Try.prog os ⟨#[], #[], []⟩ : World).forCall (fun _ _ => 0) ⟨#[], #[.slice none 0 0], []⟩).memory Try.f11.params.toList Rows.bloomPlaysSpec.vars false (#[.slice none 0 0] : Array Value).toList 8 = some ([.nil], [], places) :=
  ⟨[], by kernel_rfl⟩

set_option maxRecDepth 100000 in
theorem lifted (os : Os) (started : os.Started) (H : Type) (enc : TypeId × Value → H) (F : Stop.Interp) :
    ReturnsInHanded {} Try.checked os 11 .any ((OpenSpec.ofChange Rows.bloomPlaysSpec).preRow enc Try.prog Try.f11 Rows.bloomPlaysRow.domain false Rows.bloomPlaysRow.laid) (((OpenSpec.ofChange Rows.bloomPlaysSpec).at F).post enc Try.prog Try.f11 false true false false) := by
  obtain ⟨places, hx⟩ := reads os enc
  refine returnsInHanded_of_row (C := Try.checked) (s := OpenSpec.ofChange Rows.bloomPlaysSpec) own_knob started (by kernel_rfl) Try.func11
    (witness_row_at (enc := enc) (C := Try.checked) false (World.holding Try.prog os ⟨#[], #[], []⟩) #[.slice none 0 0] rfl (by kernel_rfl) (by kernel_rfl) (by kernel_rfl)
      (OpenSpec.preRow_of_cond 8 hx (by kernel_rfl) (fun k hk => by cases hk) (by kernel_rfl) (laid_met os))) ?_
  intro W base args ds gs before hval hW _ hcond hsz hL _ _
  exact contract H enc W base args ds gs before hval hW hsz

end Go.Proofs.Ytieehdhinponcaa.bloomPlaysRow
namespace Go.Proofs.Ytieehdhinponcaa
open Go.ChangeShapes Go.WideShapes Go.ChangeAt Go.RowKit

theorem bloomPlays_holds : Rows.BloomPlaysSaid :=
  OpenClaim.holds_of_cond 11 Try.f11 rfl rfl rfl rfl rfl rfl rfl ⟨rfl, rfl, rfl, rfl, rfl⟩ rfl rfl rfl rfl rfl (by kernel_rfl) Try.func11 (by kernel_rfl)
    (of_decide_eq_true (by kernel_rfl)) (by unfold Func.isWrapper; first | (rw [if_pos (by decide +kernel)]; kernel_rfl) | (rw [if_neg (by decide +kernel)]; exact ⟨rfl, rfl⟩))
    (fun os started H enc _ F => by rw [OpenClaim.pre_eq_preRow]; exact bloomPlaysRow.lifted os started H enc F)
#print axioms bloomPlays_holds
end Go.Proofs.Ytieehdhinponcaa
