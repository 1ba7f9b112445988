import Derived.Test.YthhkpkfpifllkaaGreatK28
import Derived.ChangeSlices
namespace Go.Proofs.YthhkpkfpifllkaaGreat
open Go.RowKit
set_option linter.unusedVariables false

set_option maxRecDepth 100000 in
theorem filter_made {w : World} {B0 : Nat} (hB0 : B0 ≤ w.heap.size) {fa : Option Addr} {fc : Nat} {fs : List FamD} (hr : RdF w (.slice fa fs.length fc) fs) (hnn : fa = none → fc = 0) (C : Nat) (hC : (C = 0 ↔ SchemaOk fs) ∧ (C = 0 ∨ C = 28)) (clock low t nv : Int) (major : Bool) :
    Calls Tryz.prog 67 #[.agg #[.slice fa fs.length fc, .int .i64 clock, .bool major, .int .i64 low, .int .i64 t, .int .i64 nv], .bool false] w fun r w' => Made B0 (.agg #[.slice fa fs.length fc, .int .i64 clock, .bool major, .int .i64 low, .int .i64 t, .int .i64 nv]) (fun Z => RdF Z (.slice fa fs.length fc) fs) w w' r := by
  refine (madeF_any hr hnn C hC clock low t nv major).mono ?_
  rintro r w' ⟨b, k1, k2⟩
  by_cases hz : boundsS C [clock, low] = 0
  · obtain ⟨q, fb, wb, a', c', rfl, h1, h2, h3, h4, h5, bx, re⟩ := k2 hz
    have hC0 : C = 0 := (bounds_ok hz).1
    have hS := hC.1.1 hC0
    have hfs := schema_tl hS
    have HH := filter_hands fb w.heap.size (.pointer (some ⟨wb, 0, none⟩)) major low
    have KK := kd_filter (mt fs) clock fs.length major low
    have hE : ∀ ls : List EntD, inOrderE (check3S fs.length) ls = 0 → askE C fs clock low 0 1 ls = 0 := fun ls hl => by
      have q := hz
      rw [bounds_ask C fs] at q
      unfold askE at q ⊢
      split at q
      · rename_i x; exact absurd hC0 x
      · rename_i x
        rw [if_neg x]
        split at q
        · exact absurd q (by decide)
        · rename_i y; rw [if_neg y]; exact hl
    obtain ⟨P, hP⟩ := Fl.start (OO := outS major low) (T := fun hd => TF hd fb w.heap.size (.pointer (some ⟨wb, 0, none⟩)) major low) rfl h1 h2 h3 h4 h5 bx re
    refine ⟨some ⟨q, 0, none⟩, P, rfl, .inr ⟨q, fun W n P => ∃ V0, Fl w.heap.size wb 70 fb q (.slice a' fs.length c') fs clock (fun hd => TF hd fb w.heap.size (.pointer (some ⟨wb, 0, none⟩)) major low) (outS major low) (some ⟨fb, 0, none⟩) none (cntS major low V0) V0 W n P, 0, rfl, ⟨?_, ?_, ?_, ?_⟩, ⟨[], hP⟩, Nat.le_refl _⟩, b, fun i hi => ?_⟩
    · rintro W W' n P ⟨V0, ins, outs, la, vi, vo, s, us, l, m, Oi, Oo, f1, f2, rfl⟩ hs hk
      exact ⟨V0, ins, outs, la, vi, vo, s, us, l, m, Oi, Oo, f1.keep HH hs hk, f2, rfl⟩
    · rintro W n P i ⟨V0, ins, outs, la, vi, vo, s, us, l, m, Oi, Oo, f1, f2, rfl⟩ hi
      have := f1.inlt HH i hi
      exact ⟨Nat.le_trans hB0 this.1, this.2⟩
    · rintro W n P e ⟨V0, hf⟩ hin hsh hn
      refine (pushF_any HH KK (fun hd W vs h => tf_all h) (fun w a cap ls c0 rf rl hl ho => wantF_any c0 rf C hC clock low t nv major rl hl (hE ls ho)) hfs hf hin hsh hn).mono ?_
      rintro r W' ⟨rfl, P', f, sp, hP'⟩
      exact ⟨rfl, P', ⟨V0, f⟩, sp, hP'⟩
    · rintro W n P ⟨V0, hf⟩ hin hn
      refine (endF_any HH KK (fun hd W vs h => tf_all h) (fun w a cap ls c0 rf rl hl ho => wantF_any c0 rf C hC clock low t nv major rl hl (hE ls ho)) hfs hS (fun hd W vs h => by obtain ⟨xs, ov, Or, h1, _⟩ := h.st; exact ⟨⟨ov, h1⟩, h.ok⟩) hf hin hn).mono ?_
      rintro r W' ⟨rfl, V1, P', f, sp, hP'⟩
      exact ⟨rfl, P', ⟨V1, f⟩, sp, hP'⟩
    · obtain ⟨ins, outs, la, vi, vo, s, us, l, m, Oi, Oo, f1, f2, rfl⟩ := hP
      exact (f1.inlt HH i hi).1
  · exact ⟨none, fun _ => False, k1 hz, .inl ⟨rfl, fun _ => id⟩, b, fun i hi => hi.elim⟩
end Go.Proofs.YthhkpkfpifllkaaGreat

namespace Go.Proofs.YthhkpkfpifllkaaGreat
open Go.RowKit
set_option linter.unusedVariables false

set_option maxRecDepth 100000 in
set_option maxHeartbeats 4000000 in
theorem filters_walk {W : World} {fa1 fa2 : Option Addr} {fc1 fc2 : Nat} {fs1 fs2 : List FamD} {k1 l1 t1 n1 k2 l2 t2 n2 : Int} {m1 m2 : Bool} {aL : Option Addr} {cL : Nat} {ls : List EntD} {vj : Value} {js : List Int} (hr1 : RdF W (.slice fa1 fs1.length fc1) fs1) (hn1 : fa1 = none → fc1 = 0) (hr2 : RdF W (.slice fa2 fs2.length fc2) fs2) (hn2 : fa2 = none → fc2 = 0) (hl : RdL3 W aL cL ls) (hlen : ls.length ≤ 1353245080300) (hsh : ∀ x ∈ ls, ShrtW x) (hj : RdJ W vj js) :
    Calls Tryz.prog 8 #[.agg #[.slice fa1 fs1.length fc1, .int .i64 k1, .bool m1, .int .i64 l1, .int .i64 t1, .int .i64 n1], .agg #[.slice fa2 fs2.length fc2, .int .i64 k2, .bool m2, .int .i64 l2, .int .i64 t2, .int .i64 n2], .slice aL ls.length cL, vj] W fun r w' => r = .returned (.bool true) ∧ Below W.heap.size W w' := by
  obtain ⟨C1, hC1⟩ := schema_c fs1
  obtain ⟨C2, hC2⟩ := schema_c fs2
  obtain ⟨X, hX, A, -, cb1, cb2⟩ := two_box W fa1 fa2 fs1.length fc1 fs2.length fc2 k1 l1 t1 n1 k2 l2 t2 n2 m1 m2
  have HC := Lib.hid (streams_any (W := X) (rd := false) (k1 := k1) (l1 := l1) (t1 := t1) (n1 := n1) (k2 := k2) (l2 := l2) (t2 := t2) (n2 := n2) (m1 := m1) (m2 := m2) (hr1.later A) (hr2.later A) (hl.later A) hlen hsh (hj.later A) (fun w B0 hB hr => filter_made hB hr hn1 C1 hC1 k1 l1 t1 n1 m1) (fun w B0 hB hr => filter_made hB hr hn2 C2 hC2 k2 l2 t2 n2 m2))
  have HX := Lib.hid hX
  have HA := Lib.hid A
  have z1 := cb1.cells
  have z2 := cb2.cells
  rw [hX] at z1 z2
  obtain ⟨y0, y1, y2, y3, y4, y5⟩ := z1
  obtain ⟨u0, u1, u2, u3, u4, u5⟩ := z2
  clear hX A cb1 cb2 hr1 hn1 hr2 hn2 hl hlen hsh hj hC1 hC2
  go_enter Tryz.func8, Tryz.ntmps8
  go_wp2_with fail
  rw [← HX.out]
  refine Calls.mono HC.out ?_
  rintro r w1 ⟨rfl, b1⟩
  have HB := Lib.hid b1
  clear b1 HC
  go_wp2
  go_ret
  exact ⟨rfl, HA.out.trans (HB.out.mono HA.out.size)⟩
end Go.Proofs.YthhkpkfpifllkaaGreat

namespace Go.Proofs.YthhkpkfpifllkaaGreat
open Go.ChangeShapes Go.WideShapes Go.ChangeAt Go.RowKit
set_option linter.unusedVariables false

set_option maxRecDepth 100000 in
theorem und_family : Tryz.prog.underlying 132 = some (.struct #[{ name := "Name", type := 9, offset := 0, embedded := false, tag := "", pkgPath := "", byteOffset := 0 }, { name := "Max", type := 3, offset := 1, embedded := false, tag := "", pkgPath := "", byteOffset := 16 }, { name := "TTL", type := 3, offset := 2, embedded := false, tag := "", pkgPath := "", byteOffset := 24 }]) := by kernel_rfl
theorem und_schema : Tryz.prog.underlying 27 = some (.struct #[{ name := "Fams", type := 25, offset := 0, embedded := false, tag := "", pkgPath := "", byteOffset := 0 }]) := by kernel_rfl
theorem und_families : Tryz.prog.underlying 25 = some (.slice 132) := by kernel_rfl
theorem cells_family : Tryz.prog.cellsOf 132 = 3 := by kernel_rfl
theorem cells_families : Tryz.prog.cellsOf 25 = 1 := by kernel_rfl
theorem cells_schema : Tryz.prog.cellsOf 27 = 1 := by kernel_rfl
theorem cells_string : Tryz.prog.cellsOf 9 = 1 := by kernel_rfl

set_option maxRecDepth 100000 in
theorem open_family {H : Type} {enc : TypeId × Value → H} {W : World} {base fuel : Nat} {held : Bool} {cs : List Value} {x : DataW H × List MemPlace} (h : DataW.trod enc Tryz.prog W base (fun _ => true) held fuel 132 cs = some x) :
    ∃ f : FamD, cs = [.string f.nm, .int .i64 f.mx, .int .i64 f.tl] := by
  obtain ⟨xs, n, rfl, rfl, hcl, hxl, hf⟩ := DataW.trod_struct und_family h
  rw [cells_family] at hcl
  obtain ⟨c0, c1, c2, rfl⟩ : ∃ c0 c1 c2, cs = [c0, c1, c2] := by
    match cs, hcl with
    | [c0, c1, c2], _ => exact ⟨_, _, _, rfl⟩
  obtain ⟨x0, x1, x2, rfl⟩ : ∃ x0 x1 x2, xs = [x0, x1, x2] := by
    match xs, hxl with
    | [c0, c1, c2], _ => exact ⟨_, _, _, rfl⟩
  have f0 := hf 0 _ rfl
  have f1 := hf 1 _ rfl
  have f2 := hf 2 _ rfl
  simp [cells_int, cells_string] at f0 f1 f2
  obtain ⟨n1, e1, _, w1⟩ := DataW.trod_int und_int f1
  obtain ⟨n2, e2, _, w2⟩ := DataW.trod_int und_int f2
  obtain ⟨s0, e0, _, w0⟩ := DataW.trod_string und_string f0
  simp at e0 e1 e2
  subst e0 e1 e2
  exact ⟨⟨s0, n1, n2⟩, rfl⟩

set_option maxRecDepth 100000 in
theorem open_schema {H : Type} {enc : TypeId × Value → H} {W : World} {base : Nat} {held : Bool} {v : Value} {d : DataW H} {p : List MemPlace} (h0 : DataW.Trod enc Tryz.prog W base (fun _ => true) held 27 v d p) (hv : ∃ cs, v = .agg cs ∧ cs.size = Tryz.prog.cellsOf 27)
    (hs : (d.weights Tryz.prog 27).all (fun x => decide (x ≤ reachBytes)) = true) :
    ∃ a n c fs, v = .agg #[.slice a n c] ∧ (a = none → c = 0) ∧ RdF W (.slice a n c) fs := by
  obtain ⟨csA, rfl, hcs⟩ := hv
  obtain ⟨fuel, h⟩ := h0
  obtain ⟨cs⟩ := csA
  simp only [Value.cells] at h
  obtain ⟨xs, n, hx, hdp, hcl, hxl, hf⟩ := DataW.trod_struct und_schema h
  simp only [Prod.mk.injEq] at hdp
  obtain ⟨rfl, rfl⟩ := hdp
  rw [cells_schema] at hcl
  obtain ⟨c0, rfl⟩ : ∃ c0, cs = [c0] := by
    match cs, hcl with
    | [c0], _ => exact ⟨_, rfl⟩
  obtain ⟨x0, rfl⟩ : ∃ x0, xs = [x0] := by
    match xs, hxl with
    | [c0], _ => exact ⟨_, rfl⟩
  have f0 := hf 0 _ rfl
  simp [cells_families] at f0
  obtain ⟨⟨a, n, c, rfl⟩, t0⟩ := slice_one und_families f0
  have hs2 : (DataW.weightsEach Tryz.prog [25] ([x0.1] ++ [])).all (fun x => decide (x ≤ reachBytes)) = true := by
    simp only [DataW.weights, und_schema] at hs
    simpa using hs
  obtain ⟨fuel2, hf2⟩ := t0
  rcases Deep.open_slice und_families hf2 with ⟨hcs, hx⟩ | ⟨x, l, c', m, k, D, Pl, hcs, _, hl, hm, hmm, hx, hel⟩
  · simp [Value.cells] at hcs
    obtain ⟨rfl, rfl, rfl⟩ := hcs
    exact ⟨none, 0, 0, [], rfl, fun _ => rfl, none, 0, rfl, by simp, by decide, by simp, .inl rfl⟩
  · simp [Value.cells] at hcs
    obtain ⟨rfl, rfl, rfl⟩ := hcs
    simp only [if_true] at hmm
    simp only [Prod.mk.injEq] at hx
    obtain ⟨hx1, _⟩ := hx
    have hn : n ≤ 281474976710656 := by
      rw [hx1] at hs2
      have := sized_slice hs2 (j := 0) (t := 25) rfl rfl und_families
      rw [show Tryz.prog.bytesOf 132 = 32 by kernel_rfl] at this
      simp at this
      unfold reachBytes at this
      omega
    rw [cells_family] at hel
    have hop : ∀ i, i < n → ∃ f : FamD, W.cell? ((x.add (i * 3)).add 0) = some (.string f.nm) ∧ W.cell? ((x.add (i * 3)).add 1) = some (.int .i64 f.mx) ∧ W.cell? ((x.add (i * 3)).add 2) = some (.int .i64 f.tl) := by
      intro i hi
      obtain ⟨cs', hc1, hc2⟩ := hel i (by omega)
      obtain ⟨f, rfl⟩ := open_family hc2
      obtain ⟨_, hlen, hget⟩ := World.cells?_some hc1
      exact ⟨f, by rw [hget 0 (by omega)]; rfl, by rw [hget 1 (by omega)]; rfl, by rw [hget 2 (by omega)]; rfl⟩
    have build : ∀ q, q ≤ n → ∃ fs : List FamD, fs.length = q ∧ ∀ i f, fs[i]? = some f → W.cell? ((x.add (i * 3)).add 0) = some (.string f.nm) ∧ W.cell? ((x.add (i * 3)).add 1) = some (.int .i64 f.mx) ∧ W.cell? ((x.add (i * 3)).add 2) = some (.int .i64 f.tl) := by
      intro q
      induction q with
      | zero => intro _; exact ⟨[], rfl, fun i o h => by simp at h⟩
      | succ q ih =>
        intro hq
        obtain ⟨os, hol, hos⟩ := ih (by omega)
        obtain ⟨o, ho⟩ := hop q (by omega)
        refine ⟨os ++ [o], by simp [hol], fun i o' h => ?_⟩
        by_cases hi : i < os.length
        · rw [List.getElem?_append_left hi] at h
          exact hos i o' h
        · rw [List.getElem?_append_right (by omega)] at h
          have hi2 : i = q := by
            by_cases h9 : i - os.length = 0
            · omega
            · rw [List.getElem?_eq_none (by simp; omega)] at h; cases h
          subst hi2
          rw [hol, Nat.sub_self] at h
          simp at h
          subst h
          exact ho
    obtain ⟨fs, hol, hos⟩ := build n (Nat.le_refl _)
    refine ⟨some x, n, c, fs, rfl, fun h => (by cases h), some x, c, by rw [hol], by omega, hm, by omega, ?_⟩
    by_cases hn0 : n = 0
    · left; exact List.eq_nil_of_length_eq_zero (by omega)
    · right
      obtain ⟨b, off, spot⟩ := x
      obtain ⟨o, hc0, _⟩ := (hop 0 (by omega))
      have hspot : spot = none := by simpa [Addr.add] using World.cell?_spot hc0
      subst hspot
      refine ⟨b, off, rfl, fun i f hi => ?_⟩
      have := hos i f hi
      have e : ∀ q r : Nat, ((⟨b, q, none⟩ : Addr).add r) = ⟨b, q + r, none⟩ := fun q r => by unfold Addr.add; split <;> simp_all
      simp only [e] at this
      simpa using this

end Go.Proofs.YthhkpkfpifllkaaGreat

namespace Go.Proofs.YthhkpkfpifllkaaGreat
open Go.ChangeShapes Go.WideShapes Go.ChangeAt Go.RowKit
set_option linter.unusedVariables false

set_option maxRecDepth 100000 in
theorem open_entcW {H : Type} {enc : TypeId × Value → H} {W : World} {base fuel : Nat} {held : Bool} {cs : List Value} {x : DataW H × List MemPlace} (h : DataW.trod enc Tryz.prog W base (fun _ => true) held fuel 84 cs = some x) (hl : cs.length = 7) (hk : (x.1.weights Tryz.prog 84).all (fun x => decide (x ≤ reachBytes)) = true) :
    ∃ e : EntD, cs = e.cells.toList ∧ EntD.Ok W e ∧ ShrtW e := by
  obtain ⟨d, p⟩ := x
  obtain ⟨e, h1, h2, _, h4⟩ := open_entry (v := .agg cs.toArray) (d := d) (p := p) ⟨fuel, by simpa [Value.cells] using h⟩ ⟨cs.toArray, rfl, by rw [cells_entry]; simpa using hl⟩
  have h5 := h4 hk
  refine ⟨e, ?_, h2 ⟨by omega, by omega, by omega⟩, by unfold ShrtW; omega⟩
  have : cs.toArray = e.cells := by injection h1
  rw [← this]

set_option maxRecDepth 100000 in
theorem open_entsW {H : Type} {enc : TypeId × Value → H} {W : World} {base : Nat} {held : Bool} {v : Value} {d : DataW H} {p : List MemPlace} (h0 : DataW.Trod enc Tryz.prog W base (fun _ => true) held 28 v d p) (hv : ∃ a n c, v = .slice a n c)
    (hk : (d.weights Tryz.prog 28).all (fun x => decide (x ≤ reachBytes)) = true) :
    ∃ (xs : List EntD) (a : Option Addr) (c : Nat), v = .slice a xs.length c ∧ RdL3 W a c xs ∧ xs.length ≤ 1353245080300 ∧ ∀ x ∈ xs, ShrtW x := by
  obtain ⟨a, n, c, rfl⟩ := hv
  obtain ⟨fuel2, hf2⟩ := h0
  have hs2 : (DataW.weightsEach Tryz.prog [28] ([d] ++ [])).all (fun x => decide (x ≤ reachBytes)) = true := by
    simpa [DataW.weightsEach] using hk
  rcases Deep.open_slice und_ents hf2 with ⟨hcs, hx⟩ | ⟨x, l, c', m, k, D, Pl, hcs, _, hl, hm, hmm, hx, hel⟩
  · simp [Value.cells] at hcs
    obtain ⟨rfl, rfl, rfl⟩ := hcs
    exact ⟨[], none, 0, rfl, ⟨⟨Nat.le_refl _, Nat.zero_le _⟩, .inl rfl, fun x hx => by cases hx⟩, by simp, fun x hx => by cases hx⟩
  · simp [Value.cells] at hcs
    obtain ⟨rfl, rfl, rfl⟩ := hcs
    simp only [if_true] at hmm
    simp only [Prod.mk.injEq] at hx
    obtain ⟨hx1, _⟩ := hx
    have hn : n ≤ 1353245080300 := by
      rw [hx1] at hs2
      have := sized_slice hs2 (j := 0) (t := 28) rfl rfl und_ents
      rw [show Tryz.prog.bytesOf 84 = 104 by kernel_rfl] at this
      simp at this
      unfold reachBytes at this
      omega
    have hwt : ∀ j, j < n → ((D j).weights Tryz.prog 84).all (fun x => decide (x ≤ reachBytes)) = true := by
      intro j hj
      rw [hx1] at hk
      simp only [DataW.weights, und_ents, List.all_cons, List.all_append, Bool.and_eq_true] at hk
      exact weight_allE hk.2.1 (by simp only [List.mem_map, List.mem_range]; exact ⟨j, hj, rfl⟩)
    rw [cells_entry] at hel
    have hop : ∀ i, i < n → ∃ e : EntD, (∀ j y, e.cells.toList[j]? = some y → W.cell? ((x.add (i * 7)).add j) = some y) ∧ EntD.Ok W e ∧ ShrtW e := by
      intro i hi
      obtain ⟨cs', hc1, hc2⟩ := hel i (by omega)
      obtain ⟨_, hlen, hget⟩ := World.cells?_some hc1
      obtain ⟨e, rfl, hok⟩ := open_entcW hc2 hlen (hwt i hi)
      refine ⟨e, fun j y hj => ?_, hok⟩
      have hj7 : j < 7 := by
        have := (List.getElem?_eq_some_iff.1 hj).1
        simpa [EntD.cells] using this
      rw [hget j hj7]
      exact hj
    have build : ∀ q, q ≤ n → ∃ fs : List EntD, fs.length = q ∧ ∀ i f, fs[i]? = some f → (∀ j y, f.cells.toList[j]? = some y → W.cell? ((x.add (i * 7)).add j) = some y) ∧ EntD.Ok W f ∧ ShrtW f := by
      intro q
      induction q with
      | zero => intro _; exact ⟨[], rfl, fun i o h => by simp at h⟩
      | succ q ih =>
        intro hq
        obtain ⟨os, hol, hos⟩ := ih (by omega)
        obtain ⟨o, ho⟩ := hop q (by omega)
        refine ⟨os ++ [o], by simp [hol], fun i o' h => ?_⟩
        by_cases hi : i < os.length
        · rw [List.getElem?_append_left hi] at h
          exact hos i o' h
        · rw [List.getElem?_append_right (by omega)] at h
          have hi2 : i = q := by
            by_cases h9 : i - os.length = 0
            · omega
            · rw [List.getElem?_eq_none (by simp; omega)] at h; cases h
          subst hi2
          rw [hol, Nat.sub_self] at h
          simp at h
          subst h
          exact ho
    obtain ⟨fs, hol, hos⟩ := build n (Nat.le_refl _)
    refine ⟨fs, some x, c, by rw [hol], ⟨⟨by omega, hm⟩, ?_, fun f hf => ?_⟩, by omega, fun f hf => ?_⟩
    · by_cases h0 : fs = []
      · exact .inl h0
      · have hin : 0 < fs.length := List.length_pos_iff.2 h0
        obtain ⟨b, off, spot⟩ := x
        obtain ⟨o, hc, _⟩ := hop 0 (by omega)
        have hc0 := hc 0 _ rfl
        have hspot : spot = none := by simpa [Addr.add] using World.cell?_spot hc0
        subst hspot
        have e : ∀ q r : Nat, ((⟨b, q, none⟩ : Addr).add r) = ⟨b, q + r, none⟩ := fun q r => by unfold Addr.add; split <;> simp_all
        refine .inr ⟨b, off, rfl, fun i f hi j u hj => ?_⟩
        have := (hos i f hi).1 j u hj
        rw [e, e] at this
        exact this
    · obtain ⟨i, hi⟩ := List.getElem?_of_mem hf
      exact (hos i f hi).2.1
    · obtain ⟨i, hi⟩ := List.getElem?_of_mem hf
      exact (hos i f hi).2.2

theorem cells_bool3 : Tryz.prog.cellsOf 4 = 1 := by kernel_rfl
theorem und_bool3 : Tryz.prog.underlying 4 = some .bool := by kernel_rfl

end Go.Proofs.YthhkpkfpifllkaaGreat

namespace Go.Proofs.YthhkpkfpifllkaaGreat
open Go.ChangeShapes Go.WideShapes Go.ChangeAt Go.RowKit
set_option linter.unusedVariables false

theorem und_case3 : Tryz.prog.underlying 62 = some (.struct #[{ name := "S", type := 27, offset := 0, embedded := false, tag := "", pkgPath := "", byteOffset := 0 }, { name := "Clock", type := 3, offset := 1, embedded := false, tag := "", pkgPath := "", byteOffset := 24 }, { name := "Major", type := 4, offset := 2, embedded := false, tag := "", pkgPath := "", byteOffset := 32 }, { name := "Low", type := 3, offset := 3, embedded := false, tag := "", pkgPath := "", byteOffset := 40 }, { name := "T", type := 3, offset := 4, embedded := false, tag := "", pkgPath := "", byteOffset := 48 }, { name := "N", type := 3, offset := 5, embedded := false, tag := "", pkgPath := "", byteOffset := 56 }]) := by kernel_rfl
theorem cells_case3 : Tryz.prog.cellsOf 62 = 6 := by kernel_rfl
set_option maxRecDepth 100000 in
theorem open_case3 {H : Type} {enc : TypeId × Value → H} {W : World} {base : Nat} {held : Bool} {v : Value} {d : DataW H} {p : List MemPlace} (h0 : DataW.Trod enc Tryz.prog W base (fun _ => true) held 62 v d p) (hv : ∃ cs, v = .agg cs ∧ cs.size = Tryz.prog.cellsOf 62) (hk : (d.weights Tryz.prog 62).all (fun x => decide (x ≤ reachBytes)) = true) :
    ∃ (fa : Option Addr) (fc : Nat) (fs : List FamD) (clock low t n : Int) (major : Bool), v = .agg #[.slice fa fs.length fc, .int .i64 clock, .bool major, .int .i64 low, .int .i64 t, .int .i64 n] ∧ RdF W (.slice fa fs.length fc) fs ∧ (fa = none → fc = 0) := by
  obtain ⟨⟨cs⟩, rfl, -⟩ := hv
  obtain ⟨fuel, h⟩ := h0
  simp only [Value.cells] at h
  obtain ⟨xs, n, rfl, e, hcl, hxl, hf⟩ := DataW.trod_struct und_case3 h
  simp only [Prod.mk.injEq] at e
  obtain ⟨rfl, -⟩ := e
  rw [cells_case3] at hcl
  obtain ⟨c0, c1, c2, c3, c4, c5, rfl⟩ : ∃ c0 c1 c2 c3 c4 c5, cs = [c0, c1, c2, c3, c4, c5] := by
    match cs, hcl with
    | [c0, c1, c2, c3, c4, c5], _ => exact ⟨_, _, _, _, _, _, rfl⟩
  obtain ⟨x0, x1, x2, x3, x4, x5, rfl⟩ : ∃ x0 x1 x2 x3 x4 x5, xs = [x0, x1, x2, x3, x4, x5] := by
    match xs, hxl with
    | [c0, c1, c2, c3, c4, c5], _ => exact ⟨_, _, _, _, _, _, rfl⟩
  have f0 := hf 0 _ rfl
  have f1 := hf 1 _ rfl
  have f2 := hf 2 _ rfl
  have f3 := hf 3 _ rfl
  have f4 := hf 4 _ rfl
  have f5 := hf 5 _ rfl
  simp [cells_int, cells_schema, cells_bool3] at f0 f1 f2 f3 f4 f5
  obtain ⟨n1, e1, _, w1⟩ := DataW.trod_int und_int f1
  obtain ⟨n2, e2, _⟩ := DataW.trod_bool und_bool3 f2
  obtain ⟨n3, e3, _, w3⟩ := DataW.trod_int und_int f3
  obtain ⟨n4, e4, _, w4⟩ := DataW.trod_int und_int f4
  obtain ⟨n5, e5, _, w5⟩ := DataW.trod_int und_int f5
  simp at e1 e2 e3 e4 e5
  subst e1 e2 e3 e4 e5
  have hs2 : (DataW.weightsEach Tryz.prog [27, 3, 4, 3, 3, 3] ([x0.1, x1.1, x2.1, x3.1, x4.1, x5.1] ++ [])).all (fun x => decide (x ≤ reachBytes)) = true := by
    simp only [DataW.weights, und_case3] at hk
    simpa using hk
  obtain ⟨fa, fn, fc, fs, ev, nn, rf⟩ := open_schema (v := .agg #[c0]) (d := x0.1) (p := x0.2) ⟨_, by simpa [Value.cells] using f0⟩ ⟨#[c0], rfl, by rw [cells_schema]; rfl⟩ (weight_at hs2 0 rfl rfl)
  simp only [Value.agg.injEq] at ev
  have ec : c0 = .slice fa fn fc := by
    have := congrArg (fun a : Array Value => a[0]?) ev
    simpa using this
  have efn : fn = fs.length := by
    obtain ⟨a', c', e, _⟩ := id rf
    simp only [Value.slice.injEq] at e
    exact e.2.1
  subst efn
  subst ec
  exact ⟨fa, fc, fs, n1, n3, n4, n5, n2, rfl, rf, nn⟩
end Go.Proofs.YthhkpkfpifllkaaGreat

namespace Go.Proofs.YthhkpkfpifllkaaGreat
open Go.ChangeShapes Go.WideShapes Go.ChangeAt Go.RowKit
set_option linter.unusedVariables false

theorem und_intsJ : Tryz.prog.underlying 63 = some (.slice 3) := by kernel_rfl
theorem cells_intJ : Tryz.prog.cellsOf 3 = 1 := by kernel_rfl
theorem und_intJ : Tryz.prog.underlying 3 = some (.int .i64) := by kernel_rfl
theorem open_nums {H : Type} {enc : TypeId × Value → H} {W : World} {v : Value} {d : DataW H} {p : List MemPlace} {base : Nat} {held : Bool} (h : DataW.Trod enc Tryz.prog W base (fun _ => true) held 63 v d p) (hs : ∃ a n c, v = .slice a n c) : ∃ js : List Int, RdJ W v js := by
  obtain ⟨a, n, c, rfl⟩ := hs
  obtain ⟨fuel, hf⟩ := h
  rcases open_ints und_intsJ und_intJ cells_intJ hf with ⟨hcs, hx⟩ | ⟨x, l, c', zs, hcs, _, hl, hm, hz, hx, hcell, hwz⟩
  · simp [Value.cells] at hcs
    obtain ⟨rfl, rfl, rfl⟩ := hcs
    exact ⟨[], none, 0, rfl, Nat.le_refl _, Nat.zero_le _, .inl rfl, fun j hj => by cases hj⟩
  · simp [Value.cells] at hcs
    obtain ⟨rfl, rfl, rfl⟩ := hcs
    simp only [if_true] at hz
    have hlen : (zs.take n).length = n := by rw [List.length_take]; omega
    refine ⟨zs.take n, some x, c, by rw [hlen], by omega, hm, ?_, fun j hj => ?_⟩
    · by_cases hn0 : n = 0
      · left; simp [hn0]
      · right
        obtain ⟨b, off, spot⟩ := x
        have hc := hcell 0 (by omega)
        have hspot : spot = none := by simpa [Addr.add] using World.cell?_spot hc
        subst hspot
        refine ⟨b, off, rfl, fun i j hj => ?_⟩
        have hin : i < n := by
          have := (List.getElem?_eq_some_iff.1 hj).1
          omega
        rw [List.getElem?_take_of_lt hin] at hj
        have hc := hcell i (by omega)
        have e : (⟨b, off, none⟩ : Addr).add i = ⟨b, off + i, none⟩ := by unfold Addr.add; split <;> simp_all
        rw [e] at hc
        rw [hc]
        simp [List.getD, hj]
    · have := hwz j (List.mem_of_mem_take hj)
      have e1 : IntKind.i64.min = -9223372036854775808 := by decide
      have e2 : IntKind.i64.max = 9223372036854775807 := by decide
      simp only [Lit.wf, e1, e2, Bool.and_eq_true, decide_eq_true_eq] at this
      exact this
end Go.Proofs.YthhkpkfpifllkaaGreat
