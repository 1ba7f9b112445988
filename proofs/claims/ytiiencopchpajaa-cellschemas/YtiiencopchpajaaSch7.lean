import Derived.Test.YtiiencopchpajaaSch6
namespace Go.Proofs.Ytiiencopchpajaa
open Go.RowKit
set_option linter.unusedVariables false

theorem oneOk : SchemaOk [⟨⟨#[97]⟩, 1, 0⟩] := by
  refine ⟨by simp, fun i f hf => ?_⟩
  obtain rfl : i = 0 := by have := (List.getElem?_eq_some_iff.1 hf).1; simp at this; omega
  simp at hf
  subst hf
  refine ⟨⟨⟨by decide, by decide, fun i hi => ?_⟩, by simp, by simp⟩, by simp [famIx]⟩
  have e : (⟨#[97]⟩ : ByteArray).size = 1 := rfl
  rw [e] at hi
  obtain rfl : i = 0 := by omega
  exact .inl (by decide)
theorem two_call {X wx w' : World} {b c : Nat} {u v : Value} (h : wx.cell? ⟨b, 0, none⟩ = some u ∧ wx.cell? ⟨c, 0, none⟩ = some v ∧ Below X.heap.size X wx) (k : Below wx.heap.size wx w') : w'.cell? ⟨b, 0, none⟩ = some u ∧ w'.cell? ⟨c, 0, none⟩ = some v ∧ Below X.heap.size X w' :=
  ⟨(k.cell (p := ⟨b, 0, none⟩) (World.block_lt_of_cell? _ _ h.1)).trans h.1, (k.cell (p := ⟨c, 0, none⟩) (World.block_lt_of_cell? _ _ h.2.1)).trans h.2.1, h.2.2.trans (k.mono h.2.2.size)⟩
theorem two_rd {X wx : World} {b c : Nat} {u v z : Value} {fs : List FamD} (h : wx.cell? ⟨b, 0, none⟩ = some u ∧ wx.cell? ⟨c, 0, none⟩ = some v ∧ Below X.heap.size X wx) (r : RdF X z fs) : RdF wx z fs := r.later h.2.2
theorem nilBad : ¬ SchemaOk [] := fun h => by have := h.1.1; simp at this
theorem rdF_nil (w : World) : RdF w (.slice none 0 0) [] := ⟨none, 0, rfl, by simp, by decide, by simp, .inl rfl⟩
set_option maxRecDepth 100000 in
set_option maxHeartbeats 8000000 in
theorem cellSchemas_walk {a : Option Addr} {n cap : Nat} {fs : List FamD} {w : World} (hr : RdF w (.slice a n cap) fs) (ha : a = none → cap = 0) (nm : ByteArray) :
    Calls Try.prog 3 #[.agg #[.slice a n cap], .string nm] w fun e w' => e = .returned (.bool true) ∧ Below w.heap.size w w' := by
  have A1 := (Below.refl w.heap.size w).alloc (Nat.le_refl _) (.cells #[.slice a n cap] 24)
  have hx1 : (w.alloc (.cells #[.slice a n cap] 24)).cell? ⟨w.heap.size, 0, none⟩ = some (.slice a n cap) := (Var.new w (.slice a n cap) 24).cf.1.1
  have hS0 : w.heap.size < (w.alloc (.cells #[.slice a n cap] 24)).heap.size := by simp
  have HX : Hid (_ ∧ _ ∧ _) := ⟨A1, hx1, hS0⟩
  clear A1 hx1 hS0
  go_enter Try.func3, Try.ntmps3
  go_wp2
  refine schemas_1 (hr.later HX.out.1) ha HX.out.2.1 (.string nm) _ (Lib.hid ?_)
  intro b5 b6 u5 u6 wF h5 h6 hne c5 c6 l5 l6 hbF
  have HB : Hid (Below w.heap.size w wF) := HX.out.1.trans (hbF.mono (Nat.le_of_lt HX.out.2.2))
  have hg : (fs.take 20).length ≤ 20 := List.length_take_le _ _
  generalize fs.take 20 = gs at l5 l6 hg
  obtain ⟨g5, m5, k5, rfl⟩ := l5.form
  obtain ⟨g6, m6, k6, rfl⟩ := l6.form
  clear hbF HX hr ha h5 h6
  have A2 := ((Below.refl wF.heap.size wF).alloc (Nat.le_refl _) (.cells #[.string ⟨#[97]⟩, .int .i64 1, .int .i64 0] 27)).alloc (by simp) (.cells #[.slice (some ⟨wF.heap.size, 0, none⟩) 1 1] 24)
  have v7 : Var ((wF.alloc (.cells #[.string ⟨#[97]⟩, .int .i64 1, .int .i64 0] 27)).alloc (.cells #[.slice (some ⟨wF.heap.size, 0, none⟩) 1 1] 24)) (wF.heap.size + 1) (.slice (some ⟨wF.heap.size, 0, none⟩) 1 1) 24 := Var.new2 _ _ _ _
  have r7 : RdF ((wF.alloc (.cells #[.string ⟨#[97]⟩, .int .i64 1, .int .i64 0] 27)).alloc (.cells #[.slice (some ⟨wF.heap.size, 0, none⟩) 1 1] 24)) (.slice (some ⟨wF.heap.size, 0, none⟩) 1 1) [⟨⟨#[97]⟩, 1, 0⟩] := by
    refine RdF.later (w := wF.alloc (.cells #[.string ⟨#[97]⟩, .int .i64 1, .int .i64 0] 27)) ?_ ((Below.refl _ _).alloc (Nat.le_refl _) _)
    have hh := heap_new wF (.cells #[.string ⟨#[97]⟩, .int .i64 1, .int .i64 0] 27)
    generalize (wF.alloc (.cells #[.string ⟨#[97]⟩, .int .i64 1, .int .i64 0] 27)) = wz at hh
    refine ⟨_, 1, rfl, Nat.le_refl _, by decide, by simp, .inr ⟨wF.heap.size, 0, rfl, fun i f hf => ?_⟩⟩
    obtain rfl : i = 0 := by have := (List.getElem?_eq_some_iff.1 hf).1; simp at this; omega
    simp at hf
    subst hf
    exact ⟨by simp [World.cell?, hh], by simp [World.cell?, hh], by simp [World.cell?, hh]⟩
  have d5 : Hid (_ ∧ _ ∧ _ ∧ _) := ⟨c5, c6, l5, l6⟩
  have d7 : Hid (_ ∧ _) := ⟨v7, r7⟩
  have d2 : Hid (Below wF.heap.size wF _) := A2
  clear c5 c6 l5 l6 A2 v7 r7
  go_wp2_with fail
  refine (checkSchema_is d7.out.2 0 ⟨⟨fun _ => oneOk, fun _ => rfl⟩, .inl rfl⟩).mono ?_
  rintro e wA ⟨rfl, hbA⟩
  have BA : Hid (Below wF.heap.size wF wA) := Below.step hbA d2.out
  have dA : Hid (_ ∧ _) := ⟨d7.out.1.later hbA, d7.out.2.later hbA⟩
  clear hbA d7 d2
  go_wp2_with fail
  refine (checkSchema_is (rdF_nil wA) 28 ⟨⟨fun h => (by omega), fun h => absurd h nilBad⟩, .inr rfl⟩).mono ?_
  rintro e wB ⟨rfl, hbB⟩
  have BB : Hid (Below wF.heap.size wF wB) := Below.step hbB BA.out
  have dB : Hid (_ ∧ _) := ⟨dA.out.1.later hbB, dA.out.2.later hbB⟩
  have z7 : wB.cell? ⟨wF.heap.size + 1, 0, none⟩ = some (.slice (some ⟨wF.heap.size, 0, none⟩) 1 1) := dB.out.1.cf.1.1
  clear hbB BA dA
  go_wp2_with fail
  refine (family_any dB.out.2 ⟨#[97]⟩).mono ?_
  rintro e wC ⟨rfl, hbC⟩
  have BC : Hid (Below wF.heap.size wF wC) := Below.step hbC BB.out
  have efam : famIx [⟨⟨#[97]⟩, 1, 0⟩] ⟨#[97]⟩ 0 = 0 := by simp [famIx]
  rw [efam]
  have x5 : wC.cell? ⟨b5, 0, none⟩ = some (.slice (some ⟨g5, 0, none⟩) m5 k5) := (BC.out.cell (p := ⟨b5, 0, none⟩) (World.block_lt_of_cell? _ _ d5.out.1)).trans d5.out.1
  have x6 : wC.cell? ⟨b6, 0, none⟩ = some (.slice (some ⟨g6, 0, none⟩) m6 k6) := (BC.out.cell (p := ⟨b6, 0, none⟩) (World.block_lt_of_cell? _ _ d5.out.2.1)).trans d5.out.2.1
  have dC : Hid (_ ∧ _) := ⟨d5.out.2.2.1.later BC.out, d5.out.2.2.2.later BC.out⟩
  have B0 : Hid (Below w.heap.size w wC) := HB.out.trans (BC.out.mono HB.out.size)
  clear hbC BB z7 dB BC d5 HB
  go_wp2_with fail
  obtain ⟨C, HC⟩ : ∃ C : Nat, Hid ((C = 0 ↔ SchemaOk gs) ∧ (C = 0 ∨ C = 28)) := by
    by_cases h : SchemaOk gs
    · exact ⟨0, ⟨fun _ => h, fun _ => rfl⟩, .inl rfl⟩
    · exact ⟨28, ⟨fun h => (by omega), fun k => absurd k h⟩, .inr rfl⟩
  have HR : Hid (RdF wC (.slice (some ⟨g5, 0, none⟩) m5 k5) gs ∧ RdF wC (.slice (some ⟨g6, 0, none⟩) m6 k6) gs) := ⟨dC.out.1.rd (by omega), dC.out.2.rd (by omega)⟩
  have SD : wC.drew.cell? ⟨b5, 0, none⟩ = some (.slice (some ⟨g5, 0, none⟩) m5 k5) ∧ wC.drew.cell? ⟨b6, 0, none⟩ = some (.slice (some ⟨g6, 0, none⟩) m6 k6) ∧ Below wC.heap.size wC wC.drew := ⟨x5, x6, (Below.refl _ _).drew⟩
  go_region_held3 (fun wx => wx.cell? ⟨b5, 0, none⟩ = some (.slice (some ⟨g5, 0, none⟩) m5 k5) ∧ wx.cell? ⟨b6, 0, none⟩ = some (.slice (some ⟨g6, 0, none⟩) m6 k6) ∧ Below wC.heap.size wC wx) (first | assumption) (first
   | (go_at_call 12; refine (checkSchema_is (two_rd (by assumption) HR.out.1) C HC.out).mono ?_; rintro e w1 ⟨rfl, hb1⟩; have hh1 := two_call (by assumption) hb1; clear hb1)
   | (go_at_call 14; refine (refCheckSchema_is (two_rd (by assumption) HR.out.2) C HC.out).mono ?_; rintro e w2 ⟨rfl, hb2⟩; have hh2 := two_call (by assumption) hb2; clear hb2 hh1)
   | (go_at_call 13; refine (family_any (two_rd (by assumption) HR.out.1) nm).mono ?_; rintro e w3 ⟨rfl, hb3⟩; have hh3 := two_call (by assumption) hb3; clear hb3 hh2)
   | (go_at_call 15; refine (refFamily_any (two_rd (by assumption) HR.out.2) nm).mono ?_; rintro e w4 ⟨rfl, hb4⟩; have hh4 := two_call (by assumption) hb4; clear hb4 hh3))
  have hmm : Hid (m5 = gs.length ∧ m6 = gs.length ∧ gs.length + 9 ≤ k5 ∧ gs.length + 9 ≤ k6 ∧ k5 ≤ maxLen ∧ k6 ≤ maxLen) := by
    obtain ⟨q1, r1, e1, f1, s1, _⟩ := dC.out.1
    obtain ⟨q2, r2, e2, f2, s2, _⟩ := dC.out.2
    simp only [Value.slice.injEq] at e1 e2
    obtain ⟨_, rfl, rfl⟩ := e1
    obtain ⟨_, rfl, rfl⟩ := e2
    exact ⟨rfl, rfl, f1, f2, s1, s2⟩
  obtain ⟨e5, e6, j5, j6, p5, p6⟩ := hmm.out
  subst e5
  subst e6
  clear hmm
  have y6 := hh4.2.1
  have B4 : Hid (Below wC.heap.size wC w4) := hh4.2.2
  clear hh4 SD
  go_wp2
  go_loopw [9] (fun i wr => ∃ t : Nat, t ≤ gs.length ∧ i = .int .i64 ((t : Nat) : Int) ∧ Below wC.heap.size wC wr) (fun i _ => gs.length - (intOf i).toNat)
  case atStart => exact ⟨0, by omega, rfl, B4.out⟩
  case round =>
    obtain ⟨t, ht, rfl, Bt⟩ := hrel
    have HBt := Lib.hid Bt
    have z5 : wr.cell? ⟨b5, 0, none⟩ = some (.slice (some ⟨g5, 0, none⟩) gs.length k5) := (Bt.cell (p := ⟨b5, 0, none⟩) (World.block_lt_of_cell? _ _ x5)).trans x5
    have z6 : wr.cell? ⟨b6, 0, none⟩ = some (.slice (some ⟨g6, 0, none⟩) gs.length k6) := (Bt.cell (p := ⟨b6, 0, none⟩) (World.block_lt_of_cell? _ _ x6)).trans x6
    clear Bt
    by_cases hlt : t < gs.length
    · have j1 : (t : Int) < (gs.length : Int) := by omega
      have j0 : (0 : Int) ≤ (t : Int) := by omega
      obtain ⟨f, hf⟩ : ∃ f, gs[t]? = some f := ⟨gs[t], List.getElem?_eq_getElem hlt⟩
      have KS : Hid (∀ wx, Below wC.heap.size wC wx → wx.cell? ⟨b5, 0, none⟩ = some (.slice (some ⟨g5, 0, none⟩) gs.length k5) ∧ wx.cell? ⟨b6, 0, none⟩ = some (.slice (some ⟨g6, 0, none⟩) gs.length k6) ∧ wx.cell? ⟨g5, t * 3, none⟩ = some (.string f.nm) ∧ wx.cell? ⟨g5, t * 3 + 1, none⟩ = some (.int .i64 f.mx) ∧ wx.cell? ⟨g5, t * 3 + 2, none⟩ = some (.int .i64 f.tl) ∧ wx.cell? ⟨g6, t * 3, none⟩ = some (.string f.nm) ∧ wx.cell? ⟨g6, t * 3 + 1, none⟩ = some (.int .i64 f.mx) ∧ wx.cell? ⟨g6, t * 3 + 2, none⟩ = some (.int .i64 f.tl)) := by
        intro wx hb
        have c5 := (dC.out.1.later hb)
        have c6 := (dC.out.2.later hb)
        have hf' : (gs ++ List.replicate 9 markF)[t]? = some f := by rw [List.getElem?_append_left hlt]; exact hf
        obtain ⟨q1, r1, e1, _, _, o1⟩ := c5
        obtain ⟨q2, r2, e2, _, _, o2⟩ := c6
        simp only [Value.slice.injEq, Option.some.injEq, Addr.mk.injEq] at e1 e2
        obtain ⟨⟨rfl, _⟩, _⟩ := e1
        obtain ⟨⟨rfl, _⟩, _⟩ := e2
        exact ⟨(hb.cell (p := ⟨b5, 0, none⟩) (World.block_lt_of_cell? _ _ x5)).trans x5, (hb.cell (p := ⟨b6, 0, none⟩) (World.block_lt_of_cell? _ _ x6)).trans x6, (o1 t f hf').1, (o1 t f hf').2.1, (o1 t f hf').2.2, (o2 t f hf').1, (o2 t f hf').2.1, (o2 t f hf').2.2⟩
      have D0 : Below wC.heap.size wC wr.drew := HBt.out.drew
      go_wp2
      clear z5 z6
      go_region_held3 (fun wx => wx.cell? ⟨b5, 0, none⟩ = some (.slice (some ⟨g5, 0, none⟩) gs.length k5) ∧ wx.cell? ⟨b6, 0, none⟩ = some (.slice (some ⟨g6, 0, none⟩) gs.length k6) ∧ wx.cell? ⟨g5, t * 3, none⟩ = some (.string f.nm) ∧ wx.cell? ⟨g5, t * 3 + 1, none⟩ = some (.int .i64 f.mx) ∧ wx.cell? ⟨g5, t * 3 + 2, none⟩ = some (.int .i64 f.tl) ∧ wx.cell? ⟨g6, t * 3, none⟩ = some (.string f.nm) ∧ wx.cell? ⟨g6, t * 3 + 1, none⟩ = some (.int .i64 f.mx) ∧ wx.cell? ⟨g6, t * 3 + 2, none⟩ = some (.int .i64 f.tl)) (first | exact KS.out _ D0 | exact KS.out _ D1 | exact KS.out _ D2) (first
       | (go_at_call 13; refine (family_any (HR.out.1.later D0) f.nm).mono ?_; rintro e wa ⟨rfl, hba⟩; have D1 : Below wC.heap.size wC wa := D0.trans (hba.mono D0.size); clear hba)
       | (go_at_call 15; refine (refFamily_any (HR.out.2.later D1) f.nm).mono ?_; rintro e wb ⟨rfl, hbb⟩; have D2 : Below wC.heap.size wC wb := D1.trans (hbb.mono D1.size); clear hbb))
      have HD2 := Lib.hid D2
      clear D2 D1 D0
      go_wp2
      go_roundw
      case rel => exact ⟨t + 1, by omega, by go_num, HD2.out⟩
      case measure => simp [intOf]; omega
    · have j1 : (gs.length : Int) ≤ (t : Int) := by omega
      obtain rfl : t = gs.length := by omega
      have KM : wr.cell? ⟨g5, gs.length * 3, none⟩ = some (.string ⟨#[109, 97, 114, 107]⟩) ∧ wr.cell? ⟨g5, gs.length * 3 + 1, none⟩ = some (.int .i64 (-1)) ∧ wr.cell? ⟨g5, gs.length * 3 + 2, none⟩ = some (.int .i64 0) := by
        have c5 := (dC.out.1.later HBt.out)
        have hf' : (gs ++ List.replicate 9 markF)[gs.length]? = some markF := by rw [List.getElem?_append_right (Nat.le_refl _)]; simp
        obtain ⟨q1, r1, e1, _, _, o1⟩ := c5
        simp only [Value.slice.injEq, Option.some.injEq, Addr.mk.injEq] at e1
        obtain ⟨⟨rfl, _⟩, _⟩ := e1
        exact o1 _ _ hf'
      obtain ⟨M0, M1, M2⟩ := KM
      go_wp2
      exact bodyPost_ret (v := .bool true) (by simp [results, Try.results3, go_sem]) rfl ⟨rfl, B0.out.trans (HBt.out.mono B0.out.size)⟩
end Go.Proofs.Ytiiencopchpajaa
