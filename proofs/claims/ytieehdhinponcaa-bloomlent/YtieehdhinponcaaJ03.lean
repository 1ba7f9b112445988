import Derived.Test.YtieehdhinponcaaJ02
import Derived.Maps.Ext
import Derived.Maps.OwnSet
import Derived.Sort.MapsRangeIn
namespace Go.Proofs.Ytieehdhinponcaa
open Go.RowKit
set_option linter.unusedVariables false

def uniE (A B : List Nat) : Nat := if good A && good B then (if pIn A = pIn B ∧ mIn A = mIn B then 0 else 63) else 62
def uniL (A B : List Nat) : List Nat := if uniE A B = 0 then unionL A B else []

theorem unionL_length {A B : List Nat} (h : A.length = B.length) : (unionL A B).length = A.length := by simp [unionL]; omega
theorem unionL_get {A B : List Nat} (h : A.length = B.length) (k : Nat) (h6 : 6 ≤ k) (hk : k < A.length) : (unionL A B).getD k 0 = A.getD k 0 ||| B.getD k 0 := by
  unfold unionL
  have e1 : (A.take 6).length = 6 := by simp; omega
  have e2 : k = 6 + (k - 6) := by omega
  rw [e2]
  simp only [List.getD]
  rw [List.getElem?_append_right (by omega), e1, show 6 + (k - 6) - 6 = k - 6 by omega]
  rw [List.getElem?_zipWith]
  simp only [List.getElem?_drop]
  rw [List.getElem?_eq_getElem (by omega : 6 + (k - 6) < A.length), List.getElem?_eq_getElem (by omega : 6 + (k - 6) < B.length)]
  simp
theorem unionL_bys {A B : List Nat} (ha : Bys A) (hb : Bys B) : Bys (unionL A B) := by
  intro x hx
  simp only [unionL, List.mem_append] at hx
  rcases hx with hx | hx
  · exact ha x (List.mem_of_mem_take hx)
  · rw [List.mem_iff_getElem?] at hx
    obtain ⟨i, hi⟩ := hx
    rw [List.getElem?_zipWith] at hi
    cases h1 : (A.drop 6)[i]? with
    | none => simp [h1] at hi
    | some y =>
      cases h2 : (B.drop 6)[i]? with
      | none => simp [h1, h2] at hi
      | some z =>
        simp [h1, h2] at hi
        subst hi
        exact or_lt (ha y (List.mem_of_mem_drop (List.mem_of_getElem? h1))) (hb z (List.mem_of_mem_drop (List.mem_of_getElem? h2)))

/-- The first k bytes of one, the rest of another. -/
def mix (U E : List Nat) (k : Nat) : List Nat := U.take k ++ E.drop k
theorem mix_length {U E : List Nat} (h : U.length = E.length) (k : Nat) : (mix U E k).length = U.length := by simp [mix]; omega
theorem mix_set {U E : List Nat} (h : U.length = E.length) (k : Nat) (hk : k < U.length) : (mix U E k).set k (U.getD k 0) = mix U E (k + 1) := by
  apply List.ext_getElem?
  intro i
  simp only [mix, List.getElem?_set, List.length_append, List.length_take, List.length_drop, List.getElem?_append, List.getElem?_take, List.getElem?_drop]
  by_cases h1 : k = i
  · subst h1
    have a1 : k < min k U.length + (E.length - k) := by omega
    have a2 : k < min (k + 1) U.length := by omega
    rw [if_pos rfl, if_pos a1, if_pos a2, if_pos (by omega)]
    simp [List.getD, hk]
  · by_cases h2 : i < k
    · have a1 : i < min k U.length := by omega
      have a2 : i < min (k + 1) U.length := by omega
      rw [if_neg h1, if_pos a1, if_pos a2, if_pos h2, if_pos (by omega)]
    · have a1 : ¬ (i < min k U.length) := by omega
      have a2 : ¬ (i < min (k + 1) U.length) := by omega
      simp only [h1, a1, a2, if_false]
      congr 1
      omega

set_option maxRecDepth 100000 in
set_option maxHeartbeats 2000000 in
theorem union_any {va vb : Value} {A B : List Nat} {w : World} (ha : Rd w va A) (hb : Rd w vb B) :
    Calls Try.prog 15 #[va, vb] w fun e w' => ∃ a m c, e = .returned (.tuple #[.slice a m c, .int .i64 ((uniE A B : Nat) : Int)]) ∧ Own w' w.heap.size (.slice a m c) m (uniL A B) ∧ Below w.heap.size w w' := by
  obtain ⟨ga, hga, HA⟩ : ∃ g, g = good A ∧ Calls Try.prog 38 #[va] w fun e w' => ∃ p m : Nat, e = .returned (.tuple #[.agg #[.int .u8 (p : Int), .int .u32 (m : Int)], .bool g]) ∧ (g = true → p = pIn A ∧ m = mIn A) ∧ p < 256 ∧ m < 4294967296 ∧ Below w.heap.size w w' := ⟨_, rfl, readShape_any ha⟩
  obtain ⟨gb, hgb, HB⟩ : ∃ g, g = good B ∧ ∀ wx, Below w.heap.size w wx → Calls Try.prog 38 #[vb] wx fun e w' => ∃ p m : Nat, e = .returned (.tuple #[.agg #[.int .u8 (p : Int), .int .u32 (m : Int)], .bool g]) ∧ (g = true → p = pIn B ∧ m = mIn B) ∧ p < 256 ∧ m < 4294967296 ∧ Below wx.heap.size wx w' := ⟨_, rfl, fun wx hx => readShape_any (hb.later hx)⟩
  have HA' : Hid (Calls Try.prog 38 #[va] w fun e w' => ∃ p m : Nat, e = .returned (.tuple #[.agg #[.int .u8 (p : Int), .int .u32 (m : Int)], .bool ga]) ∧ (ga = true → p = pIn A ∧ m = mIn A) ∧ p < 256 ∧ m < 4294967296 ∧ Below w.heap.size w w') := HA
  have HB' : Hid (∀ wx, Below w.heap.size w wx → Calls Try.prog 38 #[vb] wx fun e w' => ∃ p m : Nat, e = .returned (.tuple #[.agg #[.int .u8 (p : Int), .int .u32 (m : Int)], .bool gb]) ∧ (gb = true → p = pIn B ∧ m = mIn B) ∧ p < 256 ∧ m < 4294967296 ∧ Below wx.heap.size wx w') := HB
  clear HA HB
  have HGA : Hid (ga = good A) := hga
  have HGB : Hid (gb = good B) := hgb
  clear hga hgb
  have RA : Hid (Rd w va A) := ha
  have RB : Hid (Rd w vb B) := hb
  obtain ⟨a, n, cap, rfl⟩ : ∃ a n cap, va = .slice a n cap := by obtain ⟨_, a1, c1, h2, _⟩ := ha; exact ⟨_, _, _, h2⟩
  obtain ⟨a', n', cap', rfl⟩ : ∃ a n cap, vb = .slice a n cap := by obtain ⟨_, a1, c1, h2, _⟩ := hb; exact ⟨_, _, _, h2⟩
  clear ha hb
  obtain ⟨eu, heu⟩ : ∃ e, e = uniE A B := ⟨_, rfl⟩
  have HEU : Hid (eu = uniE A B) := heu
  rw [← heu]
  clear heu
  cases ga with
  | false =>
    have he : eu = 62 := by rw [HEU.out]; unfold uniE; rw [← HGA.out]; rfl
    have hl : uniL A B = [] := by unfold uniL; rw [← HEU.out, he]; rfl
    subst he
    go_enter Try.func15, Try.ntmps15
    go_wp2_with (first | (go_at_call_of 38 (Value.slice a n cap); refine Calls.mono HA'.out ?_; clear HA'; rintro e1 w1 ⟨p, m, rfl, hpm, hp, hm, b1⟩) | (have B1 := b1; go_at_call 38; refine Calls.mono (HB'.out _ (b1.alloc b1.size _)) ?_; clear HB'; rintro e2 w2 ⟨p', m', rfl, hpm', hp', hm', b2⟩))
    go_ret2
    refine ⟨none, 0, 0, rfl, by rw [hl]; exact ⟨rfl, World.ownsRow_nil _ _ _ _⟩, ((b1.alloc b1.size _).trans (b2.mono (by simp; have := b1.size; omega))).alloc (by have := b1.size; have := b2.size; simp at this; omega) _⟩
  | true =>
    cases gb with
    | false =>
      have he : eu = 62 := by rw [HEU.out]; unfold uniE; rw [← HGA.out, ← HGB.out]; rfl
      have hl : uniL A B = [] := by unfold uniL; rw [← HEU.out, he]; rfl
      subst he
      go_enter Try.func15, Try.ntmps15
      go_wp2_with (first | (go_at_call_of 38 (Value.slice a n cap); refine Calls.mono HA'.out ?_; clear HA'; rintro e1 w1 ⟨p, m, rfl, hpm, hp, hm, b1⟩) | (have B1 := b1; go_at_call 38; refine Calls.mono (HB'.out _ (b1.alloc b1.size _)) ?_; clear HB'; rintro e2 w2 ⟨p', m', rfl, hpm', hp', hm', b2⟩))
      go_ret2
      refine ⟨none, 0, 0, rfl, by rw [hl]; exact ⟨rfl, World.ownsRow_nil _ _ _ _⟩, ((b1.alloc b1.size _).trans (b2.mono (by simp; have := b1.size; omega))).alloc (by have := b1.size; have := b2.size; simp at this; omega) _⟩
    | true =>
      have hga := HGA.out
      have hgb := HGB.out
      unfold good at hga hgb
      obtain ⟨a6, a0, ⟨ap1, ap2, am8, am1, am2⟩, al⟩ := of_decide_eq_true hga.symm
      obtain ⟨b6, b0, ⟨bp1, bp2, bm8, bm1, bm2⟩, bl⟩ := of_decide_eq_true hgb.symm
      have HA2 : Hid (Calls Try.prog 38 #[.slice a n cap] w fun e w' => e = .returned (.tuple #[.agg #[.int .u8 ((pIn A : Nat) : Int), .int .u32 ((mIn A : Nat) : Int)], .bool true]) ∧ Below w.heap.size w w') :=
        Calls.mono HA'.out (fun e w' ⟨p, m, h1, h2, _, _, h5⟩ => ⟨by rw [h1, (h2 rfl).1, (h2 rfl).2], h5⟩)
      have HB2 : Hid (∀ wx, Below w.heap.size w wx → Calls Try.prog 38 #[.slice a' n' cap'] wx fun e w' => e = .returned (.tuple #[.agg #[.int .u8 ((pIn B : Nat) : Int), .int .u32 ((mIn B : Nat) : Int)], .bool true]) ∧ Below wx.heap.size wx w') :=
        fun wx hx => Calls.mono (HB'.out wx hx) (fun e w' ⟨p, m, h1, h2, _, _, h5⟩ => ⟨by rw [h1, (h2 rfl).1, (h2 rfl).2], h5⟩)
      clear HA' HB' hga hgb
      obtain ⟨p, hp⟩ : ∃ p, p = pIn A := ⟨_, rfl⟩
      obtain ⟨m, hm⟩ : ∃ m, m = mIn A := ⟨_, rfl⟩
      obtain ⟨p', hp'⟩ : ∃ p, p = pIn B := ⟨_, rfl⟩
      obtain ⟨m', hm'⟩ : ∃ m, m = mIn B := ⟨_, rfl⟩
      by_cases hsh : pIn A = pIn B ∧ mIn A = mIn B
      · have he : eu = 0 := by rw [HEU.out]; unfold uniE; rw [← HGA.out, ← HGB.out]; simp [hsh]
        have hl : uniL A B = unionL A B := by unfold uniL; rw [← HEU.out, he]; rfl
        rw [hl]
        clear hl
        have hAB : A.length = B.length := by omega
        obtain ⟨E, hE⟩ : ∃ E, E = filt (pIn A) (mIn A) (fun _ => false) := ⟨_, rfl⟩
        have hEl : E.length = A.length := by rw [hE, filt_length]; omega
        have hE6 : (unionL A B).take 6 = E.take 6 := by
          have h1 := filt_is (RA.out.1) HGA.out.symm
          have e1 : A.take 6 = headL (pIn A) (mIn A) := by
            conv => lhs; rw [h1]
            simp [filt, headL]
          rw [hE]
          unfold unionL
          rw [List.take_append_of_le_length (by simp; omega), List.take_take, show min 6 6 = 6 from rfl, e1]
          simp [filt, headL]
        have HEM : Hid (∀ wx, Calls Try.prog 35 #[.agg #[.int .u8 ((pIn A : Nat) : Int), .int .u32 ((mIn A : Nat) : Int)]] wx fun e w' => ∃ g c, e = .returned (.slice (some ⟨g, 0, none⟩) A.length c) ∧ Own w' wx.heap.size (.slice (some ⟨g, 0, none⟩) A.length c) A.length E ∧ Below wx.heap.size wx w') := fun wx => by
          have := empty_any (pIn A) (mIn A) (by omega) (by omega) wx
          rw [← hE, ← al] at this
          exact this
        have HE6 : Hid ((unionL A B).take 6 = E.take 6 ∧ E.length = A.length ∧ A.length = B.length) := ⟨hE6, hEl, hAB⟩
        rw [← hsh.1, ← hsh.2, ← hp, ← hm] at HB2
        rw [← hp, ← hm] at HA2 HEM
        obtain ⟨N, hN⟩ : ∃ N, N = A.length := ⟨_, rfl⟩
        rw [← hN] at HEM HE6 al
        have hN6 : 6 ≤ N := by omega
        have hNl : N ≤ 3000000 := by omega
        have hnN : n = N := by rw [hN]; obtain ⟨_, a1, c1, h2, _⟩ := RA.out; simp only [Value.slice.injEq] at h2; exact h2.2.1
        have hnN' : n' = N := by rw [HE6.out.2.2]; obtain ⟨_, a1, c1, h2, _⟩ := RB.out; simp only [Value.slice.injEq] at h2; exact h2.2.1
        subst hnN
        subst hnN'
        have HN : Hid (n' = A.length) := hN
        clear hsh a0 ap1 ap2 am8 am1 am2 al b0 bp1 bp2 bm8 bm1 bm2 bl hp hm hp' hm' hE hEl hE6 hAB hN a6 b6
        subst he
        have g6 : (6 : Int) ≤ (n' : Int) := by omega
        have KA : Hid (Bys A ∧ ∀ i, i < n' → ∃ ba oa, a = some ⟨ba, oa, none⟩ ∧ w.cell? ⟨ba, oa + i, none⟩ = some (.int .u8 ((A.getD i 0 : Nat) : Int))) := by
          obtain ⟨hby, a1, c1, h2, h3, h4, h5, h6, h7⟩ := RA.out
          simp only [Value.slice.injEq] at h2
          obtain ⟨rfl, h2, rfl⟩ := h2
          refine ⟨hby, fun i hi => ?_⟩
          rcases h7 with h7 | ⟨ba, oa, e1, e2⟩
          · rw [h7] at h2; simp at h2; omega
          · exact ⟨ba, oa, e1, e2 i (by omega)⟩
        have KB : Hid (Bys B ∧ ∀ i, i < n' → ∃ ba oa, a' = some ⟨ba, oa, none⟩ ∧ w.cell? ⟨ba, oa + i, none⟩ = some (.int .u8 ((B.getD i 0 : Nat) : Int))) := by
          obtain ⟨hby, a1, c1, h2, h3, h4, h5, h6, h7⟩ := RB.out
          simp only [Value.slice.injEq] at h2
          obtain ⟨rfl, h2, rfl⟩ := h2
          refine ⟨hby, fun i hi => ?_⟩
          rcases h7 with h7 | ⟨ba, oa, e1, e2⟩
          · rw [h7] at h2; simp at h2; omega
          · exact ⟨ba, oa, e1, e2 i (by omega)⟩
        obtain ⟨ba, oa, ea, _⟩ := KA.out.2 0 (by omega)
        obtain ⟨bb, ob, eb, _⟩ := KB.out.2 0 (by omega)
        subst ea
        subst eb
        clear RA RB
        go_enter Try.func15, Try.ntmps15
        go_wp2_with (first | (go_at_call_of 38 (Value.slice (some ⟨ba, oa, none⟩) n' cap); refine Calls.mono HA2.out ?_; clear HA2; rintro e1 w1 ⟨rfl, b1⟩) | (have B1 := b1; go_at_call 38; refine Calls.mono (HB2.out _ (b1.alloc b1.size _)) ?_; clear HB2; rintro e2 w2 ⟨rfl, b2⟩; have bw2 : Below w.heap.size w w2 := (b1.alloc b1.size _).trans (b2.mono (by simp; have := b1.size; omega)); have y0 : w2.cell? ⟨w1.heap.size, 0, none⟩ = some (.int .u8 (p : Int)) := (b2.cell (p := ⟨w1.heap.size, 0, none⟩) (by simp)).trans (by go_simp); have y1 : w2.cell? ⟨w1.heap.size, 1, none⟩ = some (.int .u32 (m : Int)) := (b2.cell (p := ⟨w1.heap.size, 1, none⟩) (by simp)).trans (by go_simp); have hne : w1.heap.size < w2.heap.size := (by have := b2.size; simp at this; omega); have z0 : (w2.alloc (.cells #[.int .u8 (p : Int), .int .u32 (m : Int)] 59)).cell? ⟨w1.heap.size, 0, none⟩ = some (.int .u8 (p : Int)) := (((Below.refl _ w2).alloc (Nat.le_refl _) _).cell (p := ⟨w1.heap.size, 0, none⟩) hne).trans y0; have z1 : (w2.alloc (.cells #[.int .u8 (p : Int), .int .u32 (m : Int)] 59)).cell? ⟨w1.heap.size, 1, none⟩ = some (.int .u32 (m : Int)) := (((Below.refl _ w2).alloc (Nat.le_refl _) _).cell (p := ⟨w1.heap.size, 1, none⟩) hne).trans y1) | (go_at_call 35; refine Calls.mono (HEM.out _) ?_; rintro e3 w3 ⟨g, c, rfl, own3, b3⟩))
        have bw3 : Below w.heap.size w w3 := (bw2.alloc bw2.size _).trans (b3.mono (by simp; have := bw2.size; omega))
        have own3' : Own w3 w.heap.size (.slice (some ⟨g, 0, none⟩) n' c) n' E := own3.mono (by simp; have := bw2.size; omega)
        clear own3 b3 b2 b1 B1 y0 y1 z0 z1 hne bw2
        go_loopw [11] (fun i wr => ∃ k : Nat, 6 ≤ k ∧ k ≤ n' ∧ i = .int .i64 (k : Int) ∧ Hid (Own wr w.heap.size (.slice (some ⟨g, 0, none⟩) n' c) n' (mix (unionL A B) E k) ∧ Below w.heap.size w wr)) (fun i _ => n' - (intOf i).toNat)
        case atStart =>
          refine ⟨6, by omega, by omega, rfl, ?_, bw3⟩
          have e : mix (unionL A B) E 6 = E := by unfold mix; rw [HE6.out.1, List.take_append_drop]
          rw [e]
          exact own3'
        case round =>
          obtain ⟨k, hk6, hk, rfl, HI⟩ := hrel
          by_cases hlt : k < n'
          · have hlt2 : (k : Int) < (n' : Int) := by omega
            obtain ⟨_, _, ea, ca⟩ := KA.out.2 k hlt
            obtain ⟨_, _, eb, cb⟩ := KB.out.2 k hlt
            cases ea
            cases eb
            have ca' := (HI.out.2.cell (p := ⟨ba, oa + k, none⟩) (World.block_lt_of_cell? _ _ ca)).trans ca
            have cb' := (HI.out.2.cell (p := ⟨bb, ob + k, none⟩) (World.block_lt_of_cell? _ _ cb)).trans cb
            have la := KA.out.1.get k
            have lb := KB.out.1.get k
            have hU : Hid ((unionL A B).getD k 0 = A.getD k 0 ||| B.getD k 0) := unionL_get (HN.out.symm.trans HE6.out.2.2) k hk6 (by rw [← HN.out]; exact hlt)
            have hUl : (unionL A B).length = n' := by rw [unionL_length (HN.out.symm.trans HE6.out.2.2)]; exact HN.out.symm
            obtain ⟨x, hx⟩ : ∃ x, x = A.getD k 0 := ⟨_, rfl⟩
            obtain ⟨y, hy⟩ : ∃ y, y = B.getD k 0 := ⟨_, rfl⟩
            rw [← hx] at ca' la hU
            rw [← hy] at cb' lb hU
            have eo := u8_or_nat x y la lb
            obtain ⟨z, hz⟩ : ∃ z, z = x ||| y := ⟨_, rfl⟩
            rw [← hz] at eo hU
            have HUL : Hid ((unionL A B).length = n') := hUl
            have cg : ∃ u, wr.cell? ⟨g, k, none⟩ = some u := by
              have h1 := HI.out.1.2.cellAt k (by omega)
              have h2 : k < (bv (mix (unionL A B) E k)).length := by rw [bv_length, mix_length (by rw [hUl, HE6.out.2.1]), hUl]; exact hlt
              exact ⟨_, h1.trans (List.getElem?_eq_getElem h2)⟩
            obtain ⟨u, cg⟩ := cg
            have fg := HI.out.1.2.frozenAt k
            clear hx hy hz ca cb hUl
            go_wp2
            go_region
            go_wp2
            refine ⟨⟨k + 1, by omega, by omega, by go_num, ?_⟩, by simp [intOf]; omega⟩
            have st := HI.out.1.2.stored k (.int .u8 (z : Int))
            have hgB : w.heap.size ≤ g := by
              rcases HI.out.1.2.2 with ⟨h', _⟩ | ⟨g', cap', cur, h', hb, _⟩
              · simp at h'
              · simp only [Value.slice.injEq, Option.some.injEq, Addr.mk.injEq, and_true, true_and] at h'
                obtain ⟨rfl, _⟩ := h'
                exact hb
            have e : (bv (mix (unionL A B) E k)).set k (.int .u8 (z : Int)) = bv (mix (unionL A B) E (k + 1)) := by
              rw [← mix_set (by rw [HUL.out, HE6.out.2.1]) k (by rw [HUL.out]; exact hlt), hU.out]
              simp [bv, List.map_set]
            rw [e] at st
            have oo : Own _ w.heap.size _ n' (mix (unionL A B) E (k + 1)) := ⟨by rw [mix_length (by rw [HUL.out, HE6.out.2.1]), HUL.out], st.1⟩
            exact ⟨oo.later (Below.refl _ _).drew, (HI.out.2.setCell (p := ⟨g, k, none⟩) hgB _).drew⟩
          · go_wp2
            go_ret2
            have hkn : k = n' := by omega
            subst hkn
            refine ⟨some ⟨g, 0, none⟩, k, c, rfl, ?_, HI.out.2⟩
            have e : mix (unionL A B) E k = unionL A B := by
              unfold mix
              rw [List.take_of_length_le (by rw [unionL_length (HN.out.symm.trans HE6.out.2.2)]; exact Nat.le_of_eq HN.out.symm), List.drop_eq_nil_of_le (by rw [HE6.out.2.1]; exact Nat.le_refl _), List.append_nil]
            have := HI.out.1
            rw [e] at this
            exact this
      · have he : eu = 63 := by rw [HEU.out]; unfold uniE; rw [← HGA.out, ← HGB.out]; simp [hsh]
        have hl : uniL A B = [] := by unfold uniL; rw [← HEU.out, he]; rfl
        rw [← hp, ← hm, ← hp', ← hm'] at hsh
        rw [← hp, ← hm] at HA2
        rw [← hp', ← hm'] at HB2
        clear a0 ap1 ap2 am8 am1 am2 al b0 bp1 bp2 bm8 bm1 bm2 bl hp hm hp' hm'
        subst he
        rw [hl]
        have HSH : Hid (¬ (p = p' ∧ m = m')) := hsh
        clear hsh
        go_enter Try.func15, Try.ntmps15
        go_wp2_with (first | (go_at_call_of 38 (Value.slice a n cap); refine Calls.mono HA2.out ?_; clear HA2; rintro e1 w1 ⟨rfl, b1⟩) | (have B1 := b1; go_at_call 38; refine Calls.mono (HB2.out _ (b1.alloc b1.size _)) ?_; clear HB2; rintro e2 w2 ⟨rfl, b2⟩; have bw2 : Below w.heap.size w w2 := (b1.alloc b1.size _).trans (b2.mono (by simp; have := b1.size; omega)); have y0 : w2.cell? ⟨w1.heap.size, 0, none⟩ = some (.int .u8 (p : Int)) := (b2.cell (p := ⟨w1.heap.size, 0, none⟩) (by simp)).trans (by go_simp); have y1 : w2.cell? ⟨w1.heap.size, 1, none⟩ = some (.int .u32 (m : Int)) := (b2.cell (p := ⟨w1.heap.size, 1, none⟩) (by simp)).trans (by go_simp); have hne : w1.heap.size < w2.heap.size := (by have := b2.size; simp at this; omega); have z0 : (w2.alloc (.cells #[.int .u8 (p' : Int), .int .u32 (m' : Int)] 59)).cell? ⟨w1.heap.size, 0, none⟩ = some (.int .u8 (p : Int)) := (((Below.refl _ w2).alloc (Nat.le_refl _) _).cell (p := ⟨w1.heap.size, 0, none⟩) hne).trans y0; have z1 : (w2.alloc (.cells #[.int .u8 (p' : Int), .int .u32 (m' : Int)] 59)).cell? ⟨w1.heap.size, 1, none⟩ = some (.int .u32 (m : Int)) := (((Below.refl _ w2).alloc (Nat.le_refl _) _).cell (p := ⟨w1.heap.size, 1, none⟩) hne).trans y1))
        all_goals first
          | (exfalso; exact HSH.out ⟨by omega, by omega⟩)
          | (go_ret2
             exact ⟨none, 0, 0, rfl, ⟨rfl, World.ownsRow_nil _ _ _ _⟩, ((B1.alloc B1.size _).trans (b2.mono (by simp; have := B1.size; omega))).alloc (by have := B1.size; have := b2.size; simp at this; omega) _⟩)
end Go.Proofs.Ytieehdhinponcaa

namespace Go.Proofs.Ytieehdhinponcaa
open Go.RowKit Go.Maps
set_option linter.unusedVariables false

theorem und_map : Try.prog.underlying 55 = some (.map 9 63) := by kernel_rfl
theorem keyed : Keyed Try.prog 9 := string_keyed und_string

/-- A key in a map; how its halves read. -/
def litK (k : List Nat) : Lit := .string (str k).data.toList
def halfD (x y : Int) : DataW Unit := .agg [.lit (.int .u32 x), .lit (.int .u32 y)]
def halfR (v : Value) : Option (DataW Unit × List MemPlace) :=
  match v with
  | .agg ⟨[.int .u32 x, .int .u32 y]⟩ => some (halfD x y, [])
  | _ => none
theorem halfR_inv (v : Value) (y : DataW Unit × List MemPlace) (h : halfR v = some y) : ∃ c : Int × Int, v = .agg #[.int .u32 c.1, .int .u32 c.2] ∧ y = (halfD c.1 c.2, []) := by
  unfold halfR at h
  split at h
  · rename_i a b
    cases h
    exact ⟨(a, b), rfl, rfl⟩
  · cases h
theorem litK_key (k : List Nat) : WideAt.IsKeyLit (litK k) := trivial
theorem litK_inj {a b : List Nat} (ha : Bys a) (hb : Bys b) (h : litK a = litK b) : a = b := by
  unfold litK at h
  simp only [Lit.string.injEq] at h
  apply str_inj ha hb
  have e2 := Array.toList_inj.1 h
  cases hx : str a; cases hy : str b
  rw [hx, hy] at e2
  simp_all
theorem str_size (bs : List Nat) : (str bs).size = bs.length := by
  show (str bs).data.size = _
  simp [str, strOfNums]
theorem keyOf_str (k : List Nat) (hk : k.length ≤ 281474976710656) : keyOf Try.prog 9 (.string (str k)) = some (litK k) :=
  WideMaps.keyOf_string_mk und_string (by rw [str_size]; unfold maxLen; omega)

/-- What the map holds: each key once, with its hash. -/
def MapP (D : DataW Unit) (ks : List (List Nat)) : Prop :=
  Tidy D ∧ (∀ kl, Maps.has D kl = ks.any fun k => (litK k).sameKey kl) ∧ (∀ k ∈ ks, ∀ z, D.atKey (litK k) z = halfD ((hX k : Nat) : Int) ((hL k : Nat) : Int)) ∧ Maps.size D = (uniq ks).length

theorem mapP_nil : MapP (.map []) [] := ⟨tidy_empty, fun kl => rfl, fun k hk => (by cases hk), rfl⟩
theorem MapP.put {D : DataW Unit} {ks : List (List Nat)} (h : MapP D ks) (hb : ∀ k ∈ ks, Bys k) {k : List Nat} (hk : Bys k) :
    MapP (D.put (litK k) (halfD ((hX k : Nat) : Int) ((hL k : Nat) : Int))) (ks ++ [k]) := by
  obtain ⟨h1, h2, h3, h4⟩ := h
  have hmem : Maps.has D (litK k) = decide (k ∈ ks) := by
    rw [h2, Bool.eq_iff_iff]
    simp only [List.any_eq_true, decide_eq_true_eq]
    constructor
    · rintro ⟨x, hx, e⟩
      rw [WideAt.sameKey_iff (litK_key k)] at e
      rw [← litK_inj (hb x hx) hk e]
      exact hx
    · intro hx
      exact ⟨k, hx, WideAt.sameKey_self (litK_key k)⟩
  refine ⟨h1.put (litK_key k) _, fun kl => ?_, fun x hx z => ?_, ?_⟩
  · rw [List.any_append]
    by_cases e : kl = litK k
    · subst e
      rw [has_put_same h1.isMap (litK_key k)]
      simp [WideAt.sameKey_self (litK_key k)]
    · rw [has_put_other e, h2]
      have : (litK k).sameKey kl = false := sameKey_ne (fun h => e h.symm)
      simp [this]
  · by_cases e : x = k
    · subst e
      exact atKey_put_same h1.isMap (litK_key x) _ _
    · have hx2 : x ∈ ks := by simpa [e] using hx
      rw [atKey_put_other (fun h => e (litK_inj (hb x hx2) hk h))]
      exact h3 x hx2 z
  · rw [size_put h1, hmem, uniq_snoc]
    unfold addK
    by_cases e : k ∈ ks
    · simp [e, mem_uniq, h4]
    · simp [e, mem_uniq, h4]

/-- A store into the map, in whatever order a statement is carried out. -/
theorem wp_mapUpdate {a : Act} {w : World} {K : Act → World → Prop} {Q : Exit → Act → World → Prop} {ps : String} {af : Array Edge} {m x v : Nat} {b n : Nat} {D : DataW Unit} {k : List Nat}
    (hown : w.ownsMap Try.prog 9 halfR b n D) (hn : n < maxLen) (hk : k.length ≤ 281474976710656) {p q : Int}
    (hm : a.eval (.tmp m) = .map (some b)) (hx : a.eval (.tmp x) = .string (str k)) (hv : a.eval (.tmp v) = .agg #[.int .u32 p, .int .u32 q])
    (h : ∀ w', w'.ownsMap Try.prog 9 halfR b (n + 1) (D.put (litK k) (halfD p q)) → w.grownBy w' (some b) → K (a.put none undef) w') :
    Oper.wp Try.prog { dst := none, op := Op.mapUpdate 55 (Operand.tmp m) (Operand.tmp x) (Operand.tmp v), type := 0, pos := ps, after := af, guard := none } a w K Q := by
  obtain ⟨w', hrun, r1, r2⟩ := hown.update keyed und_map hn (keyOf_str k hk) (show halfR (.agg #[.int .u32 p, .int .u32 q]) = some (halfD p q, []) from rfl)
  unfold Oper.wp
  simp [execOp, hm, hx, hv, hrun, Result.andThen]
  exact h w' r1 r2

set_option maxRecDepth 100000 in
set_option maxHeartbeats 2000000 in
theorem hashes_any {v : Value} {ks : List (List Nat)} {w : World} (hp : RdP w v ks) (hn : ks.length ≤ 1048576) :
    Calls Try.prog 33 #[v] w fun e w' => ∃ b n D, e = .returned (.map (some b)) ∧ w.heap.size ≤ b ∧ w'.ownsMap Try.prog 9 halfR b n D ∧ MapP D ks ∧ Below w.heap.size w w' := by
  obtain ⟨hn48, a, cap, rfl, hp⟩ := hp
  have hmm := @run_makeMap Try.prog
  have HP : Hid (ks = [] ∨ ∃ b off, a = some ⟨b, off, none⟩ ∧ ∀ i, i < ks.length → ∃ u, w.cell? ⟨b, off + i, none⟩ = some u ∧ Rd w u (ks.getD i [])) := hp
  have HB : Hid (∀ k ∈ ks, Bys k) := by
    intro k hk
    rcases hp with rfl | ⟨b, off, rfl, hc⟩
    · cases hk
    · obtain ⟨i, hi, rfl⟩ := List.mem_iff_getElem.1 hk
      obtain ⟨u, _, hr⟩ := hc i hi
      have := hr.1
      rwa [show ks.getD i [] = ks[i] by simp [List.getD, hi]] at this
  obtain ⟨N, hN⟩ : ∃ N, N = ks.length := ⟨_, rfl⟩
  rw [← hN] at hn hn48 HP ⊢
  have HN : Hid (N = ks.length) := hN
  clear hN hp
  have hm0 : Hid ((w.alloc (.map #[] 0)).ownsMap Try.prog 9 halfR w.heap.size 0 (.map []) ∧ Below w.heap.size w (w.alloc (.map #[] 0))) := ⟨World.ownsMap_made w Try.prog 9 halfR, (Below.refl _ _).alloc (Nat.le_refl _) _⟩
  go_enter Try.func33, Try.ntmps33
  go_wp2
  go_loopw [9] (fun i wr => ∃ k : Nat, k ≤ N ∧ i = .int .i64 (k : Int) ∧ Hid (∃ n D, n ≤ k ∧ wr.ownsMap Try.prog 9 halfR w.heap.size n D ∧ MapP D (ks.take k) ∧ Below w.heap.size w wr)) (fun i _ => N - (intOf i).toNat)
  case atStart => exact ⟨0, Nat.zero_le _, rfl, 0, .map [], Nat.le_refl _, hm0.out.1, mapP_nil, hm0.out.2⟩
  case round =>
    obtain ⟨k, hk, rfl, HI⟩ := hrel
    by_cases hlt : k < N
    · have hlt2 : (k : Int) < (N : Int) := by omega
      obtain ⟨n, D, hnk, hown, hmp, hbw⟩ := HI.out
      rcases HP.out with h0 | ⟨b, off, rfl, hc⟩
      · have := HN.out; rw [h0] at this; simp at this; omega
      obtain ⟨u, hu, hru⟩ := hc k hlt
      have hu2 := (hbw.cell (p := ⟨b, off + k, none⟩) (World.block_lt_of_cell? _ _ hu)).trans hu
      have hru2 := hru.later hbw
      obtain ⟨au, nu, cu, rfl⟩ : ∃ a n cap, u = .slice a n cap := by obtain ⟨_, a1, c1, h2, _⟩ := hru; exact ⟨_, _, _, h2⟩
      obtain ⟨ky, hky⟩ : ∃ ky, ky = ks.getD k [] := ⟨_, rfl⟩
      rw [← hky] at hru2
      have hkl : ky.length ≤ 281474976710656 := by obtain ⟨_, a1, c1, h2, h3, h4, h5, _⟩ := hru2; exact h5
      have RU : Hid (∀ wx, Below wr.heap.size wr wx → Rd wx (.slice au nu cu) ky) := fun wx hx => hru2.later hx
      have HM : Hid (wr.ownsMap Try.prog 9 halfR w.heap.size n D ∧ MapP D (ks.take k) ∧ Below w.heap.size w wr ∧ ky = ks.getD k [] ∧ n ≤ k) := ⟨hown, hmp, hbw, hky, hnk⟩
      have RW : Hid (Rd w (.slice au nu cu) ky) := by rw [hky]; exact hru
      clear hown hmp hbw hky hru hru2 hc hu HI
      have D0 : Below wr.heap.size wr wr.drew := (Below.refl _ _).drew
      go_wp2
      have cv : Hid (∀ wx, Below wr.heap.size wr wx → (convert 24 9 (.slice au nu cu)).run Try.prog wx = .ok (.string (str ky)) wx) := fun wx hx => conv_str (RU.out wx hx)
      refine wp_region_noPanic ?_
      refine wp_region_held_drew (S := fun wx => (convert 24 9 (.slice au nu cu)).run Try.prog wx = .ok (.string (str ky)) wx) (by kernel_rfl) (cv.out _ D0) (fun hHeld => ?_)
      refine wpAnyH_take (i := 0) (oi := { dst := some 13, op := _, type := _, pos := _, after := _, guard := _ }) (v := .map (some w.heap.size)) rfl (by kernel_rfl) (by kernel_rfl) (by kernel_rfl) (fun _ _ _ h => h) (Or.inl ⟨by kernel_rfl, fun wy hy => by go_simp⟩) (by assumption) ?_
      try simp only [Act.put, List.setIfInBounds_toArray, List.set_cons_zero, List.set_cons_succ]
      refine wpAnyH_take (i := 1) (oi := { dst := some 14, op := _, type := _, pos := _, after := _, guard := _ }) (v := .slice au nu cu) rfl (by kernel_rfl) (by kernel_rfl) (by kernel_rfl) (fun _ _ _ h => h) (Or.inl ⟨by kernel_rfl, fun wy hy => by go_simp⟩) (by assumption) ?_
      try simp only [Act.put, List.setIfInBounds_toArray, List.set_cons_zero, List.set_cons_succ]
      refine wpAnyH_take (i := 2) (oi := { dst := some 15, op := _, type := _, pos := _, after := _, guard := _ }) (v := .string (str ky)) rfl (by kernel_rfl) (by kernel_rfl) (by kernel_rfl) (fun _ _ _ h => h) (Or.inl ⟨by kernel_rfl, fun wy hy => by go_simp⟩) (by assumption) ?_
      try simp only [Act.put, List.setIfInBounds_toArray, List.set_cons_zero, List.set_cons_succ]
      refine wpAnyH_take (i := 3) (oi := { dst := some 16, op := _, type := _, pos := _, after := _, guard := _ }) (v := .slice au nu cu) rfl (by kernel_rfl) (by kernel_rfl) (by kernel_rfl) (fun _ _ _ h => h) (Or.inl ⟨by kernel_rfl, fun wy hy => by go_simp⟩) (by assumption) ?_
      try simp only [Act.put, List.setIfInBounds_toArray, List.set_cons_zero, List.set_cons_succ]
      refine wpAnyH_ready (rs := [4]) (by kernel_rfl) (by simp) ?_
      refine AllReadyH.cons (o := { dst := some 17, op := _, type := _, pos := _, after := _, guard := _ }) rfl (fun K hK => ?_) AllReadyH.nil
      go_simp
      go_at_call 39
      refine Calls.mono (hash_any (RU.out _ D0)) ?_
      rintro e1 w1 ⟨rfl, b1⟩
      have b1' : Below wr.heap.size wr w1 := D0.trans b1
      go_wp2_with fail
      refine hK.out _ _ (cv.out _ b1') (fun hHeld => ?_)
      clear hK K
      try simp only [Act.put, List.setIfInBounds_toArray, List.set_cons_zero, List.set_cons_succ]
      refine wpAnyH_ready (rs := [5]) (by kernel_rfl) (by simp) ?_
      refine AllReadyH.cons (o := { dst := none, op := _, type := _, pos := _, after := _, guard := _ }) rfl (fun K hK => ?_) AllReadyH.nil
      have hown1 : w1.ownsMap Try.prog 9 halfR w.heap.size n D := by
        obtain ⟨es, clock, h1, h2⟩ := HM.out.1
        exact ⟨es, clock, (b1'.block _ HM.out.1.lt).trans h1, h2⟩
      refine wp_mapUpdate (b := w.heap.size) (n := n) (D := D) (k := ky) (p := ((hX ky : Nat) : Int)) (q := ((hL ky : Nat) : Int)) hown1 (by have := HM.out.2.2.2.2; unfold maxLen; omega) hkl rfl rfl rfl ?_
      intro w2 own2 gr2
      have b2 : Below w.heap.size w w2 := (HM.out.2.2.1.trans (b1'.mono HM.out.2.2.1.size)).grown gr2 (Nat.le_trans HM.out.2.2.1.size b1'.size) (fun k hk => by cases hk; exact Nat.le_refl _)
      have cv2 : (convert 24 9 (.slice au nu cu)).run Try.prog w2 = .ok (.string (str ky)) w2 := conv_str (RW.out.later b2)
      refine hK.out _ _ cv2 (fun hHeld => ?_)
      clear hK K
      try simp only [Act.put]
      refine wpAnyH_done (by kernel_rfl) ?_ _
      refine NoPanic.normal ?_
      go_wp2
      refine ⟨⟨k + 1, by omega, by go_num, n + 1, _, by have := HM.out.2.2.2.2; omega, own2, ?_, b2⟩, by simp [intOf]; omega⟩
      have hkN : k < ks.length := by rw [← HN.out]; exact hlt
      have e : ks.take (k + 1) = ks.take k ++ [ky] := by
        rw [List.take_succ_eq_append_getElem hkN, HM.out.2.2.2.1]
        simp [List.getD, hkN]
      rw [e]
      exact HM.out.2.1.put (fun x hx => HB.out x (List.mem_of_mem_take hx)) RW.out.1
    · go_wp2
      go_ret
      obtain ⟨n, D, hnk, hown, hmp, hbw⟩ := HI.out
      have e : ks.take k = ks := List.take_of_length_le (by rw [← HN.out]; omega)
      rw [e] at hmp
      exact ⟨w.heap.size, n, D, rfl, Nat.le_refl _, hown, hmp, hbw⟩
end Go.Proofs.Ytieehdhinponcaa
