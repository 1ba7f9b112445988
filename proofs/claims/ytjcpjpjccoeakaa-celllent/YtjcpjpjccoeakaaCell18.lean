import Derived.Test.YtjcpjpjccoeakaaJ12
import Derived.Test.YtjcpjpjccoeakaaJ13
import Derived.Deep.RegionHeld3
namespace Go.Proofs.Ytjcpjpjccoeakaa
open Go.RowKit
set_option linter.unusedVariables false

/-- append(own, x...), at an operation. -/
theorem appendR {w : World} {o : Oper} {a : Act} {K : Act → World → Prop} {Q : Exit → Act → World → Prop} (s x : Operand)
    (ho : o.op = .call { callee := .builtin .append, args := #[s, x], argTypes := #[33, 33] })
    (B : Nat) (a0 : Option Addr) (m0 c0 : Nat) (acc : List Nat) (hs : a.eval s = .slice a0 m0 c0) (hown : Own w B (.slice a0 m0 c0) m0 acc)
    (ad : Addr) (m c : Nat) (bs : List Nat) (hx : a.eval x = .slice (some ad) m c) (hrd : Rd w (.slice (some ad) m c) bs)
    (hbytes : m0 + m ≤ 140737488355328) (hB : B ≤ w.heap.size)
    (h : ∀ a' m' c' w', Own w' B (.slice a' m' c') m' (acc ++ bs) → Below B w w' → K (a.put o.dst (.slice a' m' c')) w') : o.wp Try.prog a w K Q := by
  obtain ⟨i0, hi, hz0, hz1, hz2⟩ := info_parts info_byte
  obtain ⟨hby, a1, c1, h2, hle, hm, hl48, hnone, hat⟩ := hrd
  simp only [Value.slice.injEq] at h2
  obtain ⟨rfl, rfl, rfl⟩ := h2
  refine wp_append_own _ s x 33 ho B 5 i0 (.int .u8 0) 1 1 und_bytes hi hz0 hz1 hz2 rfl (by decide) _ m0 (bv acc) hs hown.2 ad bs.length c (bv bs) hx (by simp [bv]) hat.add (bv_oneCell bs) (by unfold maxLen; omega) (by omega) hB ?_
  intro v' w' h1 h2 _
  obtain ⟨a', c', rfl⟩ := own_form h1
  refine h a' _ c' w' ⟨by rw [hown.1]; simp, by simpa [bv] using h1⟩ ((Below.refl B w).grown h2 hB (fun k hk => (hown.2.lt k hk).1))
theorem bytesL_pos (l : List Nat) : 1 ≤ (bytesL l).length := by
  have := uintL_len l.length
  simp [bytesL]; omega
theorem bytesL_bys {l : List Nat} (h : Bys l) (hl : l.length < 18446744073709551616) : Bys (bytesL l) := Bys.app (uintL_bys _ hl) h
theorem bytesL_le (l : List Nat) : (bytesL l).length ≤ l.length + 10 := by
  have := uintL_len l.length
  simp [bytesL]; omega
theorem own_some {w : World} {B m c : Nat} {a : Option Addr} {xs : List Nat} (h : Own w B (.slice a m c) m xs) (hp : 1 ≤ xs.length) : ∃ ad, a = some ad := by
  rcases h.2.2 with ⟨h1, h2⟩ | ⟨g, cap, cur, h1, _⟩
  · have := h.1; omega
  · simp only [Value.slice.injEq] at h1
    exact ⟨_, h1.1⟩

/-- What Pack writes. -/
def packL (e : EntD) : List Nat := bytesL (keyL e) ++ bytesL e.val

set_option maxRecDepth 100000 in
set_option maxHeartbeats 4000000 in
theorem pack_ok {e : EntD} {w : World} (hok : EntD.Ok w e) (hc : checkS e = 0) :
    Calls Try.prog 27 #[.agg e.cells] w fun r w' => ∃ a m c, r = .returned (.tuple #[.slice a m c, .int .i64 0]) ∧ Own w' w.heap.size (.slice a m c) m (packL e) ∧ Below w.heap.size w w' := by
  have hvl : e.val.length ≤ 4096 := (check_facts hc).2.2.2.2.2.2.2.1
  have A1 := (Below.refl w.heap.size w).alloc (Nat.le_refl _) (.cells e.cells 35)
  have bx1 : Hid (EBox (w.alloc (.cells e.cells 35)) w.heap.size e) := EBox.new w e
  have c1 := key_ok (hok.later A1) hc
  have HC1 : Hid (Calls _ _ _ _ _) := c1
  have HKL : Hid (Bys (keyL e) ∧ (keyL e).length ≤ 2000) := ⟨keyL_bys hok.1.1 hok.2.1.1 hc, keyL_len hc⟩
  have HV : Hid (Rd w e.vv e.val ∧ e.val.length ≤ 4096) := ⟨hok.2.2, hvl⟩
  obtain ⟨av, mv, cv, ev⟩ := rd_slice hok.2.2
  have HEV : Hid (e.vv = .slice av mv cv) := ev
  clear c1 hc hok hvl ev
  simp only [EntD.cells] at *
  go_enter Try.func27, Try.ntmps27
  go_wp2_with fail
  refine HC1.out.mono ?_
  rintro e1 w2 ⟨a2, m2, c2, rfl, own2, hb2⟩
  have B2 := A1.trans (hb2.mono A1.size)
  have bx2 : Hid (EBox w2 w.heap.size e) := bx1.out.later hb2
  have R2 : Hid (Rd w2 (.slice a2 m2 c2) (keyL e)) := own2.rd HKL.out.1 (by rw [own2.1]; have := HKL.out.2; omega)
  clear own2 hb2 bx1 HC1 A1
  have D0 : Below w2.heap.size w2 w2.drew := (Below.refl _ _).drew
  have KS : Hid (∀ wx, Below w2.heap.size w2 wx → wx.cell? ⟨w.heap.size, 6, none⟩ = some (.slice av mv cv)) := fun wx hx => by rw [(bx2.out.later hx).vv, HEV.out]
  have RV : Hid (∀ wx, Below w2.heap.size w2 wx → Rd wx (.slice av mv cv) e.val) := fun wx hx => by
    have := (HV.out.1.later B2).later hx
    rw [HEV.out] at this
    exact this
  go_wp2_with fail
  go_region_held3 (fun wx => wx.cell? ⟨w.heap.size, 6, none⟩ = some (.slice av mv cv)) (first | exact KS.out _ D0 | exact KS.out _ D1 | exact KS.out _ D2 | exact KS.out _ D3)
    (first
      | (go_at_call 64; refine (bytes_any (R2.out.later D0) (by have := HKL.out.2; omega)).mono ?_; rintro e3 w3 ⟨a3, m3, c3, rfl, own3, hb3⟩; have D1 := D0.trans (hb3.mono D0.size); clear D0)
      | (go_at_call 64; refine (bytes_any (RV.out _ D1) (by have := HV.out.2; omega)).mono ?_; rintro e4 w4 ⟨a4, m4, c4, rfl, own4, hb4⟩; have D2 := D1.trans (hb4.mono D1.size); obtain ⟨ad4, rfl⟩ := own_some own4 (bytesL_pos _); have own34 := own3.later hb4; have r4 := own4.rd (bytesL_bys HV.out.1.1 (by have := HV.out.2; omega)) (by rw [own4.1]; have := bytesL_le e.val; have := HV.out.2; omega); have hm : m3 + m4 ≤ 140737488355328 := (by rw [own3.1, own4.1]; have := bytesL_le e.val; have := HV.out.2; have := bytesL_le (keyL e); have := HKL.out.2; omega); have hS : w2.drew.heap.size ≤ w4.heap.size := D2.size)
      | (rw [if_pos (by rfl)]; refine appendR (.tmp 15) (.tmp 18) rfl w2.drew.heap.size a3 m3 c3 _ rfl own34 ad4 m4 c4 _ rfl r4 hm hS ?_; intro a5 m5 c5 w5 own5 hb5; have D3 := D2.trans hb5))
  go_wp2
  go_ret2
  exact ⟨a5, m5, c5, rfl, own5.mono B2.size, B2.trans (D3.mono B2.size)⟩

set_option maxRecDepth 100000 in
set_option maxHeartbeats 4000000 in
theorem pack_bad {e : EntD} {w : World} (hok : EntD.Ok w e) (hc : checkS e ≠ 0) :
    Calls Try.prog 27 #[.agg e.cells] w fun r w' => r = .returned (.tuple #[.slice none 0 0, .int .i64 ((checkS e : Nat) : Int)]) ∧ Below w.heap.size w w' := by
  obtain ⟨C, hC⟩ : ∃ C, C = checkS e := ⟨_, rfl⟩
  have A1 := (Below.refl w.heap.size w).alloc (Nat.le_refl _) (.cells e.cells 35)
  have c1 := key_bad (hok.later A1) hc
  rw [← hC] at c1 hc ⊢
  have HC1 : Hid (Calls _ _ _ _ _) := c1
  have h0 : ((C : Int) != 0) = true := by simp; omega
  have h1 : ¬ ((C : Int) = 0) := by omega
  clear c1 hC hok
  simp only [EntD.cells] at *
  go_enter Try.func27, Try.ntmps27
  go_wp2_with fail
  refine HC1.out.mono ?_
  rintro e1 w1 ⟨rfl, hb1⟩
  have B1 := A1.trans (hb1.mono A1.size)
  go_wp2
  go_ret2
  exact ⟨rfl, B1⟩

/-- The data are the same. -/
def EntD.Same (a b : EntD) : Prop := a.fam = b.fam ∧ a.ts = b.ts ∧ a.seq = b.seq ∧ a.kind = b.kind ∧ a.row = b.row ∧ a.qual = b.qual ∧ a.val = b.val

set_option maxRecDepth 100000 in
set_option maxHeartbeats 4000000 in
theorem sameEntry_eq {a b : EntD} {w : World} (ha : EntD.Ok w a) (hb : EntD.Ok w b) (h : EntD.Same a b) :
    Calls Try.prog 26 #[.agg a.cells, .agg b.cells] w fun r w' => r = .returned (.bool true) ∧ Below w.heap.size w w' := by
  have A1 := (Below.refl w.heap.size w).alloc (Nat.le_refl _) (.cells a.cells 35)
  have A2 := A1.alloc A1.size (.cells b.cells 35)
  have bxa0 := (EBox.new w a).later ((Below.refl (w.alloc (.cells a.cells 35)).heap.size (w.alloc (.cells a.cells 35))).alloc (Nat.le_refl _) (.cells b.cells 35))
  have bxb0 := EBox.new (w.alloc (.cells a.cells 35)) b
  rw [World.size_alloc] at bxb0
  have HX : Hid (EBox _ w.heap.size a ∧ EBox _ (w.heap.size + 1) b ∧ Below w.heap.size w _) := ⟨bxa0, bxb0, A2⟩
  have HA : Hid (EntD.Ok w a) := ha
  have HB : Hid (EntD.Ok w b) := hb
  clear A1 A2 bxa0 bxb0 ha hb
  obtain ⟨e1, e2, e3, e4, e5, e6, e7⟩ := h
  obtain ⟨va, fa, qa, ta, sa, ka, wa, ra, la, ya⟩ := a
  obtain ⟨vb, fb, qb, tb, sb, kb, wb, rb, lb, yb⟩ := b
  simp only at e1 e2 e3 e4 e5 e6 e7
  subst e1 e2 e3 e4 e5 e6 e7
  simp only [EntD.cells] at *
  go_enter Try.func26, Try.ntmps26
  go_wp2_with fail
  refine (alike_same (HA.out.1.later HX.out.2.2) (HB.out.1.later HX.out.2.2)).mono ?_
  rintro e w1 ⟨rfl, hb1⟩
  have B1 := HX.out.2.2.trans (hb1.mono HX.out.2.2.size)
  have bxa1 : Hid (EBox w1 w.heap.size _) := HX.out.1.later hb1
  have bxb1 : Hid (EBox w1 (w.heap.size + 1) _) := HX.out.2.1.later hb1
  have x2 := bxa1.out.vq
  have y2 := bxb1.out.vq
  simp only at x2 y2
  clear HX hb1
  go_wp2_with fail
  refine (alike_same (HA.out.2.1.later B1) (HB.out.2.1.later B1)).mono ?_
  rintro e w2 ⟨rfl, hb2⟩
  have B2 := B1.trans (hb2.mono B1.size)
  have x6 := (bxa1.out.later hb2).vv
  have y6 := (bxb1.out.later hb2).vv
  simp only at x6 y6
  clear hb2 bxa1 bxb1 x2 y2 B1
  go_wp2_with fail
  refine (alike_same (HA.out.2.2.later B2) (HB.out.2.2.later B2)).mono ?_
  rintro e w3 ⟨rfl, hb3⟩
  go_wp2
  go_ret
  exact ⟨rfl, B2.trans (hb3.mono B2.size)⟩

end Go.Proofs.Ytjcpjpjccoeakaa
