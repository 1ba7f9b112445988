import Derived.Test.YtdkolihakmnpiaaDoorK21
import Derived.Test.YtdkolihakmnpiaaDoorRows
import Derived.ProofKit
import Derived.OpenShut
import Derived.Deep.DeepHandedRow
import Derived.Lib.LaidTab
import Derived.Deep.Slices
namespace Go.Proofs.YtdkolihakmnpiaaDoor
open Go.RowKit Go.Shelf
set_option linter.unusedVariables false

theorem cell_putN {W : World} {r : Nat} {o : Obj} (o' : Obj) {p : Addr} {v : Value} (ho : W.heap[r]? = some o) (hc : o.isCells = false) (h : W.cell? p = some v) : (W.putObj r o').cell? p = some v := by
  by_cases k : p.block = r
  · exfalso
    unfold World.cell? at h
    rw [k, ho] at h
    cases o <;> simp_all [Obj.isCells]
  · have : (W.putObj r o').heap[p.block]? = W.heap[p.block]? := World.putObj_heap_other k
    unfold World.cell? at *
    rw [this]; exact h
theorem Rd.putN {W : World} {r : Nat} {o : Obj} (o' : Obj) {v : Value} {bs : List Nat} (ho : W.heap[r]? = some o) (hc : o.isCells = false) (h : Rd W v bs) : Rd (W.putObj r o') v bs := by
  obtain ⟨h1, a, cap, h2, h3, h4, h5, h6, h7⟩ := h
  refine ⟨h1, a, cap, h2, h3, h4, h5, h6, ?_⟩
  rcases h7 with h | ⟨b, off, rfl, hk⟩
  · exact .inl h
  · exact .inr ⟨b, off, rfl, fun i hi => cell_putN o' ho hc (hk i hi)⟩
theorem EntD.Ok.putN {W : World} {r : Nat} {o : Obj} (o' : Obj) {e : EntD} (ho : W.heap[r]? = some o) (hc : o.isCells = false) (h : EntD.Ok W e) : EntD.Ok (W.putObj r o') e := ⟨h.1.putN o' ho hc, h.2.1.putN o' ho hc, h.2.2.putN o' ho hc⟩
theorem EBox.putN {W : World} {r g : Nat} {o : Obj} (o' : Obj) {e : EntD} (ho : W.heap[r]? = some o) (hc : o.isCells = false) (h : EBox W g e) : EBox (W.putObj r o') g e := by
  unfold EBox at *
  have k : g ≠ r := fun k => by
    rw [k, ho] at h
    cases h
    simp [Obj.isCells] at hc
  rw [World.putObj_heap_other k]; exact h
theorem Cell1B.keepB {w w' : World} {B g t : Nat} {v : Value} (h : Cell1B w g v t) (b : Below B w w') (hg : g < B) : Cell1B w' g v t := (b.block g hg).trans h
theorem Fb.set1 {w : World} {O : Nat → Prop} {g : Nat} (h : O g) (x : Value) : Fb w (w.setCell ⟨g, 0, none⟩ x) O := have b := (Below.refl g w).setCell (p := ⟨g, 0, none⟩) (Nat.le_refl _) x
  ⟨b.os, b.tape, b.output, b.size, fun k _ ho => Below.heap_setCell _ _ _ _ (by rintro rfl; exact ho h)⟩
theorem bup_cases {W W' X : World} {r : Int} {zs : List EntD} {a : Option Addr} {cap : Nat} {x : Ending} (hz : RdL5 X a cap zs) (hc : ∀ e ∈ zs, checkS e = 0) (hu : Up [] (kvL zs)) (h : BuP W r zs x W') :
    ∃ a m c E, x = .returned (.tuple #[.slice a m c, .int .i64 ((E : Nat) : Int)]) ∧ Below W.heap.size W W' ∧ E < 4294967296 ∧ (E = 0 → (1 ≤ r ∧ r ≤ 16) ∧ (bldS r.toNat Bs.zero zs).1 = 0 ∧ zs ≠ [] ∧ Rd W' (.slice a m c) (blockL (bldS r.toNat Bs.zero zs).2.es (bldS r.toNat Bs.zero zs).2.ps (kvL zs).length r.toNat)) := by
  obtain ⟨v2, E2, rfl, b2, h1, h2, h3, h4⟩ := h
  by_cases k : 1 ≤ r ∧ r ≤ 16
  · by_cases k0 : (bldS r.toNat Bs.zero zs).1 = 0
    · by_cases kz : zs = []
      · obtain ⟨e1, e2⟩ := h3 k k0 kz
        exact ⟨none, 0, 0, E2, by rw [e2], b2, by omega, fun h => by omega⟩
      · obtain ⟨e1, a2, m2, c2, rfl, own2⟩ := h4 k k0 kz
        refine ⟨a2, m2, c2, E2, rfl, b2, by omega, fun _ => ⟨k, k0, kz, ?_⟩⟩
        have hla := laid_of (r := r.toNat) (by omega) (by omega) k0 kz
        have hbn : (bldS r.toNat Bs.zero zs).2.n = (kvL zs).length := by rw [bldS_n _ _ _ k0, kvL_len]; simp [Bs.zero]
        have hby := hla.bys (hz.bys hc)
        rw [hbn] at own2
        refine own2.rd hby ?_
        have g1 := own2.1
        have g2 := hla.size
        rw [blockL_len] at g1
        omega
    · obtain ⟨e1, e2⟩ := h2 k k0
      refine ⟨none, 0, 0, E2, by rw [e2], b2, ?_, fun h => absurd (e1.symm.trans h) k0⟩
      rcases bld_up r.toNat zs Bs.zero hc hu with q | q <;> omega
  · obtain ⟨e1, e2⟩ := h1 k
    exact ⟨none, 0, 0, E2, by rw [e2], b2, by omega, fun h => by omega⟩
theorem wrapI5 (z : Int) (h0 : 0 ≤ z) (h1 : z < 9223372036854775808) : IntKind.i64.wrap z = z := by
  rw [IntKind.wrap_i64]
  omega
theorem wrap64I5 (z : Int) (h0 : 0 ≤ z) (h1 : z < 9223372036854775808) : wrap64 z = z := by unfold wrap64; omega
theorem up_take : ∀ (l : List (List Nat × List Nat)) (k : List Nat) (n : Nat), Up k l → Up k (l.take n)
  | [], k, n, h => by rw [List.take_nil]; exact h
  | kv :: t, k, 0, h => trivial
  | kv :: t, k, n + 1, h => ⟨h.1, up_take t _ n h.2⟩
theorem kvL_take (zs : List EntD) (n : Nat) : kvL (zs.take n) = (kvL zs).take n := by simp [kvL, List.map_take]
end Go.Proofs.YtdkolihakmnpiaaDoor

namespace Go.Proofs.YtdkolihakmnpiaaDoor
open Go.RowKit Go.Shelf
set_option linter.unusedVariables false
attribute [local go_sem] Oper.semAt_some

set_option maxRecDepth 100000 in
set_option maxHeartbeats 8000000 in
theorem blockBack_walk {W : World} {a : Option Addr} {cap : Nat} {l : List EntD} (r o : Int) (hr : RdL5 W a cap l) (ht : Tab W) :
    Calls Tryd.prog 3 #[.int .i64 r, .int .i64 o, .slice a l.length cap] W fun x w' => x = .returned (.bool true) ∧ Below W.heap.size W w' := by
  have HT := Lib.hid ht
  have A0 := (Below.refl W.heap.size W).alloc (Nat.le_refl _) (.cells #[.bool false] 4)
  have C0 : Cell1B (W.alloc (.cells #[.bool false] 4)) W.heap.size (.bool false) 4 := heap_alloc_new W _
  obtain ⟨X0, hX0⟩ : ∃ X0, X0 = W.alloc (.cells #[.bool false] 4) := ⟨_, rfl⟩
  rw [← hX0] at A0 C0
  have HX0 := Lib.hid hX0
  have HA0 := Lib.hid A0
  have HC0 := Lib.hid C0
  have HSo := Lib.hid (sorted5_any (hr.later A0))
  have hmx : Tryd.prog.follows .mixedOrders = true := by kernel_rfl
  clear ht hr A0 C0 hX0
  refine (callsIn_wide (n := 9)).1 ?_
  refine callsIn_of_wp_marks Tryd.func3 rfl trivial ?_ rfl
  simp only [Tryd.ntmps3, List.size_toArray, List.length_cons, List.length_nil, Nat.reduceAdd, Nat.reduceSub, Array.replicate_succ, Array.replicate_zero, List.push_toArray, List.append_toArray, List.nil_append, List.cons_append]
  gi_wp2_with fail
  rw [← HX0.out]
  clear HX0
  refine ⟨trivial, ?_⟩
  refine (callsIn_wide.2 HSo.out).mono ?_
  rintro z X1 ⟨am, m, cm, zs, rfl, hm, hrd, hck, hup, h80, b1⟩
  subst hm
  have B1 := HA0.out.trans (b1.mono HA0.out.size)
  have A1 := B1.alloc B1.size (.cells #[.slice am zs.length cm] 22)
  have C1 : Cell1B (X1.alloc (.cells #[.slice am zs.length cm] 22)) X1.heap.size (.slice am zs.length cm) 22 := heap_alloc_new X1 _
  have bx := (Below.refl X1.heap.size X1).alloc (Nat.le_refl _) (.cells #[.slice am zs.length cm] 22)
  have hgs : X0.heap.size ≤ X1.heap.size := b1.size
  have hg0 : W.heap.size < X0.heap.size := HC0.out.lt
  have C01 := (HC0.out.later b1).later bx
  obtain ⟨gl, hgl⟩ : ∃ gl, X1.heap.size = gl := ⟨_, rfl⟩
  obtain ⟨X2, hX2⟩ : ∃ X2, X2 = X1.alloc (.cells #[.slice am zs.length cm] 22) := ⟨_, rfl⟩
  have hrd2 := hrd.later bx
  rw [← hX2] at A1 C1 C01 hrd2
  rw [hgl] at C1
  obtain ⟨mz, hmz⟩ : ∃ mz, zs.length = mz := ⟨_, rfl⟩
  have HBu := Lib.hid (build_any r hrd2 (HT.out.later A1))
  rw [hmz] at HBu C1 hX2 ⊢
  have HMz := Lib.hid hmz
  have HX2 := Lib.hid hX2
  have HA2 := Lib.hid A1
  have HC1 := Lib.hid C1
  have HC2 := Lib.hid C01
  have HZ := Lib.hid (And.intro hrd2 (And.intro hck hup))
  have hmz80 : mz ≤ 80 := by omega
  have hgW : W.heap.size < gl := by omega
  have hbuf := C1.cell
  clear hrd hrd2 hck hup b1 HSo hmz hX2 C1 C01 A1 B1 bx HA0 hgs hg0
  gi_wp2_with fail
  rw [← HX2.out]
  clear HX2
  refine ⟨trivial, ?_⟩
  refine (callsIn_wide.2 HBu.out).mono ?_
  rintro z X3 ⟨v2, E2, rfl, b2, h1, h2, h3, h4⟩
  have HB3 := Lib.hid (HA2.out.trans (b2.mono HA2.out.size))
  have HTo := Lib.hid (fun (wx : World) (hx : Below W.heap.size W wx) => told5_any wx (HT.out.later hx))
  have HC1 := Lib.hid (HC1.out.later b2)
  have HC2 := Lib.hid (HC2.out.later b2)
  have HZ := Lib.hid (And.intro (HZ.out.1.later b2) HZ.out.2)
  have HBu3 : Hid (Below X2.heap.size X2 X3 ∧ (¬ (1 ≤ r ∧ r ≤ 16) → E2 = 1 ∧ v2 = .slice none 0 0) ∧ (1 ≤ r ∧ r ≤ 16 → (bldS r.toNat Bs.zero zs).1 ≠ 0 → E2 = (bldS r.toNat Bs.zero zs).1 ∧ v2 = .slice none 0 0) ∧ (1 ≤ r ∧ r ≤ 16 → (bldS r.toNat Bs.zero zs).1 = 0 → zs = [] → E2 = 54 ∧ v2 = .slice none 0 0) ∧ (1 ≤ r ∧ r ≤ 16 → (bldS r.toNat Bs.zero zs).1 = 0 → zs ≠ [] → E2 = 0 ∧ ∃ a m c, v2 = .slice a m c ∧ Own X3 X2.heap.size v2 m (blockL (bldS r.toNat Bs.zero zs).2.es (bldS r.toNat Bs.zero zs).2.ps (bldS r.toNat Bs.zero zs).2.n r.toNat))) := ⟨b2, h1, h2, h3, h4⟩
  have hbl : ∃ a m c, v2 = .slice a m c := by
    by_cases k : 1 ≤ r ∧ r ≤ 16
    · by_cases k0 : (bldS r.toNat Bs.zero zs).1 = 0
      · by_cases kz : zs = []
        · exact ⟨_, _, _, (h3 k k0 kz).2⟩
        · obtain ⟨-, x, y, z, e, -⟩ := h4 k k0 kz
          exact ⟨_, _, _, e⟩
      · exact ⟨_, _, _, (h2 k k0).2⟩
    · exact ⟨_, _, _, (h1 k).2⟩
  obtain ⟨a2, m2, c2, rfl⟩ := hbl
  have hE9 : E2 < 4294967296 := by
    by_cases k : 1 ≤ r ∧ r ≤ 16
    · by_cases k0 : (bldS r.toNat Bs.zero zs).1 = 0
      · by_cases kz : zs = []
        · have := (h3 k k0 kz).1; omega
        · have := (h4 k k0 kz).1; omega
      · have := (h2 k k0).1
        rcases bld_up r.toNat zs Bs.zero HZ.out.2.1 HZ.out.2.2 with q | q <;> omega
    · have := (h1 k).1; omega
  clear h1 h2 h3 h4 b2 HBu HA2 hbuf
  gi_wp2_with fail
  refine ⟨trivial, ?_⟩
  refine (callsIn_wide.2 (HTo.out _ HB3.out)).mono ?_
  rintro z X4 ⟨rfl, b3⟩
  have HB4 := Lib.hid (HB3.out.trans (b3.mono HB3.out.size))
  have HC1 := Lib.hid (HC1.out.later b3)
  have HC2 := Lib.hid (HC2.out.later b3)
  have HZ := Lib.hid (And.intro (HZ.out.1.later b3) HZ.out.2)
  have HB34 := Lib.hid b3
  have bc := HC1.out.cell
  have rc := HC2.out.cell
  have rf := HC2.out.fz
  clear b3
  by_cases hE : E2 = 0
  · subst hE
    have hrr : 1 ≤ r ∧ r ≤ 16 := by
      by_cases k : 1 ≤ r ∧ r ≤ 16
      · exact k
      · have := (HBu3.out.2.1 k).1; omega
    have hb0 : (bldS r.toNat Bs.zero zs).1 = 0 := by
      by_cases k : (bldS r.toNat Bs.zero zs).1 = 0
      · exact k
      · have := (HBu3.out.2.2.1 hrr k).1; omega
    have hne : zs ≠ [] := fun k => by have := (HBu3.out.2.2.2.1 hrr hb0 k).1; omega
    obtain ⟨-, a2', m2', c2', hv2, own2⟩ := HBu3.out.2.2.2.2 hrr hb0 hne
    have hla := laid_of (r := r.toNat) (by omega) (by omega) hb0 hne
    have hbn : (bldS r.toNat Bs.zero zs).2.n = (kvL zs).length := by rw [bldS_n _ _ _ hb0, kvL_len]; simp [Bs.zero]
    have hby := hla.bys (HZ.out.1.bys HZ.out.2.1)
    simp only [Value.slice.injEq] at hv2
    obtain ⟨rfl, rfl, rfl⟩ := hv2
    rw [hbn] at own2
    obtain ⟨E, hEE⟩ : ∃ E, E = (bldS r.toNat Bs.zero zs).2.es := ⟨_, rfl⟩
    obtain ⟨P, hPP⟩ : ∃ P, P = (bldS r.toNat Bs.zero zs).2.ps := ⟨_, rfl⟩
    have HEP := Lib.hid (And.intro hEE (And.intro hPP (And.intro hb0 hne)))
    rw [← hEE, ← hPP] at own2 hla hby
    obtain ⟨F, hF⟩ : ∃ F, F = blockL E P (kvL zs).length r.toNat := ⟨_, rfl⟩
    rw [← hF] at own2 hby
    have HO2 := Lib.hid (own2.later HB34.out)
    have HLa := Lib.hid (And.intro hla (And.intro hF hby))
    have hmz0 : 0 < mz := by
      rw [← HMz.out]
      exact List.length_pos_iff.2 hne
    obtain ⟨bz, oz, ham⟩ : ∃ bz oz, am = some ⟨bz, oz, none⟩ := by
      rcases HZ.out.1.at_ with k | ⟨bz, oz, k, -⟩
      · exact absurd k hne
      · exact ⟨bz, oz, k⟩
    subst ham
    have HOp := Lib.hid (open_any (HO2.out.rd HLa.out.2.2 (by have h1 := HO2.out.1; have h2 := HLa.out.1.size; rw [HLa.out.2.1, blockL_len] at h1; omega)) (HT.out.later HB4.out))
    clear hb0 hne own2 hla hby hEE hPP hF hbn bc rc rf hE9
    gi_wp2_with fail
    refine ⟨trivial, ?_⟩
    refine (callsIn_wide.2 HOp.out).mono ?_
    rintro z X5 ⟨b5, h⟩
    obtain ⟨o1, o2, o3, o4, o5⟩ := HLa.out.1.opens
    rw [← HLa.out.2.1] at o1 o2 o3 o4 o5
    rcases h with h | h
    · exact absurd o1 h.1
    obtain ⟨-, g9, bb, ne, ce9, np, cp9, rfl, lk⟩ := h
    rw [o2, o3, o4, o5] at lk
    have HB5 := Lib.hid (HB4.out.trans (b5.mono HB4.out.size))
    have HC1 := Lib.hid (HC1.out.later b5)
    have HC2 := Lib.hid (HC2.out.later b5)
    have HZ := Lib.hid (And.intro (HZ.out.1.later b5) HZ.out.2)
    have HO5 := Lib.hid (HO2.out.later b5)
    have HLk := Lib.hid lk
    have hkl : ((kvL zs).length : Int) = (mz : Int) := by rw [kvL_len, HMz.out]
    have D0 : Below X5.heap.size X5 X5.drew := (Below.refl _ _).drew
    have HLn := Lib.hid (len5_any (lk.box.later D0))
    rw [hkl] at HLn
    have bc := HC1.out.cell
    clear b5 lk o1 o2 o3 o4 o5 HOp HO2 hkl HB34
    gi_wp2_with fail
    refine wpIn_wide.2 ?_
    go_region_held3 (fun w' => w'.cell? ⟨gl, 0, none⟩ = some (.slice (some ⟨bz, oz, none⟩) mz cm)) (exact bc) (first | (go_at_call 11; refine HLn.out.mono ?_; rintro z w1 ⟨rfl, rfl⟩))
    have HB6 := Lib.hid (HB5.out.trans (D0.mono HB5.out.size))
    have HC1 := Lib.hid (HC1.out.later D0)
    have HC2 := Lib.hid (HC2.out.later D0)
    have HZ := Lib.hid (And.intro (HZ.out.1.later D0) HZ.out.2)
    have HO6 := Lib.hid (HO5.out.later D0)
    have HLk := Lib.hid (show Lk X5.drew X4.heap.size g9 r.toNat (kvL zs).length bb ne ce9 E P np cp9 from ⟨HLk.out.box.later D0, HLk.out.ents.later D0, HLk.out.pls.later D0, HLk.out.bg, HLk.out.bb, HLk.out.ne⟩)
    clear D0 HLn bc HB5 HO5
    obtain ⟨Y5, hY5⟩ : ∃ Y5, Y5 = X5.drew := ⟨_, rfl⟩
    rw [← hY5] at HB6 HC1 HC2 HZ HO6 HLk ⊢
    clear hY5
    gi_wp2_with fail
    refine ⟨trivial, ?_⟩
    refine (callsIn_wide.2 (all5_any (g := g9))).mono ?_
    rintro z W7 ⟨rfl, rfl⟩
    gi_wp2_with fail
    have A6 := (Below.refl Y5.heap.size Y5).alloc (Nat.le_refl _) (.cells #[.int .i64 0] 3)
    have A7 := A6.alloc A6.size (.cells #[.pointer (some ⟨g9, 0, none⟩)] 29)
    have q1 : Cell1B ((Y5.alloc (.cells #[.int .i64 0] 3)).alloc (.cells #[.pointer (some ⟨g9, 0, none⟩)] 29)) Y5.heap.size (.int .i64 0) 3 := Cell1B.later (heap_alloc_new Y5 _) ((Below.refl _ _).alloc (Nat.le_refl _) _)
    have q2 : Cell1B ((Y5.alloc (.cells #[.int .i64 0] 3)).alloc (.cells #[.pointer (some ⟨g9, 0, none⟩)] 29)) (Y5.heap.size + 1) (.pointer (some ⟨g9, 0, none⟩)) 29 := by
      have := heap_alloc_new (Y5.alloc (.cells #[.int .i64 0] 3)) (.cells #[.pointer (some ⟨g9, 0, none⟩)] 29)
      rwa [World.size_alloc] at this
    have q3 : (((Y5.alloc (.cells #[.int .i64 0] 3)).alloc (.cells #[.pointer (some ⟨g9, 0, none⟩)] 29))).heap.size = Y5.heap.size + 2 := by simp
    generalize ((Y5.alloc (.cells #[.int .i64 0] 3)).alloc (.cells #[.pointer (some ⟨g9, 0, none⟩)] 29)) = V at *
    have hg9 : g9 < Y5.heap.size := (Array.getElem?_eq_some_iff.1 HLk.out.box).1
    have hEn : E ≠ [] := by
      intro h
      have := HLa.out.1.few
      rw [h] at this
      exact HLa.out.1.some_ (List.eq_nil_of_length_eq_zero (by simpa using this))
    have hbb9 : bb < Y5.heap.size := World.block_lt_of_cell? _ _ (rd_cell HLk.out.ents 0 (by rw [(rd_lens HLk.out.ents).1]; exact List.length_pos_iff.2 hEn)).1
    have hseq := all_seq (i0 := Y5.heap.size) HLa.out.1 (show Lk V X4.heap.size g9 r.toNat (kvL zs).length bb ne ce9 E P np cp9 from ⟨HLk.out.box.later A7, HLk.out.ents.later A7, HLk.out.pls.later A7, HLk.out.bg, HLk.out.bb, HLk.out.ne⟩) q2 (by omega) (by omega) (by omega)
    have HA7 := Lib.hid A7
    have hglY : gl < Y5.heap.size := HC1.out.lt
    clear A6 A7 hEn q2
    refine range_t (w := V) rfl (enters_of Tryd.func32 (by kernel_rfl) rfl) (encs := fun x : EntD => #[.agg x.cells]) hseq (fun h k => h.trans k) (fun X o o' ho hc => Fb.of_grown (grownBy_putObj' X _ o') (fun i e => by cases e; exact .inr rfl)) (fun _ => rfl)
      (fun pre X => Below Y5.heap.size Y5 X ∧ Cell1B X Y5.heap.size (.int .i64 (pre.length : Int)) 3 ∧ V.heap.size ≤ X.heap.size)
      (fun c pre X => False)
      (fun s X h => h.2.2)
      (fun s X Z hX ⟨h1, h2, h3⟩ b => ⟨h1.trans (b.mono (by omega)), h2.keepB b (by omega), Nat.le_trans h3 b.size⟩)
      (fun c s X Z hX h b => h)
      ⟨HA7.out, q1, Nat.le_refl _⟩
      (fun pre x a' X => ∃ Bx, V.heap.size ≤ Bx ∧ EBox X Bx x ∧ YG (kvL zs) pre x X ∧ a' = { tmps := #[Value.int IntKind.i64 r, Value.int IntKind.i64 o, Value.slice a l.length cap, undef, undef, undef, Value.pointer (some ⟨W.heap.size, 0, none⟩), Value.pointer (some ⟨gl, 0, none⟩), Value.slice a2 m2 c2, Value.int IntKind.i64 0, Value.pointer (some ⟨g9, 0, none⟩), Value.int IntKind.i64 0, Value.pointer (some ⟨Y5.heap.size, 0, none⟩), .pointer (some ⟨Bx, 0, none⟩), undef, undef, undef, undef, Value.slice a l.length cap, Value.slice (some ⟨bz, oz, none⟩) mz cm, Value.tuple #[Value.slice a2 m2 c2, Value.int IntKind.i64 0], Value.int IntKind.i64 r, Value.slice (some ⟨bz, oz, none⟩) mz cm, Value.tuple #[Value.slice a2 m2 c2, Value.int IntKind.i64 0], Value.slice a2 m2 c2, Value.int IntKind.i64 0, Value.bool true, Value.bool false, Value.int IntKind.i64 0, Value.bool false, undef, undef, undef, undef, undef, undef, undef, undef, undef, undef, undef, undef, undef, undef, undef, Value.tuple #[Value.pointer (some ⟨g9, 0, none⟩), Value.int IntKind.i64 0], Value.slice a2 m2 c2, Value.tuple #[Value.pointer (some ⟨g9, 0, none⟩), Value.int IntKind.i64 0], Value.pointer (some ⟨g9, 0, none⟩), Value.int IntKind.i64 0, Value.int IntKind.i64 0, Value.bool false, Value.bool false, Value.pointer (some ⟨g9, 0, none⟩), Value.bool false, Value.bool false, Value.bool false, Value.pointer (some ⟨g9, 0, none⟩), Value.int IntKind.i64 (mz : Int), Value.slice (some ⟨bz, oz, none⟩) mz cm, Value.int IntKind.i64 (mz : Int), Value.bool false, Value.bool false, Value.pointer (some ⟨g9, 0, none⟩), Value.func (Fn.func 32) #[] #[Value.pointer (some ⟨Y5.heap.size + 1, 0, none⟩)], .agg x.cells, undef, undef, undef, undef, undef, undef, undef, undef, undef, undef, undef, undef, undef, undef, undef, undef, undef, undef, undef, undef, undef, undef, undef, undef, undef, undef, undef, undef, undef, undef, undef, undef, undef, undef, undef, undef, undef, undef, undef, undef, undef, undef, undef, undef, undef, undef, undef, undef, undef, undef, undef, undef, undef, undef, undef, undef], defers := [] })
      (fun pre x a' X o o' ho hc ⟨Bx, k0, k1, k2, k3⟩ => ⟨Bx, k0, k1.putN o' ho hc, ⟨k2.1, k2.2.1.putN o' ho hc, k2.2.2⟩, k3⟩)
      ?assign ?body ?done ?stop (fun c s X h => h.elim) (fun c s X h => h)
    case assign =>
      intro l' pre x X K hi hsX hgd hK
      obtain ⟨vr, fam, vq, ts, seq, kind, vv, row, qual, val⟩ := x
      have r1' : Rd X vr row := hgd.2.1.1
      have r2' : Rd X vq qual := hgd.2.1.2.1
      have r3' : Rd X vv val := hgd.2.1.2.2
      obtain ⟨ar, nr, cr, rfl⟩ := rd_slice r1'
      obtain ⟨aq, nq, cq, rfl⟩ := rd_slice r2'
      obtain ⟨av, nv, cv, rfl⟩ := rd_slice r3'
      have hbb := (Below.refl X.heap.size X).alloc (Nat.le_refl _) (.cells (EntD.mk (.slice ar nr cr) fam (.slice aq nq cq) ts seq kind (.slice av nv cv) row qual val).cells 37)
      have HIt : Hid (Below Y5.heap.size Y5 _ ∧ Cell1B _ Y5.heap.size (.int .i64 (pre.length : Int)) 3 ∧ V.heap.size ≤ _) := ⟨hi.1.trans (hbb.mono (by omega)), hi.2.1.later hbb, Nat.le_trans hi.2.2 hbb.size⟩
      have HYg : Hid (YG (kvL zs) pre _ _) := ⟨hgd.1, hgd.2.1.later hbb, hgd.2.2⟩
      have HKp : Hid (Fb X _ (fun k => k = Y5.heap.size ∨ k = V.heap.size + 1)) := Fb.of_below hbb
      have HX : Hid (EBox (X.alloc (.cells (EntD.mk (.slice ar nr cr) fam (.slice aq nq cq) ts seq kind (.slice av nv cv) row qual val).cells 37)) X.heap.size _) := EBox.new X _
      have hsX' : V.heap.size ≤ X.heap.size := by omega
      clear hbb hi hgd r1' r2' r3' hseq
      simp only [EntD.cells] at *
      gi_wp2
      exact hK _ _ ((KeepsOthers.alloc _ _).from _) HKp.out HIt.out ⟨X.heap.size, hsX', HX.out, HYg.out, rfl⟩
    case body =>
      rintro l' pre x a' X ⟨h1, h2, h3⟩ ⟨Bx, hBx, bx, hyg, rfl⟩
      obtain ⟨n, hn⟩ : ∃ n, n = pre.length := ⟨_, rfl⟩
      rw [← hn] at h2
      obtain ⟨⟨kv, hkv, hkx, hvx⟩, hxo, hxc⟩ := hyg
      rw [← hn] at hkv
      have hnl : n < zs.length := by
        have := (List.getElem?_eq_some_iff.1 hkv).1
        rwa [kvL_len] at this
      obtain ⟨y, hy⟩ : ∃ y, zs[n]? = some y := ⟨_, List.getElem?_eq_getElem hnl⟩
      have hym : y ∈ zs := List.mem_of_getElem? hy
      have hsame : EntD.Same x y := by
        have e := kvL_at hy
        rw [hkv] at e
        cases e
        exact same_key hxc (HZ.out.2.1 y hym) hkx hvx
      have hrdX := HZ.out.1.later h1
      have hcs : ∀ (j : Nat) u, y.cells.toList[j]? = some u → X.cell? ⟨bz, oz + n * 7 + j, none⟩ = some u := by
        rcases hrdX.at_ with k | ⟨b', o', e', hc'⟩
        · exact absurd k HEP.out.2.2.2
        · cases e'
          exact hc' n y hy
      have hnm : (n : Int) < (mz : Int) := by have := HMz.out; omega
      have hn0 : (0 : Int) ≤ (n : Int) := by omega
      have d1 : decide ((mz : Int) ≤ (n : Int)) = false := by simp; omega
      have d2 : decide (mz ≤ n) = false := by simp; omega
      have HWn : Hid (wrap64 ((n : Int) + 1) = (n : Int) + 1 ∧ IntKind.i64.wrap ((n : Int) + 1) = (n : Int) + 1) := ⟨wrap64I5 _ (by omega) (by omega), wrapI5 _ (by omega) (by omega)⟩
      have hyo : EntD.Ok X y := hrdX.ok y hym
      have HSe : Hid (∀ Z, Below X.heap.size X Z → Calls Tryd.prog 13 #[.agg #[x.vr, .int .i64 x.fam, x.vq, .int .i64 x.ts, .int .i64 x.seq, .int .i64 x.kind, x.vv], .agg #[y.vr, .int .i64 y.fam, y.vq, .int .i64 y.ts, .int .i64 y.seq, .int .i64 y.kind, y.vv]] Z fun r w' => r = .returned (.bool true) ∧ Below Z.heap.size Z w') := fun Z b => by
        refine (se_any (hxo.later b) (hyo.later b)).mono ?_
        rintro r w' ⟨rfl, hb⟩
        rw [decide_eq_true hsame]
        exact ⟨rfl, hb⟩
      have nc := h2.cell
      have wc := (HC1.out.keepB h1 hglY).cell
      obtain ⟨c0, c1, c2', c3, c4, c5, c6⟩ := (⟨bx.vr, bx.fam, bx.vq, bx.ts, bx.seq, bx.kind, bx.vv⟩ : _ ∧ _ ∧ _ ∧ _ ∧ _ ∧ _ ∧ _)
      have e0 := hcs 0 _ rfl
      have e1 := hcs 1 _ rfl
      have e2 := hcs 2 _ rfl
      have e3 := hcs 3 _ rfl
      have e4 := hcs 4 _ rfl
      have e5 := hcs 5 _ rfl
      have e6 := hcs 6 _ rfl
      have HI2 : Hid (Below Y5.heap.size Y5 X ∧ Cell1B X Y5.heap.size (.int .i64 (n : Int)) 3 ∧ V.heap.size ≤ X.heap.size ∧ n = pre.length) := ⟨h1, h2, h3, hn⟩
      have D0 : Below X.heap.size X X.drew := (Below.refl _ _).drew
      unfold EntD.cells
      simp only [Nat.add_zero] at e0
      clear h1 h2 hn hkv hkx hvx hxo hxc hy hym hsame hrdX hcs hyo bx hseq
      gi_wp2_with fail
      refine wpIn_mono (Q := fun e a' w' => match e with | .normal => a' = ({ tmps := #[Value.int IntKind.i64 r, Value.int IntKind.i64 o, Value.slice a l.length cap, undef, undef, undef, Value.pointer (some ⟨W.heap.size, 0, none⟩), Value.pointer (some ⟨gl, 0, none⟩), Value.slice a2 m2 c2, Value.int IntKind.i64 0, Value.pointer (some ⟨g9, 0, none⟩), Value.int IntKind.i64 0, Value.pointer (some ⟨Y5.heap.size, 0, none⟩), .pointer (some ⟨Bx, 0, none⟩), undef, undef, undef, undef, Value.slice a l.length cap, Value.slice (some ⟨bz, oz, none⟩) mz cm, Value.tuple #[Value.slice a2 m2 c2, Value.int IntKind.i64 0], Value.int IntKind.i64 r, Value.slice (some ⟨bz, oz, none⟩) mz cm, Value.tuple #[Value.slice a2 m2 c2, Value.int IntKind.i64 0], Value.slice a2 m2 c2, Value.int IntKind.i64 0, Value.bool true, Value.bool false, Value.int IntKind.i64 0, Value.bool false, undef, undef, undef, undef, undef, undef, undef, undef, undef, undef, undef, undef, undef, undef, undef, Value.tuple #[Value.pointer (some ⟨g9, 0, none⟩), Value.int IntKind.i64 0], Value.slice a2 m2 c2, Value.tuple #[Value.pointer (some ⟨g9, 0, none⟩), Value.int IntKind.i64 0], Value.pointer (some ⟨g9, 0, none⟩), Value.int IntKind.i64 0, Value.int IntKind.i64 0, Value.bool false, Value.bool false, Value.pointer (some ⟨g9, 0, none⟩), Value.bool false, Value.bool false, Value.bool false, Value.pointer (some ⟨g9, 0, none⟩), Value.int IntKind.i64 (mz : Int), Value.slice (some ⟨bz, oz, none⟩) mz cm, Value.int IntKind.i64 (mz : Int), Value.bool false, Value.bool false, Value.pointer (some ⟨g9, 0, none⟩), Value.func (Fn.func 32) #[] #[Value.pointer (some ⟨Y5.heap.size + 1, 0, none⟩)], .agg #[x.vr, .int .i64 x.fam, x.vq, .int .i64 x.ts, .int .i64 x.seq, .int .i64 x.kind, x.vv], .int .i64 (n : Int), .slice (some ⟨bz, oz, none⟩) mz cm, .int .i64 (mz : Int), .bool false, .bool false, .agg #[x.vr, .int .i64 x.fam, x.vq, .int .i64 x.ts, .int .i64 x.seq, .int .i64 x.kind, x.vv], .slice (some ⟨bz, oz, none⟩) mz cm, .int .i64 (n : Int), .pointer (some ⟨bz, oz + n * 7, none⟩), .agg #[y.vr, .int .i64 y.fam, y.vq, .int .i64 y.ts, .int .i64 y.seq, .int .i64 y.kind, y.vv], .bool true, .bool false, .bool false, undef, undef, undef, undef, undef, undef, undef, undef, undef, undef, undef, undef, undef, undef, undef, undef, undef, undef, undef, undef, undef, undef, undef, undef, undef, undef, undef, undef, undef, undef, undef, undef, undef, undef, undef, undef, undef, undef, undef, undef, undef, undef, undef], defers := [] } : Act) ∧ Below X.heap.size X w' | _ => False) ?_ ?_
      · gi_region_with_o (refine ⟨trivial, ?_⟩; gi_at_call 13; refine (CallsIn.inRound l' (callsIn_wide.2 (HSe.out _ D0))).mono ?_; rintro z w1 ⟨rfl, hb1⟩; have D1 := D0.trans (hb1.mono D0.size))
        all_goals exact ⟨rfl, D1⟩
      · rintro e a' Y hq
        cases e with
        | normal =>
          obtain ⟨rfl, hbY⟩ := hq
          have nc := (HI2.out.2.1.later hbY).cell
          have nf := (HI2.out.2.1.later hbY).fz
          have HEnd : Hid (KeepsFrom V.heap.size X (Y.setCell ⟨Y5.heap.size, 0, none⟩ (.int .i64 ((n : Int) + 1))) ∧ Fb X (Y.setCell ⟨Y5.heap.size, 0, none⟩ (.int .i64 ((n : Int) + 1))) (fun k => k = Y5.heap.size ∨ k = V.heap.size + 1) ∧ Below Y5.heap.size Y5 (Y.setCell ⟨Y5.heap.size, 0, none⟩ (.int .i64 ((n : Int) + 1))) ∧ Cell1B (Y.setCell ⟨Y5.heap.size, 0, none⟩ (.int .i64 ((n : Int) + 1))) Y5.heap.size (.int .i64 ((pre ++ [x]).length : Int)) 3 ∧ V.heap.size ≤ (Y.setCell ⟨Y5.heap.size, 0, none⟩ (.int .i64 ((n : Int) + 1))).heap.size) := by
            obtain ⟨z1, z2, z3, z4⟩ := HI2.out
            have hKO : KeepsOthers X (Y.setCell ⟨Y5.heap.size, 0, none⟩ (.int .i64 ((n : Int) + 1))) := ⟨by rw [World.size_setCell]; exact hbY.size, fun i o hi ho => (KeepsOthers.setCell Y ⟨Y5.heap.size, 0, none⟩ (.int .i64 ((n : Int) + 1))).same i o ((hbY.block i (Array.getElem?_eq_some_iff.1 hi).1).trans hi) ho⟩
            refine ⟨hKO.from _, (Fb.of_below hbY).trans (Fb.set1 (.inl rfl) _), (z1.trans (hbY.mono z1.size)).setCell (p := ⟨Y5.heap.size, 0, none⟩) (Nat.le_refl _) _, ?_, Nat.le_trans z3 hKO.size⟩
            have := (z2.later hbY).set (.int .i64 ((n : Int) + 1))
            rw [List.length_append, ← z4]
            exact this
          have hwn := HWn.out.1
          have hwn2 := HWn.out.2
          clear wc c0 c1 c2' c3 c4 c5 c6 e0 e1 e2 e3 e4 e5 e6 D0 HSe hbY d1 d2 HI2
          gi_wp2
          exact HEnd.out
        | panic c => exact hq.elim
        | ret => exact hq.elim
        | exit id => exact hq.elim
        | goto t => exact hq.elim
        | outgrown => exact hq.elim
    case done =>
      rintro D xs X hD hS ⟨h1, h2, h3⟩ hdf
      rw [hS, kvL_len, HMz.out] at h2
      have hrdX := HZ.out.1.later h1
      have BX := HB6.out.trans (h1.mono HB6.out.size)
      have HT6 := Lib.hid (HT.out.later BX)
      have HBX := Lib.hid BX
      have HBl := Lib.hid (HZ.out.2)
      have HRdX := Lib.hid hrdX
      have HF := Lib.hid (show Rd X (.slice a2 m2 c2) F from (HO6.out.rd HLa.out.2.2 (by have h1 := HO6.out.1; have h2 := HLa.out.1.size; rw [HLa.out.2.1, blockL_len] at h1; omega)).later h1)
      have HBu8 := Lib.hid (build_any o hrdX (HT.out.later BX))
      rw [HMz.out] at HBu8
      have HC1x := Lib.hid (HC1.out.keepB h1 hglY)
      have HC2x := Lib.hid (HC2.out.keepB h1 (by omega))
      have HC3x := Lib.hid h2
      have HDf := Lib.hid (And.intro hdf hD)
      have hXs : Y5.heap.size + 2 ≤ X.heap.size := by omega
      have wc := HC1x.out.cell
      clear h1 h2 hrdX BX hseq hdf hS q1 HA7 HO6 HLk HB6
      gi_wp2_with fail
      refine ⟨trivial, ?_⟩
      refine (callsIn_wide.2 HBu8.out).mono ?_
      rintro z X8 hbu
      obtain ⟨a8, m8, c8, E8, rfl, b8, hE8, h8⟩ := bup_cases HRdX.out HBl.out.1 HBl.out.2 hbu
      have HB8 := Lib.hid b8
      have HC1y := Lib.hid (HC1x.out.later b8)
      have HC2y := Lib.hid (HC2x.out.later b8)
      have HC3y := Lib.hid (HC3x.out.later b8)
      have hX8 : X.heap.size ≤ X8.heap.size := b8.size
      have HF8 := Lib.hid (HF.out.later b8)
      have HRd8 := Lib.hid (HRdX.out.later b8)
      have HBX8 := Lib.hid (HBX.out.trans (b8.mono HBX.out.size))
      have HDf8 := Lib.hid (show X8.heap[D]? = some (.deferred (some [])) from (b8.block D (Array.getElem?_eq_some_iff.1 HDf.out.1).1).trans HDf.out.1)
      have H8 := Lib.hid h8
      have wc := HC1y.out.cell
      have ic := HC3y.out.cell
      clear hbu b8 h8 HC1x HC2x HC3x HRdX HBX HBu8 HT6
      by_cases hE0 : E8 = 0
      · subst hE0
        obtain ⟨ho16, hb8, hz8, hrd8⟩ := H8.out rfl
        have HSa := Lib.hid (same5_any HF8.out hrd8)
        have hdec : decide (F = blockL (bldS o.toNat Bs.zero zs).2.es (bldS o.toNat Bs.zero zs).2.ps (kvL zs).length o.toNat) = decide (r = o) := by
          have hb := built_iff (r := r.toNat) (r' := o.toNat) (zs := zs) (by omega) (by omega) (by omega) (by omega) HEP.out.2.2.1 hb8 hz8
          rw [← HEP.out.1, ← HEP.out.2.1, ← HLa.out.2.1] at hb
          rw [decide_eq_decide, hb]
          omega
        rw [hdec] at HSa
        clear hdec hrd8 hb8 hz8
        gi_wp2_with fail
        refine ⟨trivial, ?_⟩
        refine (callsIn_wide.2 HSa.out).mono ?_
        rintro z X9 ⟨rfl, b9⟩
        have HC1z := Lib.hid (HC1y.out.later b9)
        have HC2z := Lib.hid (HC2y.out.later b9)
        have HFz := Lib.hid (HF8.out.later b9)
        have HRdz := Lib.hid (HRd8.out.later b9)
        have HBXz := Lib.hid (HBX8.out.trans (b9.mono HBX8.out.size))
        have HDfz := Lib.hid (show X9.heap[D]? = some (.deferred (some [])) from (b9.block D (Array.getElem?_eq_some_iff.1 HDf8.out).1).trans HDf8.out)
        clear b9 HSa H8 HF8 HRd8 HBX8 HDf8 HC1y HC2y wc ic
        by_cases hro : r = o
        · subst hro
          have hdr : decide (r = r) = true := by simp
          have hcm : mz ≤ cm := by have := HRdz.out.cap; have := HMz.out; omega
          have hlt : (zs.take (mz - 1)).length = mz - 1 := by rw [List.length_take, HMz.out]; omega
          have HRt := Lib.hid (HRdz.out.takeN (mz - 1))
          have HBu9 := Lib.hid (build_any r HRt.out (HT.out.later HBXz.out))
          rw [hlt] at HBu9
          obtain ⟨mk, hmk⟩ : ∃ mk, mk = mz - 1 := ⟨_, rfl⟩
          rw [← hmk] at HBu9 HRt hlt
          have hmz1 : mz = mk + 1 := by omega
          subst hmz1
          have hw1 : IntKind.i64.wrap ((mk : Int) + 1 - 1) = (mk : Int) := by rw [wrapI5] <;> omega
          have hw2 : ((mk : Int) + 1 - 1) = (mk : Int) := by omega
          have wcT := HC1z.out.cell
          have hcm2 : mk ≤ cm := by omega
          clear hmk HBu3
          gi_wp2_with fail
          refine ⟨trivial, ?_⟩
          refine (callsIn_wide.2 HBu9.out).mono ?_
          rintro z XA hbu
          obtain ⟨a9, m9, c9, E9, rfl, bA, hE9, h9⟩ := bup_cases HRt.out (fun e he => HBl.out.1 e (List.mem_of_mem_take he)) (by rw [kvL_take]; exact up_take _ _ _ HBl.out.2) hbu
          have H9 := Lib.hid h9
          have HFa := Lib.hid (HFz.out.later bA)
          have HC2e := Lib.hid (HC2z.out.later bA)
          have HBXe := Lib.hid (HBXz.out.trans (bA.mono HBXz.out.size))
          have HDfe := Lib.hid (show XA.heap[D]? = some (.deferred (some [])) from (bA.block D (Array.getElem?_eq_some_iff.1 HDfz.out).1).trans HDfz.out)
          clear hbu bA h9 wcT HC2z HBXz HDfz HFz HC1z HRdz hw1 hw2 HBu9 HRt
          by_cases hE90 : E9 = 0
          · subst hE90
            obtain ⟨-, hb9, hz9, hrd9⟩ := H9.out rfl
            have HSb := Lib.hid (same5_any HFa.out hrd9)
            have hdec : decide (F = blockL (bldS r.toNat Bs.zero (zs.take mk)).2.es (bldS r.toNat Bs.zero (zs.take mk)).2.ps (kvL (zs.take mk)).length r.toNat) = false := by
              have hk : zs.length - 1 = mk := by rw [HMz.out]; omega
              have hb := built_short (r := r.toNat) (zs := zs) (by omega) (by omega) HEP.out.2.2.1 HEP.out.2.2.2 (by rw [hk]; exact hb9) (by rw [hk]; exact hz9)
              rw [hk, ← HEP.out.1, ← HEP.out.2.1, ← HLa.out.2.1] at hb
              exact decide_eq_false hb
            rw [hdec] at HSb
            clear hdec hrd9 hb9 hz9 H9
            gi_wp2_with fail
            refine ⟨trivial, ?_⟩
            refine (callsIn_wide.2 HSb.out).mono ?_
            rintro z XB ⟨rfl, bB⟩
            have HC2e := Lib.hid (HC2e.out.later bB)
            have HBXe := Lib.hid (HBXe.out.trans (bB.mono HBXe.out.size))
            have HDfe := Lib.hid (show XB.heap[D]? = some (.deferred (some [])) from (bB.block D (Array.getElem?_eq_some_iff.1 HDfe.out).1).trans HDfe.out)
            clear bB HSb
            have hdf' : (XB.setCell ⟨W.heap.size, 0, none⟩ (.bool true)).heap[D]? = some (.deferred (some [])) := (Below.heap_setCell _ _ _ _ (by show _ ≠ W.heap.size; omega)).trans HDfe.out
            have hR : ((XB.setCell ⟨W.heap.size, 0, none⟩ (.bool true)).putObj D (.deferred none)).cell? ⟨W.heap.size, 0, none⟩ = some (.bool true) := Cell1B.cell (t := 4) ((World.putObj_heap_other (by omega)).trans (HC2e.out.set (.bool true)))
            have hBl : Below W.heap.size W ((XB.setCell ⟨W.heap.size, 0, none⟩ (.bool true)).putObj D (.deferred none)) := by
              have b5 := HBXe.out.setCell (p := ⟨W.heap.size, 0, none⟩) (Nat.le_refl _) (.bool true)
              exact b5.trans (below_putB (.deferred none) b5.size (by omega) hdf' rfl)
            have HLv := Lib.hid (And.intro hdf' (And.intro hR hBl))
            have rc := HC2e.out.cell
            have rf := HC2e.out.fz
            clear hdf' hR hBl
            gi_wp2
            refine ⟨by simp, .inl ⟨_, _, rfl, run_takeDeferred HLv.out.1, ?_⟩⟩
            refine ⟨.bool true, by simp [results, Tryd.results3, go_sem, HLv.out.2.1], rfl, HLv.out.2.2⟩
          · have hE9i : ¬ (E9 : Int) = 0 := by omega
            have hdf' : (XA.setCell ⟨W.heap.size, 0, none⟩ (.bool true)).heap[D]? = some (.deferred (some [])) := (Below.heap_setCell _ _ _ _ (by show _ ≠ W.heap.size; omega)).trans HDfe.out
            have hR : ((XA.setCell ⟨W.heap.size, 0, none⟩ (.bool true)).putObj D (.deferred none)).cell? ⟨W.heap.size, 0, none⟩ = some (.bool true) := Cell1B.cell (t := 4) ((World.putObj_heap_other (by omega)).trans (HC2e.out.set (.bool true)))
            have hBl : Below W.heap.size W ((XA.setCell ⟨W.heap.size, 0, none⟩ (.bool true)).putObj D (.deferred none)) := by
              have b5 := HBXe.out.setCell (p := ⟨W.heap.size, 0, none⟩) (Nat.le_refl _) (.bool true)
              exact b5.trans (below_putB (.deferred none) b5.size (by omega) hdf' rfl)
            have HLv := Lib.hid (And.intro hdf' (And.intro hR hBl))
            have rc := HC2e.out.cell
            have rf := HC2e.out.fz
            clear hdf' hR hBl
            gi_wp2_with fail
            refine ⟨trivial, ?_⟩
            gi_wp2
            refine ⟨by simp, .inl ⟨_, _, rfl, run_takeDeferred HLv.out.1, ?_⟩⟩
            refine ⟨.bool true, by simp [results, Tryd.results3, go_sem, HLv.out.2.1], rfl, HLv.out.2.2⟩
        · have hdr : decide (r = o) = false := by simp [hro]
          have hcm : mz ≤ cm := by have := HRdz.out.cap; have := HMz.out; omega
          have hlt : (zs.take (mz - 1)).length = mz - 1 := by rw [List.length_take, HMz.out]; omega
          have HRt := Lib.hid (HRdz.out.takeN (mz - 1))
          have HBu9 := Lib.hid (build_any r HRt.out (HT.out.later HBXz.out))
          rw [hlt] at HBu9
          obtain ⟨mk, hmk⟩ : ∃ mk, mk = mz - 1 := ⟨_, rfl⟩
          rw [← hmk] at HBu9 HRt hlt
          have hmz1 : mz = mk + 1 := by omega
          subst hmz1
          have hw1 : IntKind.i64.wrap ((mk : Int) + 1 - 1) = (mk : Int) := by rw [wrapI5] <;> omega
          have hw2 : ((mk : Int) + 1 - 1) = (mk : Int) := by omega
          have wcT := HC1z.out.cell
          have hcm2 : mk ≤ cm := by omega
          clear hmk HBu3
          gi_wp2_with fail
          refine ⟨trivial, ?_⟩
          refine (callsIn_wide.2 HBu9.out).mono ?_
          rintro z XA hbu
          obtain ⟨a9, m9, c9, E9, rfl, bA, hE9, h9⟩ := bup_cases HRt.out (fun e he => HBl.out.1 e (List.mem_of_mem_take he)) (by rw [kvL_take]; exact up_take _ _ _ HBl.out.2) hbu
          have H9 := Lib.hid h9
          have HFa := Lib.hid (HFz.out.later bA)
          have HC2e := Lib.hid (HC2z.out.later bA)
          have HBXe := Lib.hid (HBXz.out.trans (bA.mono HBXz.out.size))
          have HDfe := Lib.hid (show XA.heap[D]? = some (.deferred (some [])) from (bA.block D (Array.getElem?_eq_some_iff.1 HDfz.out).1).trans HDfz.out)
          clear hbu bA h9 wcT HC2z HBXz HDfz HFz HC1z HRdz hw1 hw2 HBu9 HRt
          by_cases hE90 : E9 = 0
          · subst hE90
            obtain ⟨-, hb9, hz9, hrd9⟩ := H9.out rfl
            have HSb := Lib.hid (same5_any HFa.out hrd9)
            have hdec : decide (F = blockL (bldS r.toNat Bs.zero (zs.take mk)).2.es (bldS r.toNat Bs.zero (zs.take mk)).2.ps (kvL (zs.take mk)).length r.toNat) = false := by
              have hk : zs.length - 1 = mk := by rw [HMz.out]; omega
              have hb := built_short (r := r.toNat) (zs := zs) (by omega) (by omega) HEP.out.2.2.1 HEP.out.2.2.2 (by rw [hk]; exact hb9) (by rw [hk]; exact hz9)
              rw [hk, ← HEP.out.1, ← HEP.out.2.1, ← HLa.out.2.1] at hb
              exact decide_eq_false hb
            rw [hdec] at HSb
            clear hdec hrd9 hb9 hz9 H9
            gi_wp2_with fail
            refine ⟨trivial, ?_⟩
            refine (callsIn_wide.2 HSb.out).mono ?_
            rintro z XB ⟨rfl, bB⟩
            have HC2e := Lib.hid (HC2e.out.later bB)
            have HBXe := Lib.hid (HBXe.out.trans (bB.mono HBXe.out.size))
            have HDfe := Lib.hid (show XB.heap[D]? = some (.deferred (some [])) from (bB.block D (Array.getElem?_eq_some_iff.1 HDfe.out).1).trans HDfe.out)
            clear bB HSb
            have hdf' : (XB.setCell ⟨W.heap.size, 0, none⟩ (.bool true)).heap[D]? = some (.deferred (some [])) := (Below.heap_setCell _ _ _ _ (by show _ ≠ W.heap.size; omega)).trans HDfe.out
            have hR : ((XB.setCell ⟨W.heap.size, 0, none⟩ (.bool true)).putObj D (.deferred none)).cell? ⟨W.heap.size, 0, none⟩ = some (.bool true) := Cell1B.cell (t := 4) ((World.putObj_heap_other (by omega)).trans (HC2e.out.set (.bool true)))
            have hBl : Below W.heap.size W ((XB.setCell ⟨W.heap.size, 0, none⟩ (.bool true)).putObj D (.deferred none)) := by
              have b5 := HBXe.out.setCell (p := ⟨W.heap.size, 0, none⟩) (Nat.le_refl _) (.bool true)
              exact b5.trans (below_putB (.deferred none) b5.size (by omega) hdf' rfl)
            have HLv := Lib.hid (And.intro hdf' (And.intro hR hBl))
            have rc := HC2e.out.cell
            have rf := HC2e.out.fz
            clear hdf' hR hBl
            gi_wp2
            refine ⟨by simp, .inl ⟨_, _, rfl, run_takeDeferred HLv.out.1, ?_⟩⟩
            refine ⟨.bool true, by simp [results, Tryd.results3, go_sem, HLv.out.2.1], rfl, HLv.out.2.2⟩
          · have hE9i : ¬ (E9 : Int) = 0 := by omega
            have hdf' : (XA.setCell ⟨W.heap.size, 0, none⟩ (.bool true)).heap[D]? = some (.deferred (some [])) := (Below.heap_setCell _ _ _ _ (by show _ ≠ W.heap.size; omega)).trans HDfe.out
            have hR : ((XA.setCell ⟨W.heap.size, 0, none⟩ (.bool true)).putObj D (.deferred none)).cell? ⟨W.heap.size, 0, none⟩ = some (.bool true) := Cell1B.cell (t := 4) ((World.putObj_heap_other (by omega)).trans (HC2e.out.set (.bool true)))
            have hBl : Below W.heap.size W ((XA.setCell ⟨W.heap.size, 0, none⟩ (.bool true)).putObj D (.deferred none)) := by
              have b5 := HBXe.out.setCell (p := ⟨W.heap.size, 0, none⟩) (Nat.le_refl _) (.bool true)
              exact b5.trans (below_putB (.deferred none) b5.size (by omega) hdf' rfl)
            have HLv := Lib.hid (And.intro hdf' (And.intro hR hBl))
            have rc := HC2e.out.cell
            have rf := HC2e.out.fz
            clear hdf' hR hBl
            gi_wp2_with fail
            refine ⟨trivial, ?_⟩
            gi_wp2
            refine ⟨by simp, .inl ⟨_, _, rfl, run_takeDeferred HLv.out.1, ?_⟩⟩
            refine ⟨.bool true, by simp [results, Tryd.results3, go_sem, HLv.out.2.1], rfl, HLv.out.2.2⟩
      · have hE0i : ¬ (E8 : Int) = 0 := by omega
        have b9 := Below.refl X8.heap.size X8
        have HC1z := Lib.hid (HC1y.out.later b9)
        have HC2z := Lib.hid (HC2y.out.later b9)
        have HFz := Lib.hid (HF8.out.later b9)
        have HRdz := Lib.hid (HRd8.out.later b9)
        have HBXz := Lib.hid (HBX8.out.trans (b9.mono HBX8.out.size))
        have HDfz := Lib.hid (show X8.heap[D]? = some (.deferred (some [])) from (b9.block D (Array.getElem?_eq_some_iff.1 HDf8.out).1).trans HDf8.out)
        clear b9 H8 HF8 HRd8 HBX8 HDf8
        gi_wp2_with fail
        refine ⟨trivial, ?_⟩
        have hcm : mz ≤ cm := by have := HRdz.out.cap; have := HMz.out; omega
        have hlt : (zs.take (mz - 1)).length = mz - 1 := by rw [List.length_take, HMz.out]; omega
        have HRt := Lib.hid (HRdz.out.takeN (mz - 1))
        have HBu9 := Lib.hid (build_any r HRt.out (HT.out.later HBXz.out))
        rw [hlt] at HBu9
        obtain ⟨mk, hmk⟩ : ∃ mk, mk = mz - 1 := ⟨_, rfl⟩
        rw [← hmk] at HBu9 HRt hlt
        have hmz1 : mz = mk + 1 := by omega
        subst hmz1
        have hw1 : IntKind.i64.wrap ((mk : Int) + 1 - 1) = (mk : Int) := by rw [wrapI5] <;> omega
        have hw2 : ((mk : Int) + 1 - 1) = (mk : Int) := by omega
        have wcT := HC1z.out.cell
        have hcm2 : mk ≤ cm := by omega
        clear hmk HBu3
        gi_wp2_with fail
        refine ⟨trivial, ?_⟩
        refine (callsIn_wide.2 HBu9.out).mono ?_
        rintro z XA hbu
        obtain ⟨a9, m9, c9, E9, rfl, bA, hE9, h9⟩ := bup_cases HRt.out (fun e he => HBl.out.1 e (List.mem_of_mem_take he)) (by rw [kvL_take]; exact up_take _ _ _ HBl.out.2) hbu
        have H9 := Lib.hid h9
        have HFa := Lib.hid (HFz.out.later bA)
        have HC2e := Lib.hid (HC2z.out.later bA)
        have HBXe := Lib.hid (HBXz.out.trans (bA.mono HBXz.out.size))
        have HDfe := Lib.hid (show XA.heap[D]? = some (.deferred (some [])) from (bA.block D (Array.getElem?_eq_some_iff.1 HDfz.out).1).trans HDfz.out)
        clear hbu bA h9 wcT HC2z HBXz HDfz HFz HC1z HRdz hw1 hw2 HBu9 HRt
        by_cases hE90 : E9 = 0
        · subst hE90
          obtain ⟨-, hb9, hz9, hrd9⟩ := H9.out rfl
          have HSb := Lib.hid (same5_any HFa.out hrd9)
          have hdec : decide (F = blockL (bldS r.toNat Bs.zero (zs.take mk)).2.es (bldS r.toNat Bs.zero (zs.take mk)).2.ps (kvL (zs.take mk)).length r.toNat) = false := by
            have hk : zs.length - 1 = mk := by rw [HMz.out]; omega
            have hb := built_short (r := r.toNat) (zs := zs) (by omega) (by omega) HEP.out.2.2.1 HEP.out.2.2.2 (by rw [hk]; exact hb9) (by rw [hk]; exact hz9)
            rw [hk, ← HEP.out.1, ← HEP.out.2.1, ← HLa.out.2.1] at hb
            exact decide_eq_false hb
          rw [hdec] at HSb
          clear hdec hrd9 hb9 hz9 H9
          gi_wp2_with fail
          refine ⟨trivial, ?_⟩
          refine (callsIn_wide.2 HSb.out).mono ?_
          rintro z XB ⟨rfl, bB⟩
          have HC2e := Lib.hid (HC2e.out.later bB)
          have HBXe := Lib.hid (HBXe.out.trans (bB.mono HBXe.out.size))
          have HDfe := Lib.hid (show XB.heap[D]? = some (.deferred (some [])) from (bB.block D (Array.getElem?_eq_some_iff.1 HDfe.out).1).trans HDfe.out)
          clear bB HSb
          have hdf' : (XB.setCell ⟨W.heap.size, 0, none⟩ (.bool true)).heap[D]? = some (.deferred (some [])) := (Below.heap_setCell _ _ _ _ (by show _ ≠ W.heap.size; omega)).trans HDfe.out
          have hR : ((XB.setCell ⟨W.heap.size, 0, none⟩ (.bool true)).putObj D (.deferred none)).cell? ⟨W.heap.size, 0, none⟩ = some (.bool true) := Cell1B.cell (t := 4) ((World.putObj_heap_other (by omega)).trans (HC2e.out.set (.bool true)))
          have hBl : Below W.heap.size W ((XB.setCell ⟨W.heap.size, 0, none⟩ (.bool true)).putObj D (.deferred none)) := by
            have b5 := HBXe.out.setCell (p := ⟨W.heap.size, 0, none⟩) (Nat.le_refl _) (.bool true)
            exact b5.trans (below_putB (.deferred none) b5.size (by omega) hdf' rfl)
          have HLv := Lib.hid (And.intro hdf' (And.intro hR hBl))
          have rc := HC2e.out.cell
          have rf := HC2e.out.fz
          clear hdf' hR hBl
          gi_wp2
          refine ⟨by simp, .inl ⟨_, _, rfl, run_takeDeferred HLv.out.1, ?_⟩⟩
          refine ⟨.bool true, by simp [results, Tryd.results3, go_sem, HLv.out.2.1], rfl, HLv.out.2.2⟩
        · have hE9i : ¬ (E9 : Int) = 0 := by omega
          have hdf' : (XA.setCell ⟨W.heap.size, 0, none⟩ (.bool true)).heap[D]? = some (.deferred (some [])) := (Below.heap_setCell _ _ _ _ (by show _ ≠ W.heap.size; omega)).trans HDfe.out
          have hR : ((XA.setCell ⟨W.heap.size, 0, none⟩ (.bool true)).putObj D (.deferred none)).cell? ⟨W.heap.size, 0, none⟩ = some (.bool true) := Cell1B.cell (t := 4) ((World.putObj_heap_other (by omega)).trans (HC2e.out.set (.bool true)))
          have hBl : Below W.heap.size W ((XA.setCell ⟨W.heap.size, 0, none⟩ (.bool true)).putObj D (.deferred none)) := by
            have b5 := HBXe.out.setCell (p := ⟨W.heap.size, 0, none⟩) (Nat.le_refl _) (.bool true)
            exact b5.trans (below_putB (.deferred none) b5.size (by omega) hdf' rfl)
          have HLv := Lib.hid (And.intro hdf' (And.intro hR hBl))
          have rc := HC2e.out.cell
          have rf := HC2e.out.fz
          clear hdf' hR hBl
          gi_wp2_with fail
          refine ⟨trivial, ?_⟩
          gi_wp2
          refine ⟨by simp, .inl ⟨_, _, rfl, run_takeDeferred HLv.out.1, ?_⟩⟩
          refine ⟨.bool true, by simp [results, Tryd.results3, go_sem, HLv.out.2.1], rfl, HLv.out.2.2⟩
    case stop =>
      rintro D c pre X hD hsp h hdf
      exact h.elim
  · have hEi : ¬ (E2 : Int) = 0 := by omega
    have hcase : r < 1 ∨ (1 ≤ r ∧ 16 < r) ∨ (1 ≤ r ∧ r ≤ 16 ∧ mz = 0) ∨ (1 ≤ r ∧ r ≤ 16 ∧ mz ≠ 0 ∧ E2 = 53) := by
      by_cases k : 1 ≤ r ∧ r ≤ 16
      · by_cases k0 : (bldS r.toNat Bs.zero zs).1 = 0
        · by_cases kz : zs = []
          · exact .inr (.inr (.inl ⟨k.1, k.2, by rw [← HMz.out, kz]; rfl⟩))
          · exact absurd (HBu3.out.2.2.2.2 k k0 kz).1 hE
        · have := (HBu3.out.2.2.1 k k0).1
          rcases bld_up r.toNat zs Bs.zero HZ.out.2.1 HZ.out.2.2 with q | q
          · exact absurd q k0
          · by_cases kz : mz = 0
            · exact .inr (.inr (.inl ⟨k.1, k.2, kz⟩))
            · exact .inr (.inr (.inr ⟨k.1, k.2, kz, by omega⟩))
      · omega
    have HEnd : Hid (Below W.heap.size W (X4.setCell ⟨W.heap.size, 0, none⟩ (.bool true)) ∧ (X4.setCell ⟨W.heap.size, 0, none⟩ (.bool true)).cell? ⟨W.heap.size, 0, none⟩ = some (.bool true)) := ⟨HB4.out.setCell (p := ⟨W.heap.size, 0, none⟩) (Nat.le_refl _) _, (HC2.out.set _).cell⟩
    rcases hcase with k | ⟨k1, k⟩ | ⟨k1, k2, k⟩ | ⟨k1, k2, k3, k⟩
    · gi_wp2
      refine ⟨.bool true, by simp [results, Tryd.results3, go_sem, HEnd.out.2], rfl, HEnd.out.1⟩
    · have k1i : ¬ r < 1 := by omega
      gi_wp2
      refine ⟨.bool true, by simp [results, Tryd.results3, go_sem, HEnd.out.2], rfl, HEnd.out.1⟩
    · have k1i : ¬ r < 1 := by omega
      have k2i : ¬ 16 < r := by omega
      subst k
      gi_wp2
      refine ⟨.bool true, by simp [results, Tryd.results3, go_sem, HEnd.out.2], rfl, HEnd.out.1⟩
    · have k1i : ¬ r < 1 := by omega
      have k2i : ¬ 16 < r := by omega
      have k3i : ((mz : Int) == 0) = false := by rw [beq_eq_false_iff_ne]; omega
      subst k
      gi_wp2
      refine ⟨.bool true, by simp [results, Tryd.results3, go_sem, HEnd.out.2], rfl, HEnd.out.1⟩
end Go.Proofs.YtdkolihakmnpiaaDoor

namespace Go.Proofs.YtdkolihakmnpiaaDoor
open Go.ChangeShapes Go.WideShapes Go.ChangeAt Go.RowKit
set_option linter.unusedVariables false

theorem own_knob : ownKnob Tryd.prog.godebug = none := by kernel_rfl
theorem laid_out : laidOutB Tryd.prog = true := by kernel_rfl
theorem g_tab : Tryd.prog.globalNamed "strata/wire.halves" = some 0 := by kernel_rfl
theorem g_tab_type : (Tryd.prog.globals[0]?).map (·.type) = some 95 := by kernel_rfl
theorem und_tab : Tryd.prog.underlying 95 = some (.array 16 45) := by kernel_rfl
theorem und_u32 : Tryd.prog.underlying 45 = some (.int .u32) := by kernel_rfl
theorem und_int : Tryd.prog.underlying 3 = some (.int .i64) := by kernel_rfl
theorem und_u64 : Tryd.prog.underlying 92 = some (.int .u64) := by kernel_rfl
theorem und_bool : Tryd.prog.underlying 4 = some .bool := by kernel_rfl
theorem cells_tab : Tryd.prog.cellsOf 95 = 16 := by kernel_rfl
theorem cells_u32 : Tryd.prog.cellsOf 45 = 1 := by kernel_rfl
theorem cells_byte : Tryd.prog.cellsOf 5 = 1 := by kernel_rfl
theorem cells_bytes : Tryd.prog.cellsOf 24 = 1 := by kernel_rfl

theorem tab_of {W : World} (h : laidMetH Tryd.prog Rows.blockBackRow.laid W) : Tab W := by
  have t : Lib.TabIs Tryd.prog W "strata/wire.halves" .u32 [0, 274646895, 549293790, 820201905, 1098587580, 1361435347, 1640403810, 1905808397, 2197175160, 2460548119, 2722870694, 2987750089, 3280807620, 3553878443, 3811616794, 4084100981] :=
    Lib.tabIs_of_head (rest := []) g_tab g_tab_type und_tab und_u32 cells_u32 cells_tab h
  intro i hi
  have := t.cell g_tab i (by simpa using hi)
  rw [this]
  have key : ∀ j, j < 16 → ([0, 274646895, 549293790, 820201905, 1098587580, 1361435347, 1640403810, 1905808397, 2197175160, 2460548119, 2722870694, 2987750089, 3280807620, 3553878443, 3811616794, 4084100981] : List Int).getD j 0 = ((tab.getD j 0 : Nat) : Int) := by decide
  rw [key i hi]

theorem bulk_pos {H : Type} (d : DataW H) : 1 ≤ Rows.uptoBulk d := by
  cases d with
  | lit l => cases l <;> simp [Rows.uptoBulk]
  | nil => simp [Rows.uptoBulk]
  | ptr d => simp [Rows.uptoBulk]
  | slice elems spare => simp [Rows.uptoBulk]
  | agg parts => simp [Rows.uptoBulk]
  | iface t d => simp [Rows.uptoBulk]
  | map entries => simp [Rows.uptoBulk]
  | held h => simp [Rows.uptoBulk]
theorem bulk_len {H : Type} (l : List (DataW H)) : l.length ≤ Rows.uptoBulkAll l := by
  induction l with
  | nil => simp [Rows.uptoBulkAll]
  | cons x r ih => have := bulk_pos x; simp only [Rows.uptoBulkAll, List.length_cons]; omega

theorem open_bytes {H : Type} {enc : TypeId × Value → H} {W : World} {v : Value} {d : DataW H} {p : List MemPlace} {base : Nat} {held : Bool} (h : DataW.Trod enc Tryd.prog W base (fun _ => true) held 24 v d p) (hs : ∃ a n c, v = .slice a n c) :
    ∃ bs : List Nat, (bs.length ≤ 281474976710656 → Rd W v bs) ∧ bs.length + 1 ≤ Rows.uptoBulk d ∧ (bs = [] ∨ ∃ elems spare, d = .slice elems spare ∧ elems.length = bs.length) := by
  obtain ⟨a, n, c, rfl⟩ := hs
  obtain ⟨fuel, hf⟩ := h
  rcases open_ints und_bytes und_byte cells_byte hf with ⟨hcs, hx⟩ | ⟨x, l, c', zs, hcs, _, hl, hm, hz, hx, hcell, hwz⟩
  · simp [Value.cells] at hcs
    obtain ⟨rfl, rfl, rfl⟩ := hcs
    refine ⟨[], fun _ => Rd.nil W, ?_, .inl rfl⟩
    have := bulk_pos d
    simpa using this
  · simp [Value.cells] at hcs
    obtain ⟨rfl, rfl, rfl⟩ := hcs
    simp only [if_true] at hz
    simp only [Prod.mk.injEq] at hx
    obtain ⟨rfl, _⟩ := hx
    have hby : ∀ i, i < zs.length → 0 ≤ zs.getD i 0 ∧ zs.getD i 0 < 256 := by
      intro i hi
      have hmem : zs.getD i 0 ∈ zs := by simp [List.getD, List.getElem?_eq_getElem hi]
      have := bounds_u8 (hwz _ hmem)
      omega
    refine ⟨(zs.take n).map Int.toNat, fun hlen => ⟨?_, some x, c, ?_, ?_, hm, hlen, ?_, ?_⟩, ?_, .inr ⟨_, _, rfl, by simp [lits]⟩⟩
    · intro y hy
      simp only [List.mem_map] at hy
      obtain ⟨z, hz1, rfl⟩ := hy
      have := bounds_u8 (hwz z (List.mem_of_mem_take hz1))
      omega
    · simp; omega
    · simp; omega
    · by_cases hc0 : c = 0
      · exact .inl hc0
      · right
        obtain ⟨b, off, spot⟩ := x
        have hc := hcell 0 (by omega)
        have hspot : spot = none := by simpa [Addr.add] using World.cell?_spot hc
        subst hspot
        exact ⟨b, off, rfl⟩
    · by_cases hn0 : n = 0
      · left; simp [hn0]
      · right
        obtain ⟨b, off, spot⟩ := x
        have hc := hcell 0 (by omega)
        have hspot : spot = none := by simpa [Addr.add] using World.cell?_spot hc
        subst hspot
        refine ⟨b, off, rfl, fun i hi => ?_⟩
        have hin : i < n := by simp at hi; omega
        have hc := hcell i (by omega)
        have e : (⟨b, off, none⟩ : Addr).add i = ⟨b, off + i, none⟩ := by unfold Addr.add; split <;> simp_all
        rw [e] at hc
        rw [hc]
        have hb := hby i (by omega)
        have e2 : ((zs.take n).map Int.toNat).getD i 0 = (zs.getD i 0).toNat := by
          simp [List.getElem?_take_of_lt hin, List.getElem?_eq_getElem (show i < zs.length by omega)]
        rw [e2, Int.toNat_of_nonneg hb.1]
    · have h1 := bulk_len (H := H) (lits .u8 (zs.take n))
      simp only [Rows.uptoBulk]
      simp [lits] at h1 ⊢
      omega

theorem reach_bytes {H : Type} {ts : List TypeId} {ds gs : List (DataW H)} (h : (DataW.weightsEach Tryd.prog ts (ds ++ gs)).all (fun x => decide (x ≤ reachBytes)) = true) (j : Nat) (ht : ts[j]? = some 24) {d : DataW H} (hd : ds[j]? = some d) {bs : List Nat} (hx : bs = [] ∨ ∃ elems spare, d = .slice elems spare ∧ elems.length = bs.length) : bs.length ≤ 140737488351232 := by
  rcases hx with rfl | ⟨elems, spare, rfl, hl⟩
  · simp
  · have hd2 : (ds ++ gs)[j]? = some (.slice elems spare) := by
      rw [List.getElem?_append_left (List.getElem?_eq_some_iff.1 hd).1]
      exact hd
    have := sized_slice h ht hd2 und_bytes
    rw [show Tryd.prog.bytesOf 5 = 1 by kernel_rfl] at this
    unfold reachBytes at this
    omega

end Go.Proofs.YtdkolihakmnpiaaDoor
