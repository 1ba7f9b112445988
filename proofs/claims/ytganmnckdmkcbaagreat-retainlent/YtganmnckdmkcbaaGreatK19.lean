import Derived.Test.YtganmnckdmkcbaaGreatK18
import Derived.Deep.DeepAppendRoom
namespace Go.Proofs.YtganmnckdmkcbaaGreat
open Go.RowKit Go.Maps
set_option linter.unusedVariables false

theorem chkC_8 (e : EntD) : chkC e = 0 ↔ check3S 8 e = 0 := by
  unfold chkC check3S
  by_cases h : checkS e = 0
  · have hf : ¬ ((8 : Nat) : Int) ≤ e.fam := by
      unfold checkS at h
      repeat' split at h
      all_goals first | (exfalso; omega) | skip
      omega
    simp [h]
    omega
  · simp [h]
theorem inOrderC_8 {l : List EntD} (h : inOrderE chkC l = 0) : inOrderE (check3S 8) l = 0 := by
  obtain ⟨h1, xs, h2⟩ := inOrder_ok h
  unfold inOrderE
  rw [firstBad_zero (fun x hx => (chkC_8 x).1 (h1 x hx)), if_neg (by simp), if_neg (by rw [h2]; simp)]
theorem chkC_len {e : EntD} (h : chkC e = 0) : e.row.length ≤ 140737488355328 ∧ e.qual.length ≤ 140737488355328 ∧ e.val.length ≤ 140737488355328 := by
  have ck := check_zero.1 ((chkC_8 e).1 h)
  omega
set_option maxRecDepth 100000 in
set_option maxHeartbeats 8000000 in
theorem sort_any {W : World} {cap : Nat} {a : Option Addr} {l : List EntD} (h0 : RdL3 W a cap l) (hl : l.length ≤ 1353245080300) :
    Calls Tryz.prog 15 #[.slice a l.length cap] W fun r W' => Below W.heap.size W W' ∧ (inOrderE chkC l ≠ 0 → r = .returned (.tuple #[.slice none 0 0, .int .i64 (inOrderE chkC l)])) ∧ (inOrderE chkC l = 0 → ∃ (zs : List EntD) (m : List En) (v : Value) (O : Nat → Prop), IsOrd 8 (l.map EntD.dat) m ∧ r = .returned (.tuple #[v, .int .i64 0]) ∧ Rw W' W.heap.size v zs O ∧ (∀ i, O i → W.heap.size ≤ i ∧ i < W'.heap.size) ∧ zs.map EntD.dat = m ∧ zs.length ≤ l.length) := by
  have HI := Lib.hid (inOrderC_any h0 hl (fun Z a' c' xs ho b own => sort_ok W.heap.size Z a' c' xs (fun x hx => (h0.ok x (onceS_mem ho x hx)).later b) (Nat.le_trans (onceS_len ho) hl) b.size own))
  obtain ⟨E, hE⟩ : ∃ E, E = inOrderE chkC l := ⟨_, rfl⟩
  obtain ⟨N, hN⟩ : ∃ N, N = l.length := ⟨_, rfl⟩
  rw [← hE, ← hN] at HI
  rw [← hE, ← hN]
  have HE := Lib.hid hE
  have HN := Lib.hid hN
  have H0 := Lib.hid h0
  have HL := Lib.hid hl
  clear hE hN h0 hl
  go_enter Tryz.func15, Tryz.ntmps15
  go_wp2_with fail
  refine Calls.mono HI.out ?_
  rintro z w1 ⟨b1, h1, h2⟩
  have B1 := Lib.hid b1
  clear b1 HI
  by_cases hz : E = 0
  · obtain ⟨xs, ys, a', c', k1, k2, k3, rfl, k5⟩ := h2 hz
    have hio : inOrderE chkC l = 0 := HE.out.symm.trans hz
    have hord := isOrd_of (inOrderC_8 hio) k1 k2 k3
    have hck : ∀ y ∈ ys, chkC y = 0 := fun y hy => (inOrder_ok hio).1 y (onceS_mem k1 y (k2.mem_iff.1 hy))
    have hokW : ∀ y ∈ ys, EntD.Ok W y := fun y hy => H0.out.ok y (onceS_mem k1 y (k2.mem_iff.1 hy))
    have hln : ys.length ≤ N := by rw [k2.length_eq, HN.out]; exact onceS_len k1
    have HO := Lib.hid (And.intro hord (And.intro hck (And.intro hokW hln)))
    have HP : Hid (Pc W w1 ys 0 ys (.slice a' ys.length c')) := ⟨k5, (fun i x hi => by omega), (fun i j x y _ hj => by omega), B1.out, fun _ _ => rfl, rfl, hokW⟩
    obtain ⟨n, hn⟩ : ∃ n, n = ys.length := ⟨_, rfl⟩
    rw [← hn] at HP ⊢
    have HNn := Lib.hid hn
    have hnN : n ≤ 1353245080300 := by have := HL.out; rw [← HN.out] at this; omega
    subst hz
    clear h1 h2 k1 k2 k3 k5 hio hord hck hokW hln hn
    go_wp2
    go_loopw [6, 7, 18] (fun _ _ i wr => ∃ (t : Nat) (zs : List EntD), t ≤ n ∧ i = .int .i64 (t : Int) ∧ Hid (Pc W wr ys t zs (.slice a' n c'))) (fun _ _ i _ => n - (intOf i).toNat)
    case atStart => exact ⟨0, ys, Nat.zero_le _, rfl, HP⟩
    case round =>
      obtain ⟨t, zs, ht, rfl, HQ⟩ := hrel
      have t0 : (0 : Int) ≤ (t : Int) := by omega
      have hzl : zs.length = n := by
        have := congrArg List.length HQ.out.dat
        rw [List.length_map, List.length_map] at this
        rw [this, ← HNn.out]
      by_cases hlt : t < n
      · have hlt2 : (t : Int) < (n : Int) := by omega
        obtain ⟨y, hy⟩ : ∃ y, ys[t]? = some y := ⟨ys[t]'(by rw [← HNn.out]; exact hlt), List.getElem?_eq_getElem _⟩
        have hzy : zs[t]? = some y := by rw [HQ.out.rest t (Nat.le_refl _)]; exact hy
        have hrw := HQ.out.row
        rw [hzl] at hrw
        have hrw2 := hrw
        rw [← hzl] at hrw2
        obtain ⟨g, rfl, hnc, hcm, hc⟩ := row_cells3 hrw2 hzy
        have hokc := (HO.out.2.2.1 y (List.mem_of_getElem? hy)).later HQ.out.below
        obtain ⟨_, a1, n1, e1, -⟩ := id hokc.1
        obtain ⟨_, a3, n3, e3, -⟩ := id hokc.2.1
        obtain ⟨_, a5, n5, e5, -⟩ := id hokc.2.2
        have hlen3 := chkC_len (HO.out.2.1 y (List.mem_of_getElem? hy))
        obtain ⟨xr, xf, xq, xt, xsq, xk, xv, xrow, xqual, xval⟩ := y
        simp only at e1 e3 e5
        subst e1 e3 e5
        have y0 := hc 0 _ rfl
        have y1 := hc 1 _ rfl
        have y2 := hc 2 _ rfl
        have y3 := hc 3 _ rfl
        have y4 := hc 4 _ rfl
        have y5 := hc 5 _ rfl
        have y6 := hc 6 _ rfl
        simp only [Nat.add_zero] at y0
        have A := (Below.refl wr.heap.size wr).alloc (Nat.le_refl _) (.cells #[.slice a1 xrow.length n1, .int .i64 xf, .slice a3 xqual.length n3, .int .i64 xt, .int .i64 xsq, .int .i64 xk, .slice a5 xval.length n5] 84)
        have eb := EBox.new wr (⟨.slice a1 xrow.length n1, xf, .slice a3 xqual.length n3, xt, xsq, xk, .slice a5 xval.length n5, xrow, xqual, xval⟩ : EntD)
        obtain ⟨X, hX⟩ : ∃ X, X = wr.alloc (.cells #[.slice a1 xrow.length n1, .int .i64 xf, .slice a3 xqual.length n3, .int .i64 xt, .int .i64 xsq, .int .i64 xk, .slice a5 xval.length n5] 84) := ⟨_, rfl⟩
        have eb' : EBox X wr.heap.size (⟨.slice a1 xrow.length n1, xf, .slice a3 xqual.length n3, xt, xsq, xk, .slice a5 xval.length n5, xrow, xqual, xval⟩ : EntD) := by rw [hX]; exact eb
        rw [← hX] at A
        have HX := Lib.hid hX
        have HA := Lib.hid A
        have z0 := eb'.vr
        have z1 := eb'.fam
        have z2 := eb'.vq
        have z3 := eb'.ts
        have z4 := eb'.seq
        have z5 := eb'.kind
        have z6 := eb'.vv
        simp only at z0 z1 z2 z3 z4 z5 z6
        have HCl := Lib.hid (clone3_own (hokc.later A) hlen3)
        unfold EntD.cells at HCl
        have HRr : Hid (wr.ownsRow W.heap.size 84 7 (.slice (some ⟨g, 0, none⟩) n c') n (evals zs)) := hrw
        have HZy := Lib.hid hzy
        have HYy := Lib.hid hy
        have HZl := Lib.hid hzl
        clear hrw hrw2 hc hokc hlen3 hX A eb eb' hy hzy hzl HP
        go_upto_region 7 with fail
        rw [← HX.out]
        clear HX y0 y1 y2 y3 y4 y5 y6
        go_wp2_with fail
        refine Calls.mono HCl.out ?_
        rintro q1 w2 ⟨x, rfl, sx, ok1, o31, b2⟩
        have HSx := Lib.hid (EntD.dat_same.2 sx)
        obtain ⟨ur, uf, uq, ut, us, uk, uv, urow, uqual, uval⟩ := x
        obtain ⟨ar, cr, er⟩ := own_form' o31.row
        obtain ⟨aq, cq, eq⟩ := own_form' o31.qual
        obtain ⟨aw, cw, ew⟩ := own_form' o31.val
        simp only at er eq ew
        subst er eq ew
        dsimp only
        have BX := Lib.hid (HA.out.trans (b2.mono HA.out.size))
        have hr2 : w2.ownsRow W.heap.size 84 7 (.slice (some ⟨g, 0, none⟩) n c') n (evals zs) := row_same HRr.out (fun k hk => BX.out.block k (HRr.out.lt k hk).2)
        have hr3 := hr2
        rw [← HZl.out] at hr3
        obtain ⟨g', eg, -, -, hc2⟩ := row_cells3 hr3 HZy.out
        cases eg
        have y0 := hc2 0 _ rfl
        have y1 := hc2 1 _ rfl
        have y2 := hc2 2 _ rfl
        have y3 := hc2 3 _ rfl
        have y4 := hc2 4 _ rfl
        have y5 := hc2 5 _ rfl
        have y6 := hc2 6 _ rfl
        simp only [Nat.add_zero] at y0
        have f0 := row_fz hr2 (t * 7)
        have f1 := row_fz hr2 (t * 7 + 1)
        have f2 := row_fz hr2 (t * 7 + 2)
        have f3 := row_fz hr2 (t * 7 + 3)
        have f4 := row_fz hr2 (t * 7 + 4)
        have f5 := row_fz hr2 (t * 7 + 5)
        have f6 := row_fz hr2 (t * 7 + 6)
        have HR2 := Lib.hid hr2
        have O31 := Lib.hid o31
        clear hr2 hr3 hc2 sx ok1 o31 b2 HCl z0 z1 z2 z3 z4 z5 z6
        go_upto_region 8 with fail
        have hs7 := row_set7 (t := t) HR2.out HZl.out.symm (by rw [HZl.out]; exact hlt) (⟨.slice ar urow.length cr, uf, .slice aq uqual.length cq, ut, us, uk, .slice aw uval.length cw, urow, uqual, uval⟩ : EntD)
        simp only at hs7
        generalize (((((((w2.setCell ⟨g, t * 7, none⟩ (.slice ar urow.length cr)).setCell ⟨g, t * 7 + 1, none⟩ (.int .i64 uf)).setCell ⟨g, t * 7 + 2, none⟩ (.slice aq uqual.length cq)).setCell ⟨g, t * 7 + 3, none⟩ (.int .i64 ut)).setCell ⟨g, t * 7 + 4, none⟩ (.int .i64 us)).setCell ⟨g, t * 7 + 5, none⟩ (.int .i64 uk)).setCell ⟨g, t * 7 + 6, none⟩ (.slice aw uval.length cw)) = X2 at hs7 ⊢
        have HN2 : Hid (Pc W X2 ys (t + 1) (zs.set t (⟨.slice ar urow.length cr, uf, .slice aq uqual.length cq, ut, us, uk, .slice aw uval.length cw, urow, uqual, uval⟩ : EntD)) (.slice (some ⟨g, 0, none⟩) n c')) := HQ.out.step HZl.out.symm HYy.out BX.out (O31.out.mono HA.out.size) HSx.out hs7.2 hs7.1
        clear hs7 y0 y1 y2 y3 y4 y5 y6 f0 f1 f2 f3 f4 f5 f6
        go_wp2
        go_roundw
        case rel => exact ⟨t + 1, _, by omega, by go_num, HN2.out⟩
        case measure => simp only [intOf]; omega
      · have hgt : ¬ (t : Int) < (n : Int) := by omega
        have HD : Hid (Pc W wr ys zs.length zs (.slice a' n c')) := by
          have := HQ.out
          rw [show t = zs.length by omega] at this
          exact this
        go_wp2
        go_ret2
        obtain ⟨o1, o2, o3, o4⟩ := HO.out
        exact ⟨HD.out.below, zs, _, o1, _, rfl, _, HD.out.done, fun i hi => hi, HD.out.dat, by rw [hzl, HNn.out]; exact o4⟩
  · have b0 : (E != 0) = true := by simp [hz]
    have hr := h1 hz
    subst hr
    have HZ := Lib.hid hz
    clear h1 h2 hz
    go_wp2
    go_ret2
    exact ⟨B1.out, fun _ => rfl, fun z => absurd z HZ.out⟩
end Go.Proofs.YtganmnckdmkcbaaGreat

namespace Go.Proofs.YtganmnckdmkcbaaGreat
open Go.RowKit
set_option linter.unusedVariables false

theorem append_keep {w : World} {B n m c : Nat} {v : Value} {xs bs : List Nat} (ty : TypeId) (hown : Own w B v n xs) (ad : Addr) (hm : m = bs.length) (hnews : ∀ j u, (bv bs)[j]? = some u → w.cell? (ad.add j) = some u) (hp : 0 < m) (hbytes : n + m ≤ 140737488355328) (hB : B ≤ w.heap.size) :
    ∃ v' w', (Builtin.append_ #[82, 82] ty #[v, .slice (some ad) m c]).run Tryz.prog w = .ok v' w' ∧ Own w' B v' (n + m) (xs ++ bs) ∧ w.grownBy w' v.ownBlock ∧ Own w' B v n xs ∧ (v'.ownBlock = v.ownBlock ∨ v'.ownBlock = some w.heap.size) := by
  obtain ⟨i0, hi, hz0, hz1, hz2⟩ := info_parts info_byte
  have hl : (bv bs).length = m * 1 := by simp [bv, hm]
  obtain ⟨v', w', hr, h2, h3, _⟩ := run_append_own (P := Tryz.prog) w B 82 ty 5 i0 (.int .u8 0) 1 1 und_bytes hi hz0 hz1 hz2 rfl (by decide) v n (bv xs) hown.2 ad m c (bv bs) hl hnews (bv_oneCell bs) (by unfold maxLen; omega) (by omega) hB
  have o2 : Own w' B v' (n + m) (xs ++ bs) := ⟨by rw [hown.1, hm]; simp, by simpa [bv] using h2⟩
  refine ⟨v', w', hr, o2, h3, ?_⟩
  rcases hown.2.2 with ⟨rfl, h0⟩ | ⟨g, cap, cur, rfl, hg1, hg2, hg3, hg4, hg5, hg6⟩
  · have hx : xs = [] := List.eq_nil_of_length_eq_zero (by rw [← hown.1]; exact h0)
    subst hx h0
    have hr2 := run_append_nil (P := Tryz.prog) w 82 ty 5 i0 (.int .u8 0) und_bytes hi hz0 ad m c (bv bs) (by rw [hz1]; exact hl) hnews hp (by omega) (by rw [hz2]; omega)
    rw [hr] at hr2
    injection hr2 with e1 e2
    subst e1
    exact ⟨own_nil _ _, .inr rfl⟩
  · by_cases hroom : n + m ≤ cap
    · obtain ⟨w2, hr2, k2, _⟩ := run_append_own_spare (P := Tryz.prog) w B 82 ty 5 i0 1 und_bytes hi hz1 g n cap (bv xs) hown.2 ad m c (bv bs) hl hnews (bv_oneCell bs) hroom
      rw [hr] at hr2
      injection hr2 with e1 e2
      subst e1 e2
      refine ⟨⟨hown.1, hown.2.1, ?_⟩, .inl rfl⟩
      rcases o2.2.2 with ⟨h5, _⟩ | ⟨g2, cap2, cur2, h5, h6, h7, h8, h9, h10, h11⟩
      · cases h5
      · simp only [Value.slice.injEq, Option.some.injEq] at h5
        obtain ⟨e3, _, rfl⟩ := h5
        obtain rfl : g = g2 := by injection e3
        refine .inr ⟨g, cap, cur2, rfl, h6, h7, hg3, hg4, h10, ?_⟩
        have e4 : cur2.toList.take (n * 1) = (cur2.toList.take ((n + m) * 1)).take (n * 1) := by
          rw [List.take_take, Nat.min_eq_left (by omega)]
        rw [e4, h11, bv_append, List.take_append_of_le_length (by rw [bv_length, ← hown.1]; omega), List.take_of_length_le (by rw [bv_length, ← hown.1]; omega)]
    · have holds : ∀ j u, (bv xs)[j]? = some u → w.cell? ((⟨g, 0, none⟩ : Addr).add j) = some u := hown.2.cells (g := g) rfl
      have hr2 := run_append_grow (P := Tryz.prog) w 82 ty 5 i0 (.int .u8 0) und_bytes hi hz0 ⟨g, 0, none⟩ n cap (bv xs) (by rw [hz1, bv_length, ← hown.1]; omega) holds ad m c (bv bs) (by rw [hz1]; exact hl) hnews (by omega) (by omega) (by rw [hz2]; exact growslice_fits (by omega) (by omega))
      rw [hr] at hr2
      injection hr2 with e1 e2
      subst e1
      refine ⟨?_, .inr rfl⟩
      refine ⟨hown.1, hown.2.1, .inr ⟨g, cap, cur, rfl, hg1, ?_, hg3, hg4, hg5, hg6⟩⟩
      rw [e2, heap_alloc_old w.drew _ (Array.getElem?_eq_some_iff.1 hg2).1]
      exact hg2


def Keeps (mk : Nat) (w w' : World) : Prop := ∀ p : Addr, w.cell? p = some (.int .u8 (mk : Int)) → w'.cell? p = some (.int .u8 (mk : Int))
theorem Keeps.refl (mk : Nat) (w : World) : Keeps mk w w := fun _ h => h
theorem Keeps.trans {mk : Nat} {a b c : World} (h : Keeps mk a b) (k : Keeps mk b c) : Keeps mk a c := fun p hp => k p (h p hp)
theorem Keeps.alloc (mk : Nat) (w : World) (o : Obj) : Keeps mk w (w.alloc o) := fun p hp => by
  have hb : Below w.heap.size w (w.alloc o) := (Below.refl _ _).alloc (Nat.le_refl _) o
  rw [hb.cell (World.block_lt_of_cell? w _ hp)]; exact hp
theorem Keeps.below {mk : Nat} {w w' : World} (hb : Below w.heap.size w w') : Keeps mk w w' := fun p hp => by
  rw [hb.cell (World.block_lt_of_cell? w _ hp)]; exact hp
theorem Keeps.rd {mk k : Nat} {w w' : World} {v : Value} (h : Keeps mk w w') (hr : Rd w v (List.replicate k mk)) : Rd w' v (List.replicate k mk) := by
  obtain ⟨h1, a, cap, h2, h3, h4, h5, h6, h7⟩ := hr
  refine ⟨h1, a, cap, h2, h3, h4, h5, h6, ?_⟩
  rcases h7 with h7 | ⟨b, off, rfl, hc⟩
  · exact .inl h7
  · refine .inr ⟨b, off, rfl, fun i hi => ?_⟩
    have e : (List.replicate k mk).getD i 0 = mk := by
      have hi2 : i < k := by simpa using hi
      simp [List.getD, hi2]
    have := hc i hi
    rw [e] at this ⊢
    exact h _ this
theorem grown_trans {a b c : World} {o p : Option Nat} (h : a.grownBy b o) (k : b.grownBy c p) (hp : p = o ∨ ∀ g, p = some g → a.heap.size ≤ g) : a.grownBy c o :=
  ⟨k.os.trans h.os, k.tape.trans h.tape, k.output.trans h.output, Nat.le_trans h.size k.size, fun i hi hne => by
    rw [k.block i (Nat.lt_of_lt_of_le hi h.size) ?_, h.block i hi hne]
    rcases hp with rfl | hp
    · exact hne
    · intro e
      have := hp i e.symm
      omega⟩
theorem grown_alloc (w : World) (o : Obj) (p : Option Nat) : w.grownBy (w.alloc o) p := ⟨rfl, rfl, rfl, by simp, fun k hk _ => by
  have hb : Below w.heap.size w (w.alloc o) := (Below.refl _ _).alloc (Nat.le_refl _) o
  exact hb.block k hk⟩
theorem grown_below {w w' : World} (h : Below w.heap.size w w') (p : Option Nat) : w.grownBy w' p := ⟨h.os, h.tape, h.output, h.size, fun k hk _ => h.block k hk⟩
theorem below_grown {w w' : World} (h : w.grownBy w' none) : Below w.heap.size w w' := ⟨h.os, h.tape, h.output, h.size, fun k hk => h.block k hk (by simp)⟩

theorem append_marks {w w' : World} {B n m c mk : Nat} {v v' : Value} {xs : List Nat} (ty : TypeId) (hown : Own w B v n xs) (ad : Addr) (hnews : ∀ j u, (bv (List.replicate m mk))[j]? = some u → w.cell? (ad.add j) = some u) (hp : 0 < m) (hbytes : n + m ≤ 140737488355328)
    (hr : (Builtin.append_ #[82, 82] ty #[v, .slice (some ad) m c]).run Tryz.prog w = .ok v' w') : Keeps mk w w' := by
  obtain ⟨i0, hi, hz0, hz1, hz2⟩ := info_parts info_byte
  have hl : (bv (List.replicate m mk)).length = m * 1 := by simp [bv]
  rcases hown.2.2 with ⟨rfl, h0⟩ | ⟨g, cap, cur, rfl, hg1, hg2, hg3, hg4, hg5, hg6⟩
  · have hx : xs = [] := List.eq_nil_of_length_eq_zero (by rw [← hown.1]; exact h0)
    subst hx h0
    have hr2 := run_append_nil (P := Tryz.prog) w 82 ty 5 i0 (.int .u8 0) und_bytes hi hz0 ad m c _ (by rw [hz1]; exact hl) hnews hp (by omega) (by rw [hz2]; omega)
    rw [hr] at hr2
    injection hr2 with e1 e2
    rw [e2]
    exact Keeps.below (((Below.refl w.heap.size w).drew).alloc (Nat.le_refl _) _)
  · by_cases hroom : n + m ≤ cap
    · have hfit : n * i0.size + (bv (List.replicate m mk)).length ≤ cur.size := by rw [hz1, hl, hg5]; omega
      have hr2 := run_append_room (P := Tryz.prog) w 82 ty 5 i0 und_bytes hi g n cap cur hg2 ad m c _ (by rw [hz1]; exact hl) hnews (bv_oneCell _) hroom hfit
      rw [hr] at hr2
      injection hr2 with e1 e2
      rw [e2]
      intro p hc
      obtain ⟨pb, po, ps⟩ := p
      obtain rfl : ps = none := World.cell?_spot hc
      by_cases hb : pb = g
      · subst hb
        rw [cell_setRow_same w pb po cur _ _ _ hg2]
        have hcur : cur[po]? = some (.int .u8 (mk : Int)) := by simpa [World.cell?, hg2] using hc
        have hlt : po < cur.size := (Array.getElem?_eq_some_iff.1 hcur).1
        have hcl : cur.toList[po]? = some (.int .u8 (mk : Int)) := by simpa using hcur
        simp only [hz1, Nat.mul_one, List.getElem?_toArray, hl] at *
        by_cases h1 : po < n
        · rw [List.append_assoc, List.getElem?_append_left (by simp; omega), List.getElem?_take_of_lt h1]
          exact hcl
        · by_cases h2 : po < n + m
          · rw [List.getElem?_append_left (by simp [bv]; omega), List.getElem?_append_right (by simp; omega)]
            have e : (List.take n cur.toList).length = n := by simp; omega
            rw [e]
            simp [bv, List.getElem?_replicate]
            omega
          · rw [List.getElem?_append_right (by simp [bv]; omega), List.getElem?_drop]
            have e : n + m + (po - (List.take n cur.toList ++ bv (List.replicate m mk)).length) = po := by simp [bv]; omega
            rw [e]
            exact hcl
      · rw [cell_setRow_other w g _ ⟨pb, po, none⟩ hb]
        exact hc
    · have holds : ∀ j u, (bv xs)[j]? = some u → w.cell? ((⟨g, 0, none⟩ : Addr).add j) = some u := hown.2.cells (g := g) rfl
      have hr2 := run_append_grow (P := Tryz.prog) w 82 ty 5 i0 (.int .u8 0) und_bytes hi hz0 ⟨g, 0, none⟩ n cap (bv xs) (by rw [hz1, bv_length, ← hown.1]; omega) holds ad m c _ (by rw [hz1]; exact hl) hnews (by omega) (by omega) (by rw [hz2]; exact growslice_fits (by omega) (by omega))
      rw [hr] at hr2
      injection hr2 with e1 e2
      rw [e2]
      exact Keeps.below (((Below.refl w.heap.size w).drew).alloc (Nat.le_refl _) _)

theorem wpList_append_mark {w : World} {ops : Array Oper} {rest : List Oper} {o : Oper} {a : Act} {Q : Exit → Act → World → Prop} (hgd : o.guard = none) (s x : Operand)
    (ho : o.op = .call { callee := .builtin .append, args := #[s, x], argTypes := #[82, 82] })
    (B : Nat) (a0 : Option Addr) (m0 c0 mk : Nat) (acc : List Nat) (hs : a.eval s = .slice a0 m0 c0) (hown : Own w B (.slice a0 m0 c0) m0 acc)
    (vs : List Value) (m : Nat) (hx : a.eval x = .slice (some ⟨w.heap.size, 0, none⟩) m m) (hvs : vs = bv (List.replicate m mk)) (hp : 0 < m)
    (hbytes : m0 + m ≤ 140737488355328) (hB : B ≤ w.heap.size)
    (h : ∀ a' m' c' w', Hid (m' = m0 + m) → Own w' B (.slice a' m' c') m' (acc ++ List.replicate m mk) → w.grownBy w' (Value.slice a0 m0 c0).ownBlock → Own w' B (.slice a0 m0 c0) m0 acc → ((Value.slice a' m' c').ownBlock = (Value.slice a0 m0 c0).ownBlock ∨ ∀ g, (Value.slice a' m' c').ownBlock = some g → w.heap.size ≤ g) → Keeps mk w w' → wpList Tryz.prog ops Q rest (a.put o.dst (.slice a' m' c')) w') : wpList Tryz.prog ops Q (o :: rest) a (w.alloc (.cells vs.toArray 5)) := by
  subst hvs
  have ho2 : Own (w.alloc (.cells (bv (List.replicate m mk)).toArray 5)) B (.slice a0 m0 c0) m0 acc := ⟨hown.1, hown.2.alloc _⟩
  obtain ⟨v', w', hr, h1, h2, h3, h4⟩ := append_keep (w := w.alloc (.cells (bv (List.replicate m mk)).toArray 5)) (B := B) (c := m) (bs := List.replicate m mk) o.type ho2 ⟨w.heap.size, 0, none⟩ (by simp) (news_new _ _ _) hp hbytes (by simp; omega)
  have hk := append_marks o.type ho2 ⟨w.heap.size, 0, none⟩ (news_new _ _ _) hp hbytes hr
  obtain ⟨a', c', rfl⟩ := own_form h1.2
  refine wpList_plain hgd fun K hK => ?_
  unfold Oper.wp execOp
  simp only [ho, resolve, invoke, builtin, Sem.run_bind, Sem.run_pure, Result.andThen_ok, List.map_toArray, List.map_cons, List.map_nil, hs, hx, hr]
  refine hK _ _ (h a' _ c' w' (by unfold Hid; rfl) h1 (grown_trans (grown_alloc w _ _) h2 (.inl rfl)) h3 ?_ ((Keeps.alloc mk w _).trans hk))
  rcases h4 with h4 | h4
  · exact .inl h4
  · refine .inr fun g hg => ?_
    rw [h4] at hg
    simp at hg
    omega

end Go.Proofs.YtganmnckdmkcbaaGreat

namespace Go.Proofs.YtganmnckdmkcbaaGreat
open Go.RowKit
set_option linter.unusedVariables false

def Near (w : World) (l u : Value) : Prop := u.ownBlock = l.ownBlock ∨ ∀ g, u.ownBlock = some g → w.heap.size ≤ g
theorem Near.on {w w' : World} {l u v : Value} (h : Near w l u) (k : v.ownBlock = u.ownBlock ∨ ∀ g, v.ownBlock = some g → w'.heap.size ≤ g) (hs : w.heap.size ≤ w'.heap.size) : Near w l v := by
  rcases k with k | k
  · rcases h with h | h
    · exact .inl (k.trans h)
    · exact .inr fun g hg => h g (by rw [← k]; exact hg)
  · exact .inr fun g hg => Nat.le_trans hs (k g hg)
theorem Near.grow {w : World} {l u : Value} (h : Near w l u) : u.ownBlock = l.ownBlock ∨ ∀ g, u.ownBlock = some g → w.heap.size ≤ g := h

def Marked (w w' : World) (l : Value) (G mk : Nat) : Prop := w.heap.size ≤ G ∧ ∀ i, i < 4 → ∃ ai ki ci, w'.cell? ⟨G, i, none⟩ = some (.slice ai ki ci) ∧ Rd w' (.slice ai ki ci) (List.replicate ki mk) ∧ Near w l (.slice ai ki ci)

theorem bv_at (L : List Nat) (t : Nat) (h : t < L.length) : (bv L)[t]? = some (.int .u8 ((L.getD t 0 : Nat) : Int)) := by
  simp [bv, List.getD, List.getElem?_eq_getElem h]
theorem fill_set {mk t : Nat} {xs : List Nat} (h : t < xs.length) : (List.replicate t mk ++ xs.drop t).set t mk = List.replicate (t + 1) mk ++ xs.drop (t + 1) := by
  rw [List.set_append_right _ _ (by simp), drop_cons xs t h]
  simp [List.replicate_succ']

def FullL (w : World) (G mk : Nat) : Prop := ∀ i, i < 4 → ∃ ai ki ci, w.cell? ⟨G, i, none⟩ = some (.slice ai ki ci) ∧ Rd w (.slice ai ki ci) (List.replicate ki mk)
theorem FullL.later {w w' : World} {G mk : Nat} (h : FullL w G mk) (hb : Below w.heap.size w w') : FullL w' G mk := fun i hi => by
  obtain ⟨a, k, c, h1, h2⟩ := h i hi
  exact ⟨a, k, c, by rw [hb.cell (p := ⟨G, i, none⟩) (World.block_lt_of_cell? w _ h1)]; exact h1, h2.later hb⟩

end Go.Proofs.YtganmnckdmkcbaaGreat

namespace Go.Proofs.YtganmnckdmkcbaaGreat
open Go.RowKit
set_option linter.unusedVariables false

theorem Own.far {w w' : World} {B m : Nat} {v : Value} {o : Option Nat} {xs : List Nat} (h : Own w B v m xs) (k : w.grownBy w' o) (hne : ∀ g, o = some g → v.ownBlock ≠ some g) : Own w' B v m xs := by
  refine ⟨h.1, h.2.1, ?_⟩
  rcases h.2.2 with h2 | ⟨g, cap, cur, h3, h4, h5, h6⟩
  · exact .inl h2
  · refine .inr ⟨g, cap, cur, h3, h4, ?_, h6⟩
    rw [k.block g (Array.getElem?_eq_some_iff.1 h5).1 ?_]
    · exact h5
    · intro e
      exact hne g e.symm (by rw [h3]; rfl)
theorem Laid.far {w w' : World} {B : Nat} {u : Value} {o : Option Nat} {bs : List Nat} (h : Laid w B u bs) (k : w.grownBy w' o) (hne : ∀ g, o = some g → u.ownBlock ≠ some g) : Laid w' B u bs := by
  obtain ⟨g, c, rfl, h2, h3, h4⟩ := h
  exact ⟨g, c, rfl, h2, h3, h4.far k (fun x hx => hne x hx)⟩
theorem Marked.full {w0 w : World} {l : Value} {G mk : Nat} (h : Marked w0 w l G mk) : FullL w G mk := fun i hi => by
  obtain ⟨a, k, c, h1, h2, _⟩ := h.2 i hi
  exact ⟨a, k, c, h1, h2⟩
theorem Marked.far {w0 w w' : World} {l : Value} {G mk : Nat} {o : Option Nat} (h : Marked w0 w l G mk) (k : w.grownBy w' o) (ho : ∀ g, o = some g → g < w0.heap.size ∧ l.ownBlock ≠ some g) : FullL w' G mk := fun i hi => by
  obtain ⟨a, kk, c, h1, h2, h3⟩ := h.2 i hi
  refine ⟨a, kk, c, ?_, ?_⟩
  · refine k.cell h1 ?_
    intro e
    have := (ho G e.symm).1
    have := h.1
    omega
  · obtain ⟨q1, a', cap, q2, q3, q4, q5, q6, q7⟩ := h2
    refine ⟨q1, a', cap, q2, q3, q4, q5, q6, ?_⟩
    rcases q7 with q7 | ⟨b, off, rfl, hc⟩
    · exact .inl q7
    · refine .inr ⟨b, off, rfl, fun j hj => k.cell (hc j hj) ?_⟩
      intro e
      obtain ⟨e1, e2⟩ := ho b e.symm
      simp only [Value.slice.injEq] at q2
      rw [q2.1] at h3
      rcases h3 with h3 | h3
      · exact e2 (by rw [← h3]; rfl)
      · have := h3 b rfl
        omega
theorem below_grows {w wt w' : World} {v : Value} {B n : Nat} {xs : List Nat} (hb : Below w.heap.size w wt) (ho : Own wt B v n xs) (hB : w.heap.size ≤ B) (k : wt.grownBy w' v.ownBlock) : Below w.heap.size w w' :=
  hb.grown k hb.size (fun g hg => Nat.le_trans hB (ho.2.lt g hg).1)

open Classical in
noncomputable def startL (r : List Nat) : List Nat := if RowOk r then ordL r else []
open Classical in
noncomputable def behindL (r : List Nat) : List Nat := if RowOk r then ordL r ++ [255] else []
open Classical in
noncomputable def rowE (r : List Nat) : Nat := if RowOk r then 0 else 20
theorem startL_ok (r : List Nat) (h : Bys r) : Bys (startL r) ∧ (startL r).length ≤ 520 := by
  unfold startL
  split
  · rename_i k
    exact ⟨ordL_bys r h, by have := rowOk_ord k; omega⟩
  · exact ⟨by intro x hx; simp at hx, by simp⟩
theorem behindL_ok (r : List Nat) (h : Bys r) : Bys (behindL r) ∧ (behindL r).length ≤ 520 := by
  unfold behindL
  split
  · rename_i k
    exact ⟨Bys.app (ordL_bys r h) (fun x hx => by simp at hx; omega), by have := rowOk_ord k; simp; omega⟩
  · exact ⟨by intro x hx; simp at hx, by simp⟩
theorem keyL_pos (e : EntD) : 1 ≤ (keyL e).length := by rw [keyL_parts]; simp; omega

end Go.Proofs.YtganmnckdmkcbaaGreat

namespace Go.Proofs.YtganmnckdmkcbaaGreat
open Go.RowKit
set_option linter.unusedVariables false

set_option maxRecDepth 100000 in
set_option maxHeartbeats 4000000 in
theorem refCheck_any {e : EntD} {w : World} (hok : EntD.Ok w e) :
    Calls Tryz.prog 84 #[.agg e.cells] w fun r w' => r = .returned (.int .i64 ((checkS e : Nat) : Int)) ∧ Below w.heap.size w w' := by
  obtain ⟨vr, fam, vq, ts, seq, kind, vv, row, qual, val⟩ := e
  obtain ⟨h1, h2, h3⟩ := hok
  simp only [EntD.cells] at *
  obtain ⟨ar, nr, cr, rfl⟩ := rd_slice h1
  obtain ⟨aq, nq, cq, rfl⟩ := rd_slice h2
  obtain ⟨av, nv, cv, rfl⟩ := rd_slice h3
  obtain ⟨er, _, _, lr⟩ := rd_lens h1
  obtain ⟨eq, _, _, lq⟩ := rd_lens h2
  obtain ⟨ev, _, _, lv⟩ := rd_lens h3
  have A1 := (Below.refl w.heap.size w).alloc (Nat.le_refl _) (.cells #[.slice ar nr cr, .int .i64 fam, .slice aq nq cq, .int .i64 ts, .int .i64 seq, .int .i64 kind, .slice av nv cv] 84)
  obtain ⟨S, hS⟩ : ∃ S, S = checkS ⟨.slice ar nr cr, fam, .slice aq nq cq, ts, seq, kind, .slice av nv cv, row, qual, val⟩ := ⟨_, rfl⟩
  rw [← hS]
  unfold checkS at hS
  simp only at hS
  rw [← er, ← eq, ← ev] at hS
  have HS : Hid (S = _) := hS
  clear hS er eq ev h1 h2 h3
  go_enter Tryz.func84, Tryz.ntmps84
  go_wp2_with fail
  by_cases c1 : nr = 0 ∨ 256 < nr
  · refine (refOut_out _ _ _ _ (by omega)).mono ?_
    rintro e1 w1 ⟨rfl, rfl⟩
    have HE : Hid (S = 20) := by unfold Hid; rw [HS.out]; repeat (first | rw [if_pos (by omega)] | rw [if_neg (by omega)])
    clear HS
    go_wp2
    go_ret
    exact ⟨by rw [HE.out]; rfl, A1⟩
  refine (refOut_in _ _ _ _ (by omega) (by omega)).mono ?_
  rintro e1 w1 ⟨rfl, rfl⟩
  go_wp2_with fail
  by_cases c2 : fam < 0 ∨ 8 ≤ fam
  · refine (refOut_out _ _ _ _ (by omega)).mono ?_
    rintro e1 w1 ⟨rfl, rfl⟩
    have HE : Hid (S = 21) := by unfold Hid; rw [HS.out]; repeat (first | rw [if_pos (by omega)] | rw [if_neg (by omega)])
    clear HS
    go_wp2
    go_ret
    exact ⟨by rw [HE.out]; rfl, A1⟩
  refine (refOut_in _ _ _ _ (by omega) (by omega)).mono ?_
  rintro e1 w1 ⟨rfl, rfl⟩
  by_cases c3 : 256 < nq
  · have q1 : (256 : Int) < (nq : Int) := by omega
    have HE : Hid (S = 22) := by unfold Hid; rw [HS.out]; repeat (first | rw [if_pos (by omega)] | rw [if_neg (by omega)])
    clear HS
    go_wp2
    go_ret
    exact ⟨by rw [HE.out]; rfl, A1⟩
  have q1 : (nq : Int) ≤ 256 := by omega
  by_cases k5 : kind = 5
  · subst k5
    by_cases q0 : 0 < nq
    · have q2 : (0 : Int) < (nq : Int) := by omega
      have HE : Hid (S = 22) := by unfold Hid; rw [HS.out]; repeat (first | rw [if_pos (by omega)] | rw [if_neg (by omega)])
      clear HS
      go_wp2
      go_ret
      exact ⟨by rw [HE.out]; rfl, A1⟩
    have q2 : (nq : Int) ≤ 0 := by omega
    go_wp2_with fail
    by_cases c4 : ts < 1 ∨ 1099511627776 < ts
    · refine (refOut_out _ _ _ _ (by omega)).mono ?_
      rintro e1 w1 ⟨rfl, rfl⟩
      have HE : Hid (S = 23) := by unfold Hid; rw [HS.out]; repeat (first | rw [if_pos (by omega)] | rw [if_neg (by omega)])
      clear HS
      go_wp2
      go_ret
      exact ⟨by rw [HE.out]; rfl, A1⟩
    refine (refOut_in _ _ _ _ (by omega) (by omega)).mono ?_
    rintro e1 w1 ⟨rfl, rfl⟩
    go_wp2_with fail
    by_cases c5 : seq < 0 ∨ 17592186044431 < seq
    · refine (refOut_out _ _ _ _ (by omega)).mono ?_
      rintro e1 w1 ⟨rfl, rfl⟩
      have HE : Hid (S = 24) := by unfold Hid; rw [HS.out]; repeat (first | rw [if_pos (by omega)] | rw [if_neg (by omega)])
      clear HS
      go_wp2
      go_ret
      exact ⟨by rw [HE.out]; rfl, A1⟩
    refine (refOut_in _ _ _ _ (by omega) (by omega)).mono ?_
    rintro e1 w1 ⟨rfl, rfl⟩
    go_wp2_with fail
    refine (refOut_in _ _ _ _ (by decide) (by decide)).mono ?_
    rintro e1 w1 ⟨rfl, rfl⟩
    by_cases c7 : 4096 < nv
    · have v1 : (4096 : Int) < (nv : Int) := by omega
      have HE : Hid (S = 26) := by unfold Hid; rw [HS.out]; repeat (first | rw [if_pos (by omega)] | rw [if_neg (by omega)])
      clear HS
      go_wp2
      go_ret
      exact ⟨by rw [HE.out]; rfl, A1⟩
    have v1 : (nv : Int) ≤ 4096 := by omega
    by_cases c9 : 0 < nv
    · have v0 : (0 : Int) < (nv : Int) := by omega
      have HE : Hid (S = 26) := by unfold Hid; rw [HS.out]; repeat (first | rw [if_pos (by omega)] | rw [if_neg (by omega)])
      clear HS
      go_wp2
      go_ret
      exact ⟨by rw [HE.out]; rfl, A1⟩
    have v0 : (nv : Int) ≤ 0 := by omega
    have HE : Hid (S = 0) := by unfold Hid; rw [HS.out]; repeat (first | rw [if_pos (by omega)] | rw [if_neg (by omega)])
    clear HS
    go_wp2
    go_ret
    exact ⟨by rw [HE.out]; rfl, A1⟩
  have k51 : (kind == 5) = false := by simp; omega
  go_wp2_with fail
  by_cases c4 : ts < 1 ∨ 1099511627776 < ts
  · refine (refOut_out _ _ _ _ (by omega)).mono ?_
    rintro e1 w1 ⟨rfl, rfl⟩
    have HE : Hid (S = 23) := by unfold Hid; rw [HS.out]; repeat (first | rw [if_pos (by omega)] | rw [if_neg (by omega)])
    clear HS
    go_wp2
    go_ret
    exact ⟨by rw [HE.out]; rfl, A1⟩
  refine (refOut_in _ _ _ _ (by omega) (by omega)).mono ?_
  rintro e1 w1 ⟨rfl, rfl⟩
  go_wp2_with fail
  by_cases c5 : seq < 0 ∨ 17592186044431 < seq
  · refine (refOut_out _ _ _ _ (by omega)).mono ?_
    rintro e1 w1 ⟨rfl, rfl⟩
    have HE : Hid (S = 24) := by unfold Hid; rw [HS.out]; repeat (first | rw [if_pos (by omega)] | rw [if_neg (by omega)])
    clear HS
    go_wp2
    go_ret
    exact ⟨by rw [HE.out]; rfl, A1⟩
  refine (refOut_in _ _ _ _ (by omega) (by omega)).mono ?_
  rintro e1 w1 ⟨rfl, rfl⟩
  go_wp2_with fail
  by_cases c6 : kind < 1 ∨ 5 < kind
  · refine (refOut_out _ _ _ _ (by omega)).mono ?_
    rintro e1 w1 ⟨rfl, rfl⟩
    have HE : Hid (S = 25) := by unfold Hid; rw [HS.out]; repeat (first | rw [if_pos (by omega)] | rw [if_neg (by omega)])
    clear HS
    go_wp2
    go_ret
    exact ⟨by rw [HE.out]; rfl, A1⟩
  refine (refOut_in _ _ _ _ (by omega) (by omega)).mono ?_
  rintro e1 w1 ⟨rfl, rfl⟩
  by_cases c7 : 4096 < nv
  · have v1 : (4096 : Int) < (nv : Int) := by omega
    have HE : Hid (S = 26) := by unfold Hid; rw [HS.out]; repeat (first | rw [if_pos (by omega)] | rw [if_neg (by omega)])
    clear HS
    go_wp2
    go_ret
    exact ⟨by rw [HE.out]; rfl, A1⟩
  have v1 : (nv : Int) ≤ 4096 := by omega
  by_cases c8 : kind = 1
  · subst c8
    have HE : Hid (S = 0) := by unfold Hid; rw [HS.out]; repeat (first | rw [if_pos (by omega)] | rw [if_neg (by omega)])
    clear HS
    go_wp2
    go_ret
    exact ⟨by rw [HE.out]; rfl, A1⟩
  have k1 : (kind != 1) = true := by simp; omega
  have k2 : (kind == 1) = false := by simp; omega
  by_cases c9 : 0 < nv
  · have v0 : (0 : Int) < (nv : Int) := by omega
    have HE : Hid (S = 26) := by unfold Hid; rw [HS.out]; repeat (first | rw [if_pos (by omega)] | rw [if_neg (by omega)])
    clear HS
    go_wp2
    go_ret
    exact ⟨by rw [HE.out]; rfl, A1⟩
  have v0 : (nv : Int) ≤ 0 := by omega
  have HE : Hid (S = 0) := by unfold Hid; rw [HS.out]; repeat (first | rw [if_pos (by omega)] | rw [if_neg (by omega)])
  clear HS
  go_wp2
  go_ret
  exact ⟨by rw [HE.out]; rfl, A1⟩

end Go.Proofs.YtganmnckdmkcbaaGreat

namespace Go.Proofs.YtganmnckdmkcbaaGreat
open Go.RowKit Go.Maps
set_option linter.unusedVariables false

def chkF (k : Int) (e : EntD) : Int := if checkS e ≠ 0 then (checkS e : Int) else if 0 ≤ k ∧ k ≤ e.fam then 21 else 0
theorem chkF_k (k : Nat) (e : EntD) : chkF (k : Int) e = check3S k e := by
  unfold chkF check3S
  by_cases h : checkS e ≠ 0
  · rw [if_pos h, if_pos h]
  · rw [if_neg h, if_neg h]
    by_cases z : (k : Int) ≤ e.fam
    · rw [if_pos ⟨by omega, z⟩, if_pos z]
    · rw [if_neg (fun y => z y.2), if_neg z]
theorem chkF_neg {k : Int} (hk : k < 0) (e : EntD) : chkF k e = chkC e := by
  unfold chkF chkC
  by_cases h : checkS e ≠ 0
  · rw [if_pos h]
  · rw [if_neg h, if_neg (by omega)]
    have : checkS e = 0 := by simpa using h
    rw [this]; rfl
def OneS (l : List EntD) : Prop := ∀ x ∈ l, ∀ y ∈ l, x.seq = y.seq → x.dat = y.dat
theorem oneS_once (l : List EntD) : OneS l ↔ onceS l ≠ none := by
  constructor
  · intro h z
    obtain ⟨xs, hx⟩ := once_ok l [] (by rw [List.nil_append]; exact h)
    have : onceS l = some xs := hx
    rw [this] at z
    cases z
  · intro h x hx y hy e
    cases ho : onceS l with
    | none => exact absurd ho h
    | some xs =>
      obtain ⟨h1, h2⟩ := once_all l [] xs List.Pairwise.nil ho
      have m1 := (h2 x.dat).2 (by simpa using List.mem_map_of_mem hx)
      have m2 := (h2 y.dat).2 (by simpa using List.mem_map_of_mem hy)
      have hp : (xs.map EntD.dat).Pairwise fun a b => a.seq ≠ b.seq := by rw [List.pairwise_map]; exact h1
      exact pair_eq hp m1 m2 e
set_option maxRecDepth 100000 in
set_option maxHeartbeats 8000000 in
theorem refChecked_any {w : World} {a : Option Addr} {cap : Nat} {l : List EntD} (k : Int) (hl : RdL3 w a cap l) (hn : l.length ≤ 1353245080300) :
    Calls Tryz.prog 50 #[.slice a l.length cap, .int .i64 k] w fun r w' => r = .returned (.int .i64 (inOrderE (chkF k) l)) ∧ Below w.heap.size w w' := by
  obtain ⟨N, hN⟩ : ∃ N, N = l.length := ⟨_, rfl⟩
  obtain ⟨R, hR⟩ : ∃ R, R = inOrderE (chkF k) l := ⟨_, rfl⟩
  have hc := hl.cap
  rw [← hN] at hn hc ⊢
  rw [← hR]
  have HN := Lib.hid hN
  have HR := Lib.hid hR
  have HL := Lib.hid hl
  clear hN hR hl
  go_enter Tryz.func50, Tryz.ntmps50
  go_wp2
  go_loopw [5, 6] (fun i _ wr => ∃ t : Nat, t ≤ N ∧ i = .int .i64 (t : Int) ∧ Hid (∀ x ∈ l.take t, chkF k x = 0) ∧ Hid (Below w.heap.size w wr)) (fun i _ _ => N - (intOf i).toNat)
  case atStart => exact ⟨0, Nat.zero_le _, rfl, (fun x hx => by simp at hx), Below.refl _ _⟩
  case round =>
    obtain ⟨t, ht, rfl, HAll, HBw⟩ := hrel
    have t0 : (0 : Int) ≤ (t : Int) := by omega
    by_cases hlt : t < N
    · have hlt2 : (t : Int) < (N : Int) := by omega
      obtain ⟨e, he⟩ : ∃ e, l[t]? = some e := ⟨l[t]'(by rw [← HN.out]; exact hlt), List.getElem?_eq_getElem _⟩
      obtain ⟨ba, oa, rfl⟩ : ∃ b off, a = some ⟨b, off, none⟩ := by
        rcases HL.out.at_ with h0 | ⟨b, off, q, _⟩
        · rw [h0] at he; simp at he
        · exact ⟨b, off, q⟩
      have HCs : Hid (∀ Z, Below w.heap.size w Z → Z.cell? ⟨ba, oa + t * 7, none⟩ = some e.vr ∧ Z.cell? ⟨ba, oa + t * 7 + 1, none⟩ = some (.int .i64 e.fam) ∧ Z.cell? ⟨ba, oa + t * 7 + 2, none⟩ = some e.vq ∧ Z.cell? ⟨ba, oa + t * 7 + 3, none⟩ = some (.int .i64 e.ts) ∧ Z.cell? ⟨ba, oa + t * 7 + 4, none⟩ = some (.int .i64 e.seq) ∧ Z.cell? ⟨ba, oa + t * 7 + 5, none⟩ = some (.int .i64 e.kind) ∧ Z.cell? ⟨ba, oa + t * 7 + 6, none⟩ = some e.vv) := fun Z b => by
        have cx := (HL.out.later b).cells (Below.refl _ _) he
        exact ⟨by have := cx 0 _ rfl; simpa using this, cx 1 _ rfl, cx 2 _ rfl, cx 3 _ rfl, cx 4 _ rfl, cx 5 _ rfl, cx 6 _ rfl⟩
      have HCk := Lib.hid (refCheck_any ((HL.out.later HBw.out).ok e (List.mem_of_getElem? he)))
      unfold EntD.cells at HCk
      obtain ⟨c, hc2⟩ : ∃ c, c = checkS e := ⟨_, rfl⟩
      rw [← hc2] at HCk
      have HC2 := Lib.hid hc2
      have HE := Lib.hid he
      have HBad : Hid (chkF k e ≠ 0 → R = chkF k e) := fun h0 => by
        have hd : l = l.take t ++ e :: l.drop (t + 1) := by
          have h1 := (List.getElem?_eq_some_iff.1 HE.out)
          rw [← h1.2, ← List.drop_eq_getElem_cons, List.take_append_drop]
        have hfb : firstBad (chkF k) l = chkF k e := by
          rw [hd]
          exact firstBad_at HAll.out h0
        rw [HR.out, inOrderE, if_pos (by rw [hfb]; exact h0), hfb]
      have HGood : Hid (chkF k e = 0 → ∀ x ∈ l.take (t + 1), chkF k x = 0) := fun h0 x hx => by
        rw [List.take_add_one, HE.out] at hx
        rcases List.mem_append.1 hx with q | q
        · exact HAll.out x q
        · have : x = e := by simpa using q
          rw [this]; exact h0
      obtain ⟨x0, x1, x2, x3, x4, x5, x6⟩ := HCs.out _ HBw.out
      clear he hc2
      go_wp2_with fail
      refine Calls.mono HCk.out ?_
      rintro r w1 ⟨rfl, b1⟩
      have B1 := Lib.hid (HBw.out.trans (b1.mono HBw.out.size))
      clear b1 x0 x1 x2 x3 x4 x5 x6 HCk
      obtain ⟨x0, x1, x2, x3, x4, x5, x6⟩ := HCs.out _ B1.out
      by_cases c0 : c = 0
      · by_cases k0 : 0 ≤ k
        · have dk : decide ((0 : Int) ≤ k) = true := decide_eq_true k0
          by_cases kf : k ≤ e.fam
          · have df : decide (k ≤ e.fam) = true := decide_eq_true kf
            have q : Hid (R = 21) := by
              have : chkF k e = 21 := by unfold chkF; rw [← HC2.out, if_neg (by simpa using c0), if_pos ⟨k0, kf⟩]
              unfold Hid
              rw [HBad.out (by rw [this]; decide), this]
            subst c0
            clear k0 kf
            go_wp2
            go_ret
            exact ⟨by rw [q.out]; rfl, B1.out⟩
          · have df : decide (k ≤ e.fam) = false := decide_eq_false kf
            have q : Hid (∀ x ∈ l.take (t + 1), chkF k x = 0) := HGood.out (by unfold chkF; rw [← HC2.out, if_neg (by simpa using c0), if_neg (fun z => kf z.2)])
            subst c0
            clear k0 kf
            go_wp2
            go_roundw
            case rel => exact ⟨t + 1, by omega, by go_num, q.out, B1.out⟩
            case measure => simp only [intOf]; omega
        · have dk : decide ((0 : Int) ≤ k) = false := decide_eq_false k0
          have q : Hid (∀ x ∈ l.take (t + 1), chkF k x = 0) := HGood.out (by unfold chkF; rw [← HC2.out, if_neg (by simpa using c0), if_neg (fun z => k0 z.1)])
          subst c0
          clear k0
          go_wp2
          go_roundw
          case rel => exact ⟨t + 1, by omega, by go_num, q.out, B1.out⟩
          case measure => simp only [intOf]; omega
      · have dc : ((c : Int) != 0) = true := by simp; omega
        have q : Hid (R = (c : Int)) := by
          have : chkF k e = (c : Int) := by unfold chkF; rw [← HC2.out, if_pos c0]
          unfold Hid
          rw [HBad.out (by rw [this]; omega), this]
        clear c0
        go_wp2
        go_ret
        exact ⟨by rw [q.out]; rfl, B1.out⟩
    · have hge : ¬ (t : Int) < (N : Int) := by omega
      have HAl : Hid (∀ x ∈ l, chkF k x = 0) := fun x hx => HAll.out x (by rw [List.take_of_length_le (by rw [← HN.out]; omega)]; exact hx)
      have HRv : Hid ((¬ OneS l → R = 31) ∧ (OneS l → R = 0)) := by
        have e : R = if onceS l = none then 31 else 0 := by rw [HR.out, inOrderE, if_neg (by rw [firstBad_zero HAl.out]; simp)]
        refine ⟨fun z => ?_, fun z => ?_⟩
        · rw [e, if_pos]
          cases ho : onceS l with
          | none => rfl
          | some xs => exact absurd ((oneS_once l).2 (by rw [ho]; simp)) z
        · rw [e, if_neg ((oneS_once l).1 z)]
      clear HAll
      go_wp2
      go_loopw [7, 8, 9] (fun i _ _ wr => ∃ u : Nat, u ≤ N ∧ i = .int .i64 (u : Int) ∧ Hid (OneS (l.take u)) ∧ Hid (Below w.heap.size w wr)) (fun i _ _ _ => N - (intOf i).toNat)
      case atStart => exact ⟨0, Nat.zero_le _, rfl, (fun x hx => by simp at hx), HBw.out⟩
      case round =>
        obtain ⟨u, hu, rfl, HOn, HBu⟩ := hrel
        have u0 : (0 : Int) ≤ (u : Int) := by omega
        by_cases hlu : u < N
        · have hlu2 : (u : Int) < (N : Int) := by omega
          obtain ⟨x, hx⟩ : ∃ x, l[u]? = some x := ⟨l[u]'(by rw [← HN.out]; exact hlu), List.getElem?_eq_getElem _⟩
          have HX := Lib.hid hx
          obtain ⟨ba, oa, rfl⟩ : ∃ b off, a = some ⟨b, off, none⟩ := by
            rcases HL.out.at_ with h0 | ⟨b, off, q, _⟩
            · rw [h0] at hx; simp at hx
            · exact ⟨b, off, q⟩
          clear hx
          go_wp2
          go_loopw [8, 9] (fun i _ wr => ∃ v : Nat, v ≤ u ∧ i = .int .i64 (v : Int) ∧ Hid (∀ y ∈ l.take v, y.seq = x.seq → y.dat = x.dat) ∧ Hid (Below w.heap.size w wr)) (fun i _ _ => u - (intOf i).toNat)
          case atStart => exact ⟨0, Nat.zero_le _, rfl, (fun y hy => by simp at hy), HBu.out⟩
          case round =>
            obtain ⟨v, hv, rfl, HYs, HBv⟩ := hrel
            have v0 : (0 : Int) ≤ (v : Int) := by omega
            by_cases hlv : v < u
            · have hlv2 : (v : Int) < (u : Int) := by omega
              have hvN : (v : Int) < (N : Int) := by omega
              obtain ⟨y, hy⟩ : ∃ y, l[v]? = some y := ⟨l[v]'(by rw [← HN.out]; omega), List.getElem?_eq_getElem _⟩
              have HY := Lib.hid hy
              have HCx : Hid (∀ Z, Below w.heap.size w Z → (Z.cell? ⟨ba, oa + u * 7, none⟩ = some x.vr ∧ Z.cell? ⟨ba, oa + u * 7 + 1, none⟩ = some (.int .i64 x.fam) ∧ Z.cell? ⟨ba, oa + u * 7 + 2, none⟩ = some x.vq ∧ Z.cell? ⟨ba, oa + u * 7 + 3, none⟩ = some (.int .i64 x.ts) ∧ Z.cell? ⟨ba, oa + u * 7 + 4, none⟩ = some (.int .i64 x.seq) ∧ Z.cell? ⟨ba, oa + u * 7 + 5, none⟩ = some (.int .i64 x.kind) ∧ Z.cell? ⟨ba, oa + u * 7 + 6, none⟩ = some x.vv) ∧ (Z.cell? ⟨ba, oa + v * 7, none⟩ = some y.vr ∧ Z.cell? ⟨ba, oa + v * 7 + 1, none⟩ = some (.int .i64 y.fam) ∧ Z.cell? ⟨ba, oa + v * 7 + 2, none⟩ = some y.vq ∧ Z.cell? ⟨ba, oa + v * 7 + 3, none⟩ = some (.int .i64 y.ts) ∧ Z.cell? ⟨ba, oa + v * 7 + 4, none⟩ = some (.int .i64 y.seq) ∧ Z.cell? ⟨ba, oa + v * 7 + 5, none⟩ = some (.int .i64 y.kind) ∧ Z.cell? ⟨ba, oa + v * 7 + 6, none⟩ = some y.vv)) := fun Z b => by
                have cx := (HL.out.later b).cells (Below.refl _ _) HX.out
                have cy := (HL.out.later b).cells (Below.refl _ _) hy
                exact ⟨⟨by have := cx 0 _ rfl; simpa using this, cx 1 _ rfl, cx 2 _ rfl, cx 3 _ rfl, cx 4 _ rfl, cx 5 _ rfl, cx 6 _ rfl⟩, by have := cy 0 _ rfl; simpa using this, cy 1 _ rfl, cy 2 _ rfl, cy 3 _ rfl, cy 4 _ rfl, cy 5 _ rfl, cy 6 _ rfl⟩
              have HSm : Hid (∀ Z, Below w.heap.size w Z → Calls Tryz.prog 45 #[.agg x.cells, .agg y.cells] Z fun r w' => r = .returned (.bool (decide (EntD.Same x y))) ∧ Below Z.heap.size Z w') := fun Z b => same3r_any ((HL.out.later b).ok x (List.mem_of_getElem? HX.out)) ((HL.out.later b).ok y (List.mem_of_getElem? hy))
              unfold EntD.cells at HSm
              obtain ⟨sm, hsm⟩ : ∃ sm, sm = decide (EntD.Same x y) := ⟨_, rfl⟩
              rw [← hsm] at HSm
              have HSv : Hid (sm = true ↔ y.dat = x.dat) := by
                unfold Hid
                rw [hsm, decide_eq_true_eq, ← EntD.dat_same]
                exact ⟨fun h => h.symm, fun h => h.symm⟩
              have HNx : Hid ((y.seq = x.seq → y.dat = x.dat) → ∀ z ∈ l.take (v + 1), z.seq = x.seq → z.dat = x.dat) := fun h z hz e => by
                rw [List.take_add_one, HY.out] at hz
                rcases List.mem_append.1 hz with q | q
                · exact HYs.out z q e
                · have : z = y := by simpa using q
                  rw [this] at e ⊢; exact h e
              have D0 : Below w.heap.size w wr.drew := HBv.out.drew
              clear hy hsm
              go_wp2_with fail
              go_region_held3 (fun Z => (Z.cell? ⟨ba, oa + u * 7, none⟩ = some x.vr ∧ Z.cell? ⟨ba, oa + u * 7 + 1, none⟩ = some (.int .i64 x.fam) ∧ Z.cell? ⟨ba, oa + u * 7 + 2, none⟩ = some x.vq ∧ Z.cell? ⟨ba, oa + u * 7 + 3, none⟩ = some (.int .i64 x.ts) ∧ Z.cell? ⟨ba, oa + u * 7 + 4, none⟩ = some (.int .i64 x.seq) ∧ Z.cell? ⟨ba, oa + u * 7 + 5, none⟩ = some (.int .i64 x.kind) ∧ Z.cell? ⟨ba, oa + u * 7 + 6, none⟩ = some x.vv) ∧ (Z.cell? ⟨ba, oa + v * 7, none⟩ = some y.vr ∧ Z.cell? ⟨ba, oa + v * 7 + 1, none⟩ = some (.int .i64 y.fam) ∧ Z.cell? ⟨ba, oa + v * 7 + 2, none⟩ = some y.vq ∧ Z.cell? ⟨ba, oa + v * 7 + 3, none⟩ = some (.int .i64 y.ts) ∧ Z.cell? ⟨ba, oa + v * 7 + 4, none⟩ = some (.int .i64 y.seq) ∧ Z.cell? ⟨ba, oa + v * 7 + 5, none⟩ = some (.int .i64 y.kind) ∧ Z.cell? ⟨ba, oa + v * 7 + 6, none⟩ = some y.vv)) (first | exact HCx.out _ D1 | exact HCx.out _ D0) ((go_at_call 45; refine Calls.mono (HSm.out _ D0) ?_; rintro e1 w2 ⟨rfl, hb1⟩; have D1 := D0.trans (hb1.mono D0.size)))
              have BD := Lib.hid D1
              clear D0 D1
              obtain ⟨⟨x0, x1, x2, x3, x4, x5, x6⟩, y0, y1, y2, y3, y4, y5, y6⟩ := HCx.out _ BD.out
              by_cases cs : x.seq = y.seq
              · have ds : (x.seq == y.seq) = true := by simpa using cs
                cases sm with
                | true =>
                  have q : Hid (∀ z ∈ l.take (v + 1), z.seq = x.seq → z.dat = x.dat) := HNx.out (fun _ => HSv.out.1 rfl)
                  clear cs
                  go_wp2_with fail
                  go_quiet (fail)
                  go_wp2
                  go_roundw
                  case rel => exact ⟨v + 1, by omega, by go_num, q.out, below_drewN BD.out _⟩
                  case measure => simp only [intOf]; omega
                | false =>
                  have q : Hid (R = 31) := HRv.out.1 (fun z => by
                    have := HSv.out.2 (z y (List.mem_of_getElem? HY.out) x (List.mem_of_getElem? HX.out) cs.symm)
                    cases this)
                  clear cs
                  go_wp2_with fail
                  go_quiet (fail)
                  go_wp2
                  go_ret
                  exact ⟨by rw [q.out]; rfl, below_drewN BD.out _⟩
              · have ds : (x.seq == y.seq) = false := by simpa using cs
                have q : Hid (∀ z ∈ l.take (v + 1), z.seq = x.seq → z.dat = x.dat) := HNx.out (fun z => absurd z.symm cs)
                clear cs
                go_wp2_with fail
                go_quiet (fail)
                go_wp2
                go_roundw
                case rel => exact ⟨v + 1, by omega, by go_num, q.out, below_drewN BD.out _⟩
                case measure => simp only [intOf]; omega
            · have hgv : ¬ (v : Int) < (u : Int) := by omega
              have q : Hid (OneS (l.take (u + 1))) := by
                have evu : v = u := by omega
                have hy := HYs.out
                rw [evu] at hy
                intro p hp r hr e
                rw [List.take_add_one, HX.out] at hp hr
                rcases List.mem_append.1 hp with a1 | a1
                · rcases List.mem_append.1 hr with b1 | b1
                  · exact HOn.out p a1 r b1 e
                  · have : r = x := by simpa using b1
                    rw [this] at e ⊢; exact hy p a1 e
                · have hpx : p = x := by simpa using a1
                  rcases List.mem_append.1 hr with b1 | b1
                  · rw [hpx] at e ⊢; exact (hy r b1 e.symm).symm
                  · have : r = x := by simpa using b1
                    rw [this, hpx]
              go_wp2
              go_roundw
              case rel => exact ⟨u + 1, by omega, by go_num, q.out, HBv.out⟩
              case measure => simp only [intOf]; omega
        · have hgu : ¬ (u : Int) < (N : Int) := by omega
          have q : Hid (R = 0) := HRv.out.2 (by
            have := HOn.out
            rw [List.take_of_length_le (by rw [← HN.out]; omega)] at this
            exact this)
          go_wp2
          go_ret
          exact ⟨by rw [q.out]; rfl, HBu.out⟩
end Go.Proofs.YtganmnckdmkcbaaGreat

namespace Go.Proofs.YtganmnckdmkcbaaGreat
open Go.RowKit
set_option linter.unusedVariables false

theorem firstNZ_zero : ∀ (l : List Int), firstNZ l = 0 → ∀ x ∈ l, x = 0
  | [], _ => fun x hx => by simp at hx
  | y :: r, h => fun x hx => by
    unfold firstNZ at h
    by_cases hy : y = 0
    · rw [if_pos hy] at h
      rcases List.mem_cons.1 hx with rfl | hx
      · exact hy
      · exact firstNZ_zero r h x hx
    · rw [if_neg hy] at h
      exact absurd h hy
theorem cmpI_zero {a b : Int} (h : cmpI a b = 0) : a = b := by
  unfold cmpI at h
  split at h
  · cases h
  · split at h
    · cases h
    · omega
theorem dif_self {xs : List Nat} {c : Int} (h : Dif xs xs c) : c = 0 := by
  rcases h with ⟨h, _⟩ | ⟨_, p, x, y, r, s, e1, e2, hx⟩ | ⟨_, p, x, y, r, s, e1, e2, hx⟩
  · exact h
  · rw [e1] at e2
    have := List.append_cancel_left e2
    simp at this
    omega
  · rw [e1] at e2
    have := List.append_cancel_left e2
    simp at this
    omega
theorem key_same {a b : EntD} (ha : checkS a = 0) (hb : checkS b = 0) (h : keyL a = keyL b) : a.fam = b.fam ∧ a.ts = b.ts ∧ a.seq = b.seq ∧ a.kind = b.kind ∧ a.row = b.row ∧ a.qual = b.qual := by
  have d := key_dif ha hb
  rw [h] at d
  have z := firstNZ_zero _ (dif_self d)
  refine ⟨cmpI_zero (z _ ?_), (cmpI_zero (z (cmpI b.ts a.ts) ?_)).symm, (cmpI_zero (z (cmpI b.seq a.seq) ?_)).symm, cmpI_zero (z _ ?_), ordC_eq _ _ (z _ ?_), ordC_eq _ _ (z _ ?_)⟩ <;> simp [cmpsS]
theorem keyL_len2 {e : EntD} (hc : checkS e = 0) : (keyL e).length ≤ 1048 := by
  obtain ⟨f1, f, f3, _, t, s, k, _⟩ := check_facts hc
  rw [keyL_parts]
  have l1 := ordL_len e.row
  have l2 := ordL_len e.qual
  have c1 : e.row.count 0 ≤ e.row.length := List.count_le_length
  have c2 : e.qual.count 0 ≤ e.qual.length := List.count_le_length
  split <;> simp [be8] <;> omega
theorem pack_trip {e : EntD} (hc : checkS e = 0) (A H : List Nat) : bytesR ((A ++ packL e) ++ H) A.length 1048 = (keyL e, A.length + (bytesL (keyL e)).length, 0) ∧ bytesR ((A ++ packL e) ++ H) (A.length + (bytesL (keyL e)).length) 4096 = (e.val, A.length + (packL e).length, 0) := by
  have l1 := keyL_len2 hc
  have l2 := (check_facts hc).2.2.2.2.2.2.2.1
  constructor
  · have := bytes_trip (keyL e) (by omega) 1048 l1 A (bytesL e.val ++ H)
    have e1 : (A ++ packL e) ++ H = A ++ (bytesL (keyL e) ++ (bytesL e.val ++ H)) := by simp [packL]
    rw [e1]; exact this
  · have := bytes_trip e.val (by omega) 4096 l2 (A ++ bytesL (keyL e)) H
    have e1 : (A ++ packL e) ++ H = (A ++ bytesL (keyL e)) ++ (bytesL e.val ++ H) := by simp [packL]
    rw [e1]
    simp only [List.length_append] at this ⊢
    rw [this]
    simp [packL]
    omega
theorem packL_len6 {e : EntD} (hc : checkS e = 0) : (packL e).length ≤ 6000 := by
  have l1 := keyL_len2 hc
  have l2 := (check_facts hc).2.2.2.2.2.2.2.1
  have := bytesL_le (keyL e)
  have := bytesL_le e.val
  simp only [packL, List.length_append]
  omega
theorem packL_bys {e : EntD} (hr : Bys e.row) (hq : Bys e.qual) (hv : Bys e.val) (hc : checkS e = 0) : Bys (packL e) := by
  have l1 := keyL_len2 hc
  have l2 := (check_facts hc).2.2.2.2.2.2.2.1
  exact Bys.app (bytesL_bys (keyL_bys hr hq hc) (by omega)) (bytesL_bys hv (by omega))

end Go.Proofs.YtganmnckdmkcbaaGreat

namespace Go.Proofs.YtganmnckdmkcbaaGreat
open Go.RowKit
set_option linter.unusedVariables false

def LaidE (w : World) (B : Nat) (D : EntD) : Prop := Laid w B D.vr D.row ∧ Laid w B D.vq D.qual ∧ Laid w B D.vv D.val
theorem LaidE.later {w w' : World} {B : Nat} {D : EntD} (h : LaidE w B D) (hb : Below w.heap.size w w') : LaidE w' B D := ⟨h.1.later hb, h.2.1.later hb, h.2.2.later hb⟩
theorem Laid.mono {w : World} {B B' : Nat} {u : Value} {bs : List Nat} (h : Laid w B u bs) (hB : B' ≤ B) : Laid w B' u bs := by
  obtain ⟨g, c, h1, h2, h3, h4⟩ := h
  exact ⟨g, c, h1, h2, h3, h4.mono hB⟩
theorem LaidE.mono {w : World} {B B' : Nat} {D : EntD} (h : LaidE w B D) (hB : B' ≤ B) : LaidE w B' D := ⟨h.1.mono hB, h.2.1.mono hB, h.2.2.mono hB⟩
def EntD.cut (e : EntD) : EntD := { e with row := e.row.take 5000, qual := e.qual.take 5000, val := e.val.take 5000 }
def EntD.Fine (e : EntD) : Prop := (Bys e.row ∧ e.row.length ≤ 5000) ∧ (Bys e.qual ∧ e.qual.length ≤ 5000) ∧ (Bys e.val ∧ e.val.length ≤ 5000)
theorem EntD.cut_fine {w : World} {e : EntD} (h : EntD.Ok w e) : EntD.Fine e.cut :=
  ⟨⟨fun x hx => h.1.1 x (List.mem_of_mem_take hx), by simp [EntD.cut]; omega⟩, ⟨fun x hx => h.2.1.1 x (List.mem_of_mem_take hx), by simp [EntD.cut]; omega⟩, ⟨fun x hx => h.2.2.1 x (List.mem_of_mem_take hx), by simp [EntD.cut]; omega⟩⟩
theorem EntD.Fine.same {a b : EntD} (h : EntD.Fine b) (s : EntD.Same a b) : EntD.Fine a := by
  unfold EntD.Fine at *
  rw [s.2.2.2.2.1, s.2.2.2.2.2.1, s.2.2.2.2.2.2]; exact h
theorem LaidE.ok {w : World} {B : Nat} {D : EntD} (h : LaidE w B D) (k : EntD.Fine D) : EntD.Ok w D := ⟨h.1.rd k.1.1 (by have := k.1.2; omega), h.2.1.rd k.2.1.1 (by have := k.2.1.2; omega), h.2.2.rd k.2.2.1 (by have := k.2.2.2; omega)⟩
theorem check_same {a b : EntD} (s : EntD.Same a b) : checkS a = checkS b := by
  obtain ⟨h1, h2, h3, h4, h5, h6, h7⟩ := s
  unfold checkS; rw [h1, h2, h3, h4, h5, h6, h7]
theorem keyL_same {a b : EntD} (s : EntD.Same a b) : keyL a = keyL b := by
  obtain ⟨h1, h2, h3, h4, h5, h6, h7⟩ := s
  unfold keyL; rw [h1, h2, h3, h4, h5, h6]
theorem packL_same {a b : EntD} (s : EntD.Same a b) : packL a = packL b := by
  unfold packL; rw [keyL_same s, s.2.2.2.2.2.2]

open Classical in
noncomputable def keyA (e : EntD) : List Nat := if checkS e = 0 then keyL e else []
open Classical in
noncomputable def packA (e : EntD) : List Nat := if checkS e = 0 then packL e else []
theorem keyA_same {a b : EntD} (s : EntD.Same a b) : keyA a = keyA b := by unfold keyA; rw [check_same s, keyL_same s]
theorem packA_same {a b : EntD} (s : EntD.Same a b) : packA a = packA b := by unfold packA; rw [check_same s, packL_same s]
theorem keyA_ok {e : EntD} (h : EntD.Fine e) : Bys (keyA e) ∧ (keyA e).length ≤ 6000 := by
  unfold keyA
  split
  · rename_i k
    exact ⟨keyL_bys h.1.1 h.2.1.1 k, by have := keyL_len2 k; omega⟩
  · exact ⟨by intro x hx; simp at hx, by simp⟩
theorem packA_ok {e : EntD} (h : EntD.Fine e) : Bys (packA e) ∧ (packA e).length ≤ 6000 := by
  unfold packA
  split
  · rename_i k
    exact ⟨packL_bys h.1.1 h.2.1.1 h.2.2.1 k, packL_len6 k⟩
  · exact ⟨by intro x hx; simp at hx, by simp⟩
theorem Laid.put {w : World} {B g i : Nat} {u x : Value} {bs : List Nat} (h : Laid w B u bs) (hg : g < B) : Laid (w.setCell ⟨g, i, none⟩ x) B u bs := by
  obtain ⟨g2, c, h1, h2, h3, h4⟩ := h
  refine ⟨g2, c, h1, h2, h3, h4.1, h4.2.1, ?_⟩
  rcases h4.2.2 with h5 | ⟨g3, cap, cur, h5, h6, h7, h8⟩
  · exact .inl h5
  · refine .inr ⟨g3, cap, cur, h5, h6, ?_, h8⟩
    rw [Below.heap_setCell w ⟨g, i, none⟩ x g3 (by simp; omega)]
    exact h7
theorem Laid.form {w : World} {B : Nat} {u : Value} {bs : List Nat} (h : Laid w B u bs) : ∃ a n c, u = .slice a n c := by
  obtain ⟨g, c, h1, _⟩ := h
  exact ⟨_, _, _, h1⟩
theorem Laid.fill {w : World} {B g : Nat} {u : Value} {bs : List Nat} {D : EntD} (h : Laid w B u bs) (hg : g < B) : Laid (filled w g D) B u bs :=
  (((((((h.put hg).put hg).put hg).put hg).put hg).put hg).put hg)

end Go.Proofs.YtganmnckdmkcbaaGreat

namespace Go.Proofs.YtganmnckdmkcbaaGreat
open Go.RowKit
set_option linter.unusedVariables false

set_option maxRecDepth 100000 in
theorem refFirst_any (a b : Bool) (w : World) : Calls Tryz.prog 115 #[.bool a, .bool b] w fun e w' => e = .returned (.int .i64 (cmpI (if a then 0 else 1) (if b then 0 else 1))) ∧ w' = w := by
  cases a <;> cases b <;>
  · go_enter Tryz.func115, Tryz.ntmps115
    go_wp2
    go_ret
    exact ⟨rfl, rfl⟩

theorem refFirst_ahead {a b : EntD} (k : Int) {p q : Bool} (hp : p = true ↔ a.kind = k) (hq : q = true ↔ b.kind = k) (w : World) : Calls Tryz.prog 115 #[.bool p, .bool q] w fun e w' => e = .returned (.int .i64 (aheadS a b k)) ∧ w' = w := by
  have h := refFirst_any p q w
  have e : cmpI (if p = true then 0 else 1) (if q = true then 0 else 1) = aheadS a b k := by
    unfold aheadS mark
    by_cases h1 : a.kind = k <;> by_cases h2 : b.kind = k <;> simp [h1, h2, hp, hq]
  rw [e] at h
  exact h

end Go.Proofs.YtganmnckdmkcbaaGreat
