import Derived.Test.YtdkolihakmnpiaaDoorK06
import Derived.Shelf.Abstract
namespace Go.Proofs.YtdkolihakmnpiaaDoor
open Go.RowKit
set_option linter.unusedVariables false

theorem RdL5.cel {w : World} {a : Option Addr} {kp : Nat} {xs : List EntD} (h : RdL5 w a kp xs) {i : Nat} {x : EntD} (hi : xs[i]? = some x) : ∃ b off, a = some ⟨b, off, none⟩ ∧ w.cell? ⟨b, off + i * 7, none⟩ = some x.vr ∧ w.cell? ⟨b, off + i * 7 + 1, none⟩ = some (.int .i64 x.fam) ∧ w.cell? ⟨b, off + i * 7 + 2, none⟩ = some x.vq ∧ w.cell? ⟨b, off + i * 7 + 3, none⟩ = some (.int .i64 x.ts) ∧ w.cell? ⟨b, off + i * 7 + 4, none⟩ = some (.int .i64 x.seq) ∧ w.cell? ⟨b, off + i * 7 + 5, none⟩ = some (.int .i64 x.kind) ∧ w.cell? ⟨b, off + i * 7 + 6, none⟩ = some x.vv := by
  rcases h.at_ with h1 | ⟨b, off, rfl, hc⟩
  · rw [h1] at hi; simp at hi
  · exact ⟨b, off, rfl, hc i x hi 0 _ rfl, hc i x hi 1 _ rfl, hc i x hi 2 _ rfl, hc i x hi 3 _ rfl, hc i x hi 4 _ rfl, hc i x hi 5 _ rfl, hc i x hi 6 _ rfl⟩
set_option maxRecDepth 100000 in
theorem finish_none {w : World} {g : Nat} {r : Int} {ve vp vl : Value} (h : BBox w g r ((0 : Nat) : Int) ve vp vl) : Calls Tryd.prog 23 #[.pointer (some ⟨g, 0, none⟩)] w fun x w' => x = .returned (.tuple #[.slice none 0 0, .int .i64 54]) ∧ w' = w := by
  obtain ⟨c0, c1, c2, c3, c4⟩ := h.cells
  clear h
  go_enter Tryd.func23, Tryd.ntmps23
  go_wp2
  go_ret2
  exact ⟨rfl, rfl⟩
structure Bu (W : World) (g r : Nat) (l : List EntD) (wr : World) (k : Nat) : Prop where
  bd : ∃ s ve vp vl, Bd wr W.heap.size g r s ve vp vl ∧ s.n = k ∧ bldS r Bs.zero l = bldS r s (l.drop k)
  below : Below W.heap.size W wr
set_option maxRecDepth 100000 in
set_option maxHeartbeats 4000000 in
theorem build_any {W : World} {a : Option Addr} {cap : Nat} {l : List EntD} (r : Int) (hr : RdL5 W a cap l) (ht : Tab W) :
    Calls Tryd.prog 8 #[.int .i64 r, .slice a l.length cap] W fun x W' => BuP W r l x W' := by
  obtain ⟨N, hN⟩ : ∃ N, N = l.length := ⟨_, rfl⟩
  rw [← hN]
  have HN := Lib.hid hN
  have HR := Lib.hid hr
  have HT := Lib.hid ht
  have hNm : N ≤ 9223372036854775807 := by have := hr.cap; unfold maxLen at this; omega
  have HBg := Lib.hid (begin_any r W)
  clear hN hr ht
  go_enter Tryd.func8, Tryd.ntmps8
  go_wp2_with fail
  refine Calls.mono HBg.out ?_
  rintro z X ⟨bX, h | h⟩
  · obtain ⟨hno, rfl⟩ := h
    have HEnd : Hid (BuP W r l (.returned (.tuple #[.slice none 0 0, .int .i64 1])) X) := ⟨_, 1, rfl, bX, fun _ => ⟨rfl, rfl⟩, fun k => absurd k hno, fun k => absurd k hno, fun k => absurd k hno⟩
    clear bX hno HBg
    go_wp2
    go_ret2
    exact HEnd.out
  obtain ⟨hr16, g, hg, rfl, hbx⟩ := h
  obtain ⟨rn, rfl⟩ : ∃ rn : Nat, r = (rn : Int) := ⟨r.toNat, by omega⟩
  have r1 : 1 ≤ rn := by omega
  have r16 : rn ≤ 16 := by omega
  have HS0 : Hid (Bu W g rn l X 0) := ⟨⟨Bs.zero, _, _, _, bd_zero hbx hg, rfl, by simp⟩, bX⟩
  have HGg : Hid (W.heap.size ≤ g) := hg
  clear hbx bX hr16 HBg hg
  go_wp2
  go_loopw [21] (fun i wr => ∃ k : Nat, k ≤ N ∧ i = .int .i64 (k : Int) ∧ Hid (Bu W g rn l wr k)) (fun i _ => N - (intOf i).toNat)
  case atStart => exact ⟨0, Nat.zero_le _, rfl, HS0⟩
  case round =>
    clear HS0
    obtain ⟨k, hk, rfl, HU⟩ := hrel
    have k0 : (0 : Int) ≤ (k : Int) := by omega
    by_cases hlt : k < N
    · have hlt2 : (k : Int) < (N : Int) := by omega
      have hl2 : k < l.length := by rw [← HN.out]; exact hlt
      obtain ⟨e, he⟩ : ∃ e, l[k]? = some e := ⟨l[k], List.getElem?_eq_getElem hl2⟩
      have hrd := HR.out.later HU.out.below
      have hok := hrd.ok e (List.mem_of_getElem? he)
      obtain ⟨b, off, rfl, d0, d1, d2, d3, d4, d5, d6⟩ := hrd.cel he
      have hcap := hrd.cap
      have hdrop : l.drop k = e :: l.drop (k + 1) := by
        rw [List.drop_eq_getElem_cons hl2]
        congr 1
        rw [List.getElem?_eq_getElem hl2] at he
        exact Option.some.inj he
      have A5 := (Below.refl wr.heap.size wr).alloc (Nat.le_refl _) (.cells e.cells 37)
      have eb := EBox.new wr e
      obtain ⟨X5, hX5⟩ : ∃ X5, X5 = wr.alloc (.cells e.cells 37) := ⟨_, rfl⟩
      rw [← hX5] at A5 eb
      obtain ⟨s, ve, vp, vl, hbd, hsn, hbs⟩ := HU.out.bd
      have b5 := HU.out.below.trans (A5.mono HU.out.below.size)
      have hadd := add_any (e := e) (hbd.later A5) ⟨r1, r16⟩ b5.size (fun wx fx => by
        have hb : Below W.heap.size X5 wx := fx.below b5.size (fun k hk => by
          rcases hk with rfl | hk | hk
          · exact HGg.out
          · exact (hbd.es.2.lt k hk).1
          · exact (hbd.ps.2.lt k hk).1)
        exact (HR.out.later (b5.trans hb)).ok e (List.mem_of_getElem? he))
      obtain ⟨E, hE⟩ : ∃ E, E = (addE rn s e).1 := ⟨_, rfl⟩
      have HStep : Hid (bldS rn Bs.zero l = if (addE rn s e).1 = 0 then bldS rn (addE rn s e).2 (l.drop (k + 1)) else ((addE rn s e).1, s)) := by
        unfold Hid
        rw [hbs, hdrop]
        rfl
      have HSn : Hid (E = 0 → (addE rn s e).2.n = k + 1) := fun h => by rw [addE_n rn s e (by rw [← hE]; exact h), hsn]
      obtain ⟨_, p1, q1, e1, -⟩ := hok.1
      obtain ⟨_, p2, q2, e2, -⟩ := hok.2.1
      obtain ⟨_, p3, q3, e3, -⟩ := hok.2.2
      have hce : e.cells = #[.slice p1 e.row.length q1, .int .i64 e.fam, .slice p2 e.qual.length q2, .int .i64 e.ts, .int .i64 e.seq, .int .i64 e.kind, .slice p3 e.val.length q3] := by unfold EntD.cells; rw [e1, e2, e3]
      have x0 := EBox.vr eb
      have x1 := EBox.fam eb
      have x2 := EBox.vq eb
      have x3 := EBox.ts eb
      have x4 := EBox.seq eb
      have x5 := EBox.kind eb
      have x6 := EBox.vv eb
      rw [e1] at d0 x0
      rw [e2] at d2 x2
      rw [e3] at d6 x6
      rw [hce] at hX5 hadd
      have HX5 := Lib.hid hX5
      have HAdd := Lib.hid hadd
      have HEe := Lib.hid hE
      have HB5 := Lib.hid b5
      obtain ⟨z1, hz1⟩ : ∃ z, z = e.row.length := ⟨_, rfl⟩
      obtain ⟨z2, hz2⟩ : ∃ z, z = e.qual.length := ⟨_, rfl⟩
      obtain ⟨z3, hz3⟩ : ∃ z, z = e.val.length := ⟨_, rfl⟩
      rw [← hz1] at d0 x0 HX5 HAdd
      rw [← hz2] at d2 x2 HX5 HAdd
      rw [← hz3] at d6 x6 HX5 HAdd
      clear hrd he hok hdrop A5 eb hX5 hbd hsn hbs b5 hadd hE e1 e2 e3 hce hl2 HU hz1 hz2 hz3
      go_upto_region 7 with fail
      rw [← HX5.out]
      clear HX5 d0 d1 d2 d3 d4 d5 d6
      go_wp2_with fail
      refine Calls.mono HAdd.out ?_
      rintro z X6 ⟨rfl, ⟨ve', vp', vl', hbd'⟩, bl6, -⟩
      rw [← HEe.out]
      have HBd6 := Lib.hid hbd'
      have HB6 := Lib.hid (HB5.out.trans bl6)
      clear hbd' bl6 HAdd x0 x1 x2 x3 x4 x5 x6
      by_cases h0 : E = 0
      · have h00 : (E : Int) = 0 := by omega
        have HU2 : Hid (Bu W g rn l X6 (k + 1)) := ⟨⟨_, ve', vp', vl', HBd6.out, HSn.out h0, by rw [HStep.out, if_pos (by rw [← HEe.out]; exact h0)]⟩, HB6.out⟩
        subst h0
        clear h00
        go_wp2
        go_roundw
        case rel => exact ⟨k + 1, by omega, by go_num, HU2⟩
        case measure => simp only [intOf]; omega
      · have h00 : ¬ (E : Int) = 0 := by omega
        have HEnd : Hid (BuP W (rn : Int) l (.returned (.tuple #[.slice none 0 0, .int .i64 (E : Int)])) X6) := by
          have hb : bldS rn Bs.zero l = (E, s) := by rw [HStep.out, if_neg (by rw [← HEe.out]; exact h0), ← HEe.out]
          refine ⟨_, E, rfl, HB6.out, fun k => absurd ⟨by omega, by omega⟩ k, fun _ _ => ?_, fun _ k => ?_, fun _ k => ?_⟩
          · rw [Int.toNat_natCast, hb]; exact ⟨rfl, rfl⟩
          · rw [Int.toNat_natCast, hb] at k; exact absurd k h0
          · rw [Int.toNat_natCast, hb] at k; exact absurd k h0
        go_wp2
        go_ret2
        exact HEnd.out
    · have hge : ¬ (k : Int) < (N : Int) := by omega
      obtain ⟨s, ve, vp, vl, hbd, hsn, hbs⟩ := HU.out.bd
      have hkN : k = N := by omega
      have hd : l.drop k = [] := List.drop_of_length_le (by rw [← HN.out]; omega)
      rw [hd] at hbs
      have hbs2 : bldS rn Bs.zero l = (0, s) := hbs
      obtain ⟨ae, ce, rfl⟩ := own_form hbd.es.2
      obtain ⟨ap, cp, rfl⟩ := own_form hbd.ps.2
      have HBs := Lib.hid hbs2
      have HBe := Lib.hid HU.out.below
      by_cases hk0 : s.n = 0
      · have hbx := hbd.box
        rw [hk0] at hbx
        have HFn := Lib.hid (finish_none hbx)
        have HEnd : Hid (BuP W (rn : Int) l (.returned (.tuple #[.slice none 0 0, .int .i64 54])) wr) := by
          have hl0 : l = [] := List.eq_nil_of_length_eq_zero (by rw [← HN.out]; omega)
          refine ⟨_, 54, rfl, HBe.out, fun k => absurd ⟨by omega, by omega⟩ k, fun _ k => ?_, fun _ _ _ => ⟨rfl, rfl⟩, fun _ _ k => absurd hl0 k⟩
          rw [Int.toNat_natCast, HBs.out] at k
          exact absurd rfl k
        clear hbx hbd hbs hbs2 hsn hd hk0
        go_wp2_with fail
        refine Calls.mono HFn.out ?_
        rintro z X7 ⟨rfl, rfl⟩
        go_wp2
        go_ret2
        exact HEnd.out
      · have hse := hbd.size
        have hfe := hbd.few
        have hfn := finish_any (n := s.n) (r := rn) hbd.box (hbd.es.rd hbd.byE (by omega)) (hbd.ps.rd hbd.byP (by omega)) (by omega) (by omega) (by omega) (by omega) (by omega) (HT.out.later HBe.out) sumL_lt
        have HFn := Lib.hid hfn
        have hN0 : N ≠ 0 := by omega
        clear hfn hbd hbs hbs2 hd hse hfe
        go_wp2_with fail
        refine Calls.mono HFn.out ?_
        rintro z X7 ⟨a7, m7, c7, rfl, own7, b7⟩
        have HEnd : Hid (BuP W (rn : Int) l (.returned (.tuple #[.slice a7 m7 c7, .int .i64 0])) X7) := by
          refine ⟨_, 0, rfl, HBe.out.trans (b7.mono HBe.out.size), fun k => absurd ⟨by omega, by omega⟩ k, fun _ k => ?_, fun _ _ k => ?_, fun _ _ _ => ⟨rfl, a7, m7, c7, rfl, ?_⟩⟩
          · rw [Int.toNat_natCast, HBs.out] at k
            exact absurd rfl k
          · rw [k] at HN
            exact absurd HN.out hN0
          · rw [Int.toNat_natCast, HBs.out]
            exact own7.mono HBe.out.size
        clear own7 b7 HFn
        go_wp2
        go_ret2
        exact HEnd.out
end Go.Proofs.YtdkolihakmnpiaaDoor

namespace Go.Proofs.YtdkolihakmnpiaaDoor
open Go.RowKit
set_option linter.unusedVariables false

def LBox (w : World) (g : Nat) (r n : Int) (ve vp : Value) : Prop := w.heap[g]? = some (.cells #[.int .i64 r, .int .i64 n, ve, vp] 66 (0, 0))
theorem LBox.cells {w : World} {g : Nat} {r n : Int} {ve vp : Value} (h : LBox w g r n ve vp) : w.cell? ⟨g, 0, none⟩ = some (.int .i64 r) ∧ w.cell? ⟨g, 1, none⟩ = some (.int .i64 n) ∧ w.cell? ⟨g, 2, none⟩ = some ve ∧ w.cell? ⟨g, 3, none⟩ = some vp := by
  unfold LBox at h
  simp [World.cell?, h]
theorem LBox.fb {w w' : World} {O : Nat → Prop} {g : Nat} {r n : Int} {ve vp : Value} (h : LBox w g r n ve vp) (f : Fb w w' O) (k : ¬ O g) : LBox w' g r n ve vp := by
  unfold LBox at *
  rw [f.block g (Array.getElem?_eq_some_iff.1 h).1 k]
  exact h
structure It where
  number : Nat
  place : Nat
  shared : Nat
  key : List Nat
  val : List Nat
def walkS {S : Type} (E : List Nat) (A : S → It → Bool × S) : Nat → Nat → Nat → List Nat → S → Nat × Bool × S
  | 0, _, p, _, st => (p, true, st)
  | f + 1, n, p, key, st => match recordOf E p with
    | none => (p, false, st)
    | some (sh, r, v) => if key.length < sh then (p, false, st) else
      if (A st ⟨n, p, sh, key.take sh ++ (E.drop r.1).take r.2, (E.drop v.1).take v.2⟩).1 = true then walkS E A f (n + 1) (v.1 + v.2) (key.take sh ++ (E.drop r.1).take r.2) (A st ⟨n, p, sh, key.take sh ++ (E.drop r.1).take r.2, (E.drop v.1).take v.2⟩).2
      else (p, false, (A st ⟨n, p, sh, key.take sh ++ (E.drop r.1).take r.2, (E.drop v.1).take v.2⟩).2)
structure Asker (S M : Type) (fn : Nat) (cs : Array Value) (N Lo : Nat) (I : S × M → World → Prop) (O : S × M → Nat → Prop) (A : S → It → Bool × S) : Prop where
  enters : ∀ args w, (callFunc fn args).run Tryd.prog w = .ok (.enter fn args) w
  lt : ∀ st w k, I st w → O st k → k < w.heap.size
  stays : ∀ st w w' (O' : Nat → Prop), I st w → Fb w w' O' → (∀ k, k < w.heap.size → O st k → ¬ O' k) → (∀ k, O' k → Lo ≤ k) → I st w'
  asks : ∀ st w (it : It) (ak av : Option Addr) (kc vc kn vn : Nat), I st w → it.number < N → kn = it.key.length → vn = it.val.length → Rd w (.slice ak kn kc) it.key → Rd w (.slice av vn vc) it.val → kn ≤ 131072 → vn ≤ 131072 →
    (∀ w', Fb w w' (O st) → Rd w' (.slice ak kn kc) it.key ∧ Rd w' (.slice av vn vc) it.val) →
    Calls Tryd.prog fn (#[.agg #[.int .i64 (it.number : Int), .int .i64 (it.place : Int), .int .i64 (it.shared : Int), .slice ak kn kc, .slice av vn vc]] ++ cs) w fun e w' => e = .returned (.bool (A st.1 it).1) ∧ ∃ mm, I ((A st.1 it).2, mm) w' ∧ Fb w w' (O st) ∧ ∀ k, O ((A st.1 it).2, mm) k → O st k ∨ w.heap.size ≤ k
theorem Rd.fb {w w' : World} {O : Nat → Prop} {b off n c : Nat} {bs : List Nat} (h : Rd w (.slice (some ⟨b, off, none⟩) n c) bs) (f : Fb w w' O) (k : ¬ O b) : Rd w' (.slice (some ⟨b, off, none⟩) n c) bs := by
  obtain ⟨h1, a, cap, h2, h3, h4, h5, h6, h7⟩ := h
  refine ⟨h1, a, cap, h2, h3, h4, h5, h6, ?_⟩
  rcases h7 with h7 | ⟨b', o', rfl, hc⟩
  · exact .inl h7
  · simp only [Value.slice.injEq, Option.some.injEq, Addr.mk.injEq] at h2
    obtain ⟨⟨rfl, rfl, -⟩, -, -⟩ := h2
    refine .inr ⟨_, _, rfl, fun i hi => ?_⟩
    have := hc i hi
    have lt := World.block_lt_of_cell? w _ this
    unfold World.cell? at *
    rw [f.block _ lt k]
    exact this
theorem RecB.fb {w w' : World} {O : Nat → Prop} {g : Nat} {a b c d : Value} (h : RecB w g a b c d) (f : Fb w w' O) (k : ¬ O g) : RecB w' g a b c d := by
  unfold RecB at *
  rw [f.block g (Array.getElem?_eq_some_iff.1 h).1 k]
  exact h
theorem Own.take {w : World} {B n c k : Nat} {a : Option Addr} {xs : List Nat} (h : Own w B (.slice a n c) n xs) (hk : k ≤ n) : Own w B (.slice a k c) k (xs.take k) := by
  have hl : (xs.take k).length = k := by rw [List.length_take, ← h.1]; omega
  refine ⟨hl.symm, by rw [bv_length, hl]; omega, ?_⟩
  rcases h.2.2 with ⟨h1, h2⟩ | ⟨g, cap, cur, h3, h4, h5, h6, h7, h8, h9⟩
  · simp only [Value.slice.injEq] at h1
    obtain ⟨rfl, -, rfl⟩ := h1
    have : k = 0 := by omega
    subst this
    exact .inl ⟨rfl, rfl⟩
  · simp only [Value.slice.injEq] at h3
    obtain ⟨rfl, -, rfl⟩ := h3
    refine .inr ⟨g, c, cur, rfl, h4, h5, by omega, h7, h8, ?_⟩
    have e : cur.toList.take (k * 1) = (cur.toList.take (n * 1)).take (k * 1) := by rw [List.take_take, Nat.min_eq_left (by omega)]
    rw [e, h9]
    unfold bv
    rw [← List.map_take, Nat.mul_one]
end Go.Proofs.YtdkolihakmnpiaaDoor

namespace Go.Proofs.YtdkolihakmnpiaaDoor
open Go.RowKit
set_option linter.unusedVariables false

theorem bapp_run {w : World} {B n : Nat} {v src : Value} {xs bs : List Nat} (ty : TypeId) (hown : Own w B v n xs) (hrd : Rd w src bs) (hbytes : n + bs.length ≤ 140737488355328) (hB : B ≤ w.heap.size) :
    ∃ v' w', (Builtin.append_ #[24, 24] ty #[v, src]).run Tryd.prog w = .ok v' w' ∧ Own w' B v' (n + bs.length) (xs ++ bs) ∧ w.grownBy w' v.ownBlock ∧ (∀ k, v'.ownBlock = some k → v.ownBlock = some k ∨ k = w.heap.size) := by
  obtain ⟨i0, hi, hz0, hz1, hz2⟩ := info_parts info_byte
  obtain ⟨hby, a1, c1, rfl, hle, hm, hl48, hnone, hat⟩ := hrd
  cases a1 with
  | none =>
    have hb0 : bs = [] ∧ c1 = 0 := by
      rcases hnone with h | ⟨b, off, h⟩
      · exact ⟨List.eq_nil_of_length_eq_zero (by omega), h⟩
      · cases h
    obtain ⟨rfl, rfl⟩ := hb0
    exact ⟨v, w, run_append_owned_none (P := Tryd.prog) (w := w) B 24 ty 5 i0 1 und_bytes hi v n (bv xs) hown.2, by simpa using hown, World.grownBy.refl _ _, fun k hk => .inl hk⟩
  | some ad =>
    obtain ⟨v', w', hr, h2, h3, h4, h5⟩ := run_append_own_at (P := Tryd.prog) w B 24 ty 5 i0 (.int .u8 0) 1 1 und_bytes hi hz0 hz1 hz2 rfl (by decide) v n (bv xs) hown.2 ad bs.length c1 (bv bs) (by simp [bv]) hat.add (bv_oneCell bs) (by unfold maxLen; omega) (by omega) hB
    refine ⟨v', w', hr, ⟨by rw [hown.1]; simp, by simpa [bv] using h2⟩, h3, fun k hk => ?_⟩
    rcases h5 with h5 | h5
    · rw [h5] at hk; exact .inl hk
    · rw [h5] at hk; cases hk; exact .inr rfl
theorem bstep_append {w : World} {o : Oper} {a : Act} {K : Act → World → Prop} {Q : Exit → Act → World → Prop} (s x : Operand)
    (ho : o.op = .call { callee := .builtin .append, args := #[s, x], argTypes := #[24, 24] })
    {B n : Nat} {v src : Value} {xs bs : List Nat} (hs : a.eval s = v) (hown : Own w B v n xs) (hx : a.eval x = src) (hrd : Rd w src bs) (hbytes : n + bs.length ≤ 140737488355328) (hB : B ≤ w.heap.size)
    (h : ∀ a' c' w', Own w' B (.slice a' (n + bs.length) c') (n + bs.length) (xs ++ bs) → w.grownBy w' v.ownBlock → (∀ k, (Value.slice a' (n + bs.length) c').ownBlock = some k → v.ownBlock = some k ∨ k = w.heap.size) → K (a.put o.dst (.slice a' (n + bs.length) c')) w') :
    Oper.wp Tryd.prog o a w K Q := by
  obtain ⟨v', w', hrn, h1, h2, h3⟩ := bapp_run o.type hown hrd hbytes hB
  obtain ⟨a', c', rfl⟩ := own_form h1.2
  unfold Oper.wp execOp
  rw [ho]
  simp only [resolve, invoke, builtin, Sem.run_bind, Sem.run_pure, Result.andThen_ok, List.map_toArray, List.map_cons, List.map_nil, hs, hx, hrn]
  exact h a' c' w' h1 h2 h3
structure Wa {S M : Type} (W : World) (O0 : Nat → Prop) (g : Nat) (r n : Nat) (b off ne ce : Nat) (vp : Value) (E : List Nat) (I : S × M → World → Prop) (O : S × M → Nat → Prop) (wr : World) (p : Nat) (vk : Value) (key : List Nat) (st : S × M) : Prop where
  box : LBox wr g (r : Int) (n : Int) (.slice (some ⟨b, off, none⟩) ne ce) vp
  ents : Rd wr (.slice (some ⟨b, off, none⟩) ne ce) E
  own : Own wr W.heap.size vk key.length key
  by_ : Bys key
  inv : I st wr
  fr : Fb W wr O0
  loc : ∀ k, O st k → O0 k ∨ W.heap.size ≤ k
  apart : ∀ k, vk.ownBlock = some k → ¬ O st k
  pl : p ≤ E.length
  kl : key.length ≤ p
def WaP {S M : Type} (W : World) (O0 : Nat → Prop) (I : S × M → World → Prop) (O : S × M → Nat → Prop) (res : Nat × Bool × S) (e : Ending) (W' : World) : Prop :=
  e = .returned (.tuple #[.int .i64 (res.1 : Int), .bool res.2.1]) ∧ ∃ mm, I (res.2.2, mm) W' ∧ Fb W W' O0 ∧ ∀ k, O (res.2.2, mm) k → O0 k ∨ W.heap.size ≤ k
set_option maxRecDepth 100000 in
set_option maxHeartbeats 4000000 in
theorem walk_any {S M : Type} {fn : Nat} {cs : Array Value} {I : S × M → World → Prop} {O : S × M → Nat → Prop} {A : S → It → Bool × S} {W : World} {g r n b off ne ce : Nat} {Lo : Nat} (ha : Asker S M fn cs n Lo I O A) {vp : Value} {E : List Nat} {st : S × M} (m p : Nat)
    (hbx : LBox W g (r : Int) (n : Int) (.slice (some ⟨b, off, none⟩) ne ce) vp) (hE : Rd W (.slice (some ⟨b, off, none⟩) ne ce) E) (hLo : Lo ≤ W.heap.size) (hI : I st W) (hg : ¬ O st g) (hb : ¬ O st b) (hgl : g < W.heap.size) (hbl : b < W.heap.size) (hel : E.length ≤ 131072) (hn : n < 4294967296) (hm : m ≤ 4294967296) (hp : p ≤ E.length) :
    Calls Tryd.prog 33 #[.pointer (some ⟨g, 0, none⟩), .int .i64 (m : Int), .int .i64 (p : Int), .func (.func fn) #[] cs] W fun e W' => WaP W (O st) I O (walkS E A (n - m) m p [] st.1) e W' := by
  obtain ⟨O0, hO0⟩ : ∃ O0, O0 = O st := ⟨_, rfl⟩
  obtain ⟨res, hres⟩ : ∃ res, res = walkS E A (n - m) m p [] st.1 := ⟨_, rfl⟩
  rw [← hO0, ← hres]
  have HRes := Lib.hid hres
  have H0 : Hid (Wa W O0 g r n b off ne ce vp E I O W p (.slice none 0 0) [] st) := ⟨hbx, hE, ownNil _ _, (fun x hx => by cases hx), hI, Fb.refl _ _, (fun k hk => .inl (by rw [hO0]; exact hk)), (fun k hk => by cases hk), hp, Nat.zero_le _⟩
  have HA := Lib.hid ha
  have HLo := Lib.hid hLo
  have HO0 : Hid (¬ O0 g ∧ ¬ O0 b ∧ g < W.heap.size ∧ b < W.heap.size) := by unfold Hid; rw [hO0]; exact ⟨hg, hb, hgl, hbl⟩
  have hent := ha.enters
  have hnE : ne = E.length := (rd_lens hE).1
  have HnE := Lib.hid hnE
  have hne : ne ≤ 131072 := by omega
  clear hLo hO0 hres ha hbx hE hI hg hb hgl hbl hnE hp
  go_enter Tryd.func33, Tryd.ntmps33
  go_wp2
  go_loopw [1, 2, 10, 11, 12] (fun nu at_ ky _ _ wr => ∃ (i q kn : Nat) (ak : Option Addr) (kc : Nat), i ≤ 4294967296 ∧ (m ≤ i ∧ (i ≤ n ∨ i = m)) ∧ nu = .int .i64 (i : Int) ∧ at_ = .int .i64 (q : Int) ∧ ky = .slice ak kn kc ∧ q ≤ 131072 ∧ Hid (∃ key st', kn = key.length ∧ Wa W O0 g r n b off ne ce vp E I O wr q (.slice ak kn kc) key st' ∧ res = walkS E A (n - i) i q key st'.1)) (fun nu _ _ _ _ _ => n - (intOf nu).toNat)
  case atStart => exact ⟨m, p, 0, none, 0, hm, ⟨Nat.le_refl _, .inr rfl⟩, rfl, rfl, rfl, by have := H0.out.pl; omega, [], st, rfl, H0.out, HRes.out⟩
  case round =>
    clear H0 HRes
    obtain ⟨i, q, kn, ak, kc, hi4, hmi, rfl, rfl, rfl, hq, HW⟩ := hrel
    have i0 : (0 : Int) ≤ (i : Int) := by omega
    obtain ⟨key, st', hkn, hw, hres⟩ := HW.out
    obtain ⟨c0, c1, c2, c3⟩ := hw.box.cells
    by_cases hlt : i < n
    · have hlt2 : (i : Int) < (n : Int) := by omega
      have hrec := readRecord_any hw.ents q (by rw [HnE.out]; exact hw.pl)
      have HRec := Lib.hid hrec
      have HWa := Lib.hid hw
      have HRes := Lib.hid hres
      have HKn := Lib.hid hkn
      clear hrec hw hres hkn HW
      go_wp2_with fail
      refine Calls.mono HRec.out ?_
      rintro z X1 ⟨b1, h | h⟩
      · obtain ⟨hno, rfl⟩ := h
        have b11 : Below wr.heap.size wr (X1.alloc (.cells #[.int .i64 0, .slice none 0 0, .slice none 0 0, .int .i64 0] 76)) := b1.alloc b1.size _
        have HEnd : Hid (WaP W O0 I O res (.returned (.tuple #[.int .i64 (q : Int), .bool false])) (X1.alloc (.cells #[.int .i64 0, .slice none 0 0, .slice none 0 0, .int .i64 0] 76))) := by
          have hr1 : res = (q, false, st'.1) := by
            rw [HRes.out, show n - i = (n - i - 1) + 1 by omega]
            simp only [walkS, hno]
          rw [hr1]
          exact ⟨rfl, st'.2, HA.out.stays _ _ _ (fun _ => False) HWa.out.inv (Fb.of_below b11) (fun _ _ _ h => h) (fun _ h => h.elim), HWa.out.fr.trans (Fb.of_below b11), HWa.out.loc⟩
        clear hno b1 b11 HRec c0 c1 c2 c3
        go_wp2
        go_ret2
        exact HEnd.out
      · obtain ⟨sh, rr, vv, hrc, o1, d1, o2, d2, rfl, rd1, rd2⟩ := h
        have ok := recordOf_ok hrc HWa.out.pl
        obtain ⟨rl, hrl⟩ : ∃ rl, rl = rr.2 := ⟨_, rfl⟩
        obtain ⟨vl, hvl⟩ : ∃ vl, vl = vv.2 := ⟨_, rfl⟩
        obtain ⟨en, hen⟩ : ∃ en, en = vv.1 + vv.2 := ⟨_, rfl⟩
        obtain ⟨R, hR⟩ : ∃ R, R = (E.drop rr.1).take rr.2 := ⟨_, rfl⟩
        obtain ⟨V, hV⟩ : ∃ V, V = (E.drop vv.1).take vv.2 := ⟨_, rfl⟩
        rw [← hR, ← hrl] at rd1
        rw [← hV, ← hvl] at rd2
        rw [← hen, ← hrl, ← hvl]
        have hRl : rl = R.length := (rd_lens rd1).1
        have hVl : vl = V.length := (rd_lens rd2).1
        have hE1 := hel
        have en1 : en ≤ E.length := by rw [hen]; exact ok.2.2.2
        have rl1 : q + rl ≤ en := by rw [hrl, hen]; omega
        have vl1 : vl ≤ en := by rw [hvl, hen]; omega
        have shE : sh ≤ E.length := ok.1
        have b2 : Below wr.heap.size wr (X1.alloc (.cells #[.int .i64 (sh : Int), .slice (some ⟨b, o1, none⟩) rl d1, .slice (some ⟨b, o2, none⟩) vl d2, .int .i64 (en : Int)] 76)) := b1.alloc b1.size _
        have rb : RecB (X1.alloc (.cells #[.int .i64 (sh : Int), .slice (some ⟨b, o1, none⟩) rl d1, .slice (some ⟨b, o2, none⟩) vl d2, .int .i64 (en : Int)] 76)) X1.heap.size (.int .i64 (sh : Int)) (.slice (some ⟨b, o1, none⟩) rl d1) (.slice (some ⟨b, o2, none⟩) vl d2) (.int .i64 (en : Int)) := heap_alloc_new X1 _
        have bx : Below X1.heap.size X1 (X1.alloc (.cells #[.int .i64 (sh : Int), .slice (some ⟨b, o1, none⟩) rl d1, .slice (some ⟨b, o2, none⟩) vl d2, .int .i64 (en : Int)] 76)) := (Below.refl _ _).alloc (Nat.le_refl _) _
        obtain ⟨X2, hX2⟩ : ∃ X2, X2 = X1.alloc (.cells #[.int .i64 (sh : Int), .slice (some ⟨b, o1, none⟩) rl d1, .slice (some ⟨b, o2, none⟩) vl d2, .int .i64 (en : Int)] 76) := ⟨_, rfl⟩
        rw [← hX2] at b2 rb bx
        obtain ⟨f0, f1, f2, f3⟩ := rb.cells
        have HX2 := Lib.hid hX2
        have HB2 := Lib.hid b2
        have HRb := Lib.hid rb
        have HR1 := Lib.hid (rd1.later bx)
        have HR2 := Lib.hid (rd2.later bx)
        have HRc := Lib.hid hrc
        have HDat := Lib.hid (And.intro hR (And.intro hV (And.intro hen (And.intro hRl hVl))))
        have HX1 : Hid (wr.heap.size ≤ X1.heap.size) := b1.size
        clear ok hrl hvl hen hR hV hRl hVl rd1 rd2 b1 b2 rb bx hX2 hrc HRec
        go_upto_region 5 with fail
        rw [← HX2.out]
        clear HX2 c0 c1 c2 c3
        by_cases hsh : kn < sh
        · have hsh2 : (kn : Int) < (sh : Int) := by omega
          have HEnd : Hid (WaP W O0 I O res (.returned (.tuple #[.int .i64 (q : Int), .bool false])) X2) := by
            have hr1 : res = (q, false, st'.1) := by
              rw [HRes.out, show n - i = (n - i - 1) + 1 by omega]
              simp only [walkS, HRc.out]
              rw [if_pos (by rw [← HKn.out]; exact hsh)]
            rw [hr1]
            exact ⟨rfl, st'.2, HA.out.stays _ _ _ (fun _ => False) HWa.out.inv (Fb.of_below HB2.out) (fun _ _ _ h => h) (fun _ h => h.elim), HWa.out.fr.trans (Fb.of_below HB2.out), HWa.out.loc⟩
          go_wp2
          go_ret2
          exact HEnd.out
        have hsh2 : ¬ (kn : Int) < (sh : Int) := by omega
        have hsh3 : (sh : Int) ≤ (kn : Int) := by omega
        have hwo : Own wr W.heap.size (.slice ak kn kc) kn key := by have := HWa.out.own; rw [← HKn.out] at this; exact this
        have hkc : kn ≤ kc := (rd_lens (hwo.rd HWa.out.by_ (by rw [HKn.out]; have := HWa.out.kl; omega))).2.1
        have hkc2 : (sh : Int) ≤ (kc : Int) := by omega
        have hcut := (hwo.take (k := sh) (by omega)).later HB2.out
        have HCut := Lib.hid hcut
        clear hwo hcut
        go_upto_region 7 with fail
        have hkb : ∀ k, (Value.slice ak sh kc).ownBlock = some k → W.heap.size ≤ k ∧ k < wr.heap.size ∧ ¬ O st' k := fun k hk => by
          have h1 : (Value.slice ak kn kc).ownBlock = some k := by rw [← hk]; cases ak <;> rfl
          have h2 := HWa.out.own.2.lt k h1
          exact ⟨h2.1, h2.2, HWa.out.apart k h1⟩
        have HKb := Lib.hid hkb
        have hWX : W.heap.size ≤ X2.heap.size := Nat.le_trans HWa.out.fr.size HB2.out.size
        have HWX := Lib.hid hWX
        clear hkb hWX f0 f1 f2 f3
        have BD : Fb X2 X2.drew (fun k => (Value.slice ak sh kc).ownBlock = some k) := Fb.of_below ((Below.refl _ _).drew)
        refine wp_region_noPanic ?_
        refine wp_region_held_drew (S := fun wx => Fb X2 wx (fun k => (Value.slice ak sh kc).ownBlock = some k)) (by kernel_rfl) BD (fun hHeld => ?_)
        refine wpAnyH_take (i := 0) (oi := { dst := some 40, op := _, type := _, pos := _, after := _, guard := _ }) (v := .slice ak kn kc) rfl (by kernel_rfl) (by kernel_rfl) (by kernel_rfl) (fun _ _ _ h => h) (Or.inl ⟨by kernel_rfl, fun wy hy => by first | (go_simp; done)⟩) (by assumption) ?_
        try simp only [Act.put, List.setIfInBounds_toArray, List.set_cons_zero, List.set_cons_succ]
        refine wpAnyH_take (i := 1) (oi := { dst := some 41, op := _, type := _, pos := _, after := _, guard := _ }) (v := .pointer (some ⟨X1.heap.size, 0, none⟩)) rfl (by kernel_rfl) (by kernel_rfl) (by kernel_rfl) (fun _ _ _ h => h) (Or.inl ⟨by kernel_rfl, fun wy hy => by first | (go_simp; done)⟩) (by assumption) ?_
        try simp only [Act.put, List.setIfInBounds_toArray, List.set_cons_zero, List.set_cons_succ]
        refine wpAnyH_take (i := 2) (oi := { dst := some 42, op := _, type := _, pos := _, after := _, guard := _ }) (v := .int .i64 (sh : Int)) rfl (by kernel_rfl) (by kernel_rfl) (by kernel_rfl) (fun _ _ _ h => h) (Or.inl ⟨by kernel_rfl, fun wy hy => by (obtain ⟨f0, f1, f2, f3⟩ := (HRb.out.fb hy (fun hk => by have := (HKb.out _ hk).2.1; have := HX1.out; omega)).cells; go_simp; done)⟩) (by assumption) ?_
        try simp only [Act.put, List.setIfInBounds_toArray, List.set_cons_zero, List.set_cons_succ]
        refine wpAnyH_take (i := 3) (oi := { dst := some 43, op := _, type := _, pos := _, after := _, guard := _ }) (v := .slice ak sh kc) rfl (by kernel_rfl) (by kernel_rfl) (by kernel_rfl) (fun _ _ _ h => h) (Or.inl ⟨by kernel_rfl, fun wy hy => by first | (go_simp; done) | (cases ak <;> (go_simp; done))⟩) (by assumption) ?_
        try simp only [Act.put, List.setIfInBounds_toArray, List.set_cons_zero, List.set_cons_succ]
        refine wpAnyH_take (i := 4) (oi := { dst := some 44, op := _, type := _, pos := _, after := _, guard := _ }) (v := .pointer (some ⟨X1.heap.size, 1, none⟩)) rfl (by kernel_rfl) (by kernel_rfl) (by kernel_rfl) (fun _ _ _ h => h) (Or.inl ⟨by kernel_rfl, fun wy hy => by first | (go_simp; done)⟩) (by assumption) ?_
        try simp only [Act.put, List.setIfInBounds_toArray, List.set_cons_zero, List.set_cons_succ]
        refine wpAnyH_take (i := 5) (oi := { dst := some 45, op := _, type := _, pos := _, after := _, guard := _ }) (v := .slice (some ⟨b, o1, none⟩) rl d1) rfl (by kernel_rfl) (by kernel_rfl) (by kernel_rfl) (fun _ _ _ h => h) (Or.inl ⟨by kernel_rfl, fun wy hy => by (obtain ⟨f0, f1, f2, f3⟩ := (HRb.out.fb hy (fun hk => by have := (HKb.out _ hk).2.1; have := HX1.out; omega)).cells; go_simp; done)⟩) (by assumption) ?_
        try simp only [Act.put, List.setIfInBounds_toArray, List.set_cons_zero, List.set_cons_succ]
        refine wpAnyH_ready (rs := [6]) (by kernel_rfl) (by simp) ?_
        refine AllReadyH.cons (o := { dst := some 46, op := _, type := _, pos := _, after := _, guard := _ }) rfl (fun K hK => ?_) AllReadyH.nil
        refine bstep_append _ _ rfl (B := W.heap.size) (n := sh) (xs := key.take sh) (bs := R) rfl (HCut.out.later ((Below.refl _ _).drew)) rfl (HR1.out.later ((Below.refl _ _).drew)) (by have := HDat.out.2.2.2.1; omega) HWX.out (fun a3 c3 X3 own3 gr3 lo3 => ?_)
        have f23 : Fb X2 X3 (fun k => (Value.slice ak sh kc).ownBlock = some k) := BD.trans (Fb.of_grown gr3 (fun i h => h))
        have hRl : rl = R.length := HDat.out.2.2.2.1
        rw [← hRl] at own3 lo3 ⊢
        refine hK.out _ _ f23 (fun hHeld => ?_)
        clear hK K
        try simp only [Act.put, List.setIfInBounds_toArray, List.set_cons_zero, List.set_cons_succ]
        refine wpAnyH_take (i := 7) (oi := { dst := some 10, op := _, type := _, pos := _, after := _, guard := _ }) (v := .slice a3 (sh + rl) c3) rfl (by kernel_rfl) (by kernel_rfl) (by kernel_rfl) (fun _ _ _ h => h) (Or.inl ⟨by kernel_rfl, fun wy hy => by first | (go_simp; done)⟩) (by assumption) ?_
        try simp only [Act.put, List.setIfInBounds_toArray, List.set_cons_zero, List.set_cons_succ]
        refine wpAnyH_done (by kernel_rfl) (NoPanic.normal ?_) _
        obtain ⟨K', hK'⟩ : ∃ K', K' = key.take sh ++ R := ⟨_, rfl⟩
        rw [← hK'] at own3
        have hkl' : sh + rl = K'.length := own3.1
        have hbR : Bys R := HR1.out.1
        have hbK : Bys K' := by rw [hK']; exact Bys.app (fun x hx => HWa.out.by_ x (List.mem_of_mem_take hx)) hbR
        have hskn : kn ≤ q := by rw [HKn.out]; exact HWa.out.kl
        have b2 := HB2.out
        have hX23 : X2.heap.size ≤ X3.heap.size := f23.size
        have hk3 : ∀ k, (Value.slice a3 (sh + rl) c3).ownBlock = some k → W.heap.size ≤ k ∧ k < X3.heap.size ∧ ¬ O st' k := fun k hk => by
          refine ⟨(own3.2.lt k hk).1, (own3.2.lt k hk).2, ?_⟩
          rcases lo3 k hk with h | h
          · exact (HKb.out k h).2.2
          · intro ho
            have := HA.out.lt st' wr k HWa.out.inv ho
            have := b2.size
            have h' : k = X2.heap.size := h
            omega
        have hOst : ∀ k, O st' k → O0 k ∨ W.heap.size ≤ k := HWa.out.loc
        have hng : ¬ O st' g := fun h => by rcases hOst g h with h | h; exact HO0.out.1 h; have := HO0.out.2.2.1; omega
        have hnb : ¬ O st' b := fun h => by rcases hOst b h with h | h; exact HO0.out.2.1 h; have := HO0.out.2.2.2; omega
        have hkg : ∀ k, (Value.slice ak sh kc).ownBlock = some k → k ≠ g ∧ k ≠ b := fun k hk => by have := (HKb.out k hk).1; have := HO0.out.2.2; omega
        have fw3 : Fb wr X3 (fun k => (Value.slice ak sh kc).ownBlock = some k) := (Fb.of_below b2).trans f23
        have hI3 : I st' X3 := HA.out.stays _ _ _ _ HWa.out.inv fw3 (fun k _ ho hk => (HKb.out k hk).2.2 ho) (fun k hk => Nat.le_trans HLo.out (HKb.out k hk).1)
        have hbx3 : LBox X3 g (r : Int) (n : Int) (.slice (some ⟨b, off, none⟩) ne ce) vp := HWa.out.box.fb fw3 (fun h => (hkg g h).1 rfl)
        have hen3 : Rd X3 (.slice (some ⟨b, off, none⟩) ne ce) E := HWa.out.ents.fb fw3 (fun h => (hkg b h).2 rfl)
        have hv3 : Rd X3 (.slice (some ⟨b, o2, none⟩) vl d2) V := HR2.out.fb f23 (fun h => (hkg b h).2 rfl)
        have hrb3 := HRb.out.fb f23 (fun hk => by have := (HKb.out _ hk).2.1; have := HX1.out; omega)
        have hkr3 : Rd X3 (.slice a3 (sh + rl) c3) K' := own3.rd hbK (by omega)
        have hask : Calls Tryd.prog fn (#[.agg #[.int .i64 (i : Int), .int .i64 (q : Int), .int .i64 (sh : Int), .slice a3 (sh + rl) c3, .slice (some ⟨b, o2, none⟩) vl d2]] ++ cs) X3 fun e w' => e = .returned (.bool (A st'.1 ⟨i, q, sh, K', V⟩).1) ∧ ∃ mm, I ((A st'.1 ⟨i, q, sh, K', V⟩).2, mm) w' ∧ Fb X3 w' (O st') ∧ ∀ k, O ((A st'.1 ⟨i, q, sh, K', V⟩).2, mm) k → O st' k ∨ X3.heap.size ≤ k := HA.out.asks st' X3 ⟨i, q, sh, K', V⟩ a3 (some ⟨b, o2, none⟩) c3 d2 (sh + rl) vl hI3 (by simpa using hlt) hkl' HDat.out.2.2.2.2 hkr3 hv3 (by omega) (by omega) (fun w' f' => ⟨(own3.fb f' (fun k hk => (hk3 k hk).2.2)).rd hbK (by omega), hv3.fb f' hnb⟩)
        obtain ⟨it, hit⟩ : ∃ it : It, it = ⟨i, q, sh, K', V⟩ := ⟨_, rfl⟩
        rw [← hit] at hask
        have HAsk := Lib.hid hask
        have HRb3 := Lib.hid hrb3
        have HOwn3 := Lib.hid own3
        have HF03 : Hid (Fb W X3 O0) := ⟨fw3.os.trans HWa.out.fr.os, fw3.tape.trans HWa.out.fr.tape, fw3.output.trans HWa.out.fr.output, Nat.le_trans HWa.out.fr.size fw3.size, fun k hk ho => (fw3.block k (Nat.lt_of_lt_of_le hk HWa.out.fr.size) (fun h => by have := (HKb.out k h).1; omega)).trans (HWa.out.fr.block k hk ho)⟩
        have HStep : Hid (res = if (A st'.1 it).1 = true then walkS E A (n - (i + 1)) (i + 1) en K' (A st'.1 it).2 else (q, false, (A st'.1 it).2)) := by
          unfold Hid
          rw [HRes.out, show n - i = (n - (i + 1)) + 1 by omega]
          simp only [walkS, HRc.out]
          rw [if_neg (by rw [← HKn.out]; exact hsh), ← HDat.out.1, ← HDat.out.2.1, ← HDat.out.2.2.1, ← hK', ← hit]
        have HK3 := Lib.hid hk3
        have HN2 := Lib.hid (And.intro hng hnb)
        have HBx3 := Lib.hid hbx3
        have HEn3 := Lib.hid hen3
        have HBk := Lib.hid hbK
        have HKl := Lib.hid hkl'
        have HOst := Lib.hid hOst
        obtain ⟨f0, f1, f2, f3⟩ := hrb3.cells
        clear hHeld own3 gr3 lo3 f23 hK' hkl' hbR hbK b2 hX23 hk3 hOst hng hnb hkg fw3 hI3 hbx3 hen3 hv3 hrb3 hkr3 hask hit BD hRl
        go_simp
        go_step
        obtain ⟨B, hB⟩ : ∃ B, B = (A st'.1 it).1 := ⟨_, rfl⟩
        obtain ⟨st2, hst2⟩ : ∃ st2, st2 = (A st'.1 it).2 := ⟨_, rfl⟩
        rw [← hB, ← hst2] at HAsk HStep
        clear hB hst2
        go_wp2_with fail
        refine Calls.mono HAsk.out ?_
        rintro z X4 ⟨rfl, mm, hI4, hf4, hlo4⟩
        have hf04 : Fb W X4 O0 := ⟨hf4.os.trans HF03.out.os, hf4.tape.trans HF03.out.tape, hf4.output.trans HF03.out.output, Nat.le_trans HF03.out.size hf4.size, fun k hk ho => (hf4.block k (Nat.lt_of_lt_of_le hk HF03.out.size) (fun h => by rcases HOst.out k h with h | h; exact ho h; omega)).trans (HF03.out.block k hk ho)⟩
        have hlo : ∀ k, O (st2, mm) k → O0 k ∨ W.heap.size ≤ k := fun k hk => by
          rcases hlo4 k hk with h | h
          · exact HOst.out k h
          · exact .inr (Nat.le_trans HF03.out.size h)
        cases B with
        | false =>
          have HEnd : Hid (WaP W O0 I O res (.returned (.tuple #[.int .i64 (q : Int), .bool false])) X4) := by
            have hr1 : res = (q, false, st2) := by rw [HStep.out]; rfl
            rw [hr1]
            exact ⟨rfl, mm, hI4, hf04, hlo⟩
          clear hI4 hf4 hlo4 hf04 hlo HAsk f0 f1 f2 f3
          go_wp2
          go_ret2
          exact HEnd.out
        | true =>
          have hr1 : res = walkS E A (n - (i + 1)) (i + 1) en K' st2 := by rw [HStep.out]; rfl
          have hrb4 := HRb3.out.fb hf4 (fun h => by
            have h1 := HA.out.lt st' wr _ HWa.out.inv h
            have := HX1.out
            omega)
          have HW4 : Hid (∃ key st', sh + rl = key.length ∧ Wa W O0 g r n b off ne ce vp E I O X4 en (.slice a3 (sh + rl) c3) key st' ∧ res = walkS E A (n - (i + 1)) (i + 1) en key st'.1) := by
            refine ⟨K', (st2, mm), HKl.out, ⟨HBx3.out.fb hf4 HN2.out.1, HEn3.out.fb hf4 HN2.out.2, ?_, HBk.out, hI4, hf04, hlo, fun k hk h => ?_, en1, by rw [← HKl.out]; have := HWa.out.kl; have := HKn.out; omega⟩, hr1⟩
            · rw [← HKl.out]
              exact HOwn3.out.fb hf4 (fun k hk => (HK3.out k hk).2.2)
            · rcases hlo4 k h with h | h
              · exact (HK3.out k hk).2.2 h
              · have := (HK3.out k hk).2.1; omega
          obtain ⟨g0, g1, g2, g3⟩ := hrb4.cells
          clear hI4 hf4 hlo4 hf04 hlo HAsk f0 f1 f2 f3 hr1 hrb4
          go_wp2
          go_roundw
          case rel => exact ⟨i + 1, en, sh + rl, a3, c3, by omega, ⟨by omega, .inl (by omega)⟩, by go_num, rfl, rfl, by omega, HW4⟩
          case measure => simp only [intOf]; omega
    · have hge : ¬ (i : Int) < (n : Int) := by omega
      have HEnd : Hid (WaP W O0 I O res (.returned (.tuple #[.int .i64 (q : Int), .bool true])) wr) := by
        have hr1 : res = (q, true, st'.1) := by
          rw [hres, show n - i = 0 by omega]
          rfl
        rw [hr1]
        exact ⟨rfl, st'.2, hw.inv, hw.fr, hw.loc⟩
      clear hw hres hkn HW
      go_wp2
      go_ret2
      exact HEnd.out
end Go.Proofs.YtdkolihakmnpiaaDoor

namespace Go.Proofs.YtdkolihakmnpiaaDoor
open Go.RowKit
set_option linter.unusedVariables false

theorem ruint_uintF : ∀ (f u i q : Nat) (rest : List Nat), i + f = 9 → u < 128 ^ (f + 1) → (0 < i → 0 < u) → q < 128 ^ i → q + u * 128 ^ i < 18446744073709551616 → ruint f (uintF f u ++ rest) i q = (q + u * 128 ^ i, i + (uintF f u).length, 0) := by
  intro f
  induction f with
  | zero =>
    intro u i q rest hi hu hp hq ht
    have hi9 : i = 9 := by omega
    subst hi9
    have hu1 : u ≤ 1 := by
      have e : (128 : Nat) ^ 9 = 9223372036854775808 := by decide
      rw [e] at ht
      omega
    show ruint 0 (u :: rest) 9 q = _
    unfold ruint
    rw [if_neg (by omega), if_neg (by omega), if_neg (by omega)]
    rw [Nat.mod_eq_of_lt (by omega)]
    rfl
  | succ f ih =>
    intro u i q rest hi hu hp hq ht
    by_cases h127 : 127 < u
    · rw [uintF_go f u h127, List.cons_append]
      unfold ruint
      rw [if_neg (by omega), if_pos (by omega)]
      have e1 : (u % 128 + 128) % 128 = u % 128 := by omega
      rw [e1]
      have e2 : q + u % 128 * 128 ^ i + u / 128 * 128 ^ (i + 1) = q + u * 128 ^ i := by
        have : u * 128 ^ i = (128 * (u / 128) + u % 128) * 128 ^ i := by rw [Nat.div_add_mod]
        rw [this, Nat.add_mul, Nat.pow_succ]
        have : u / 128 * (128 ^ i * 128) = 128 * (u / 128) * 128 ^ i := by rw [Nat.mul_comm (128 ^ i) 128, ← Nat.mul_assoc, Nat.mul_comm (u / 128) 128]
        omega
      rw [ih (u / 128) (i + 1) _ rest (by omega) (by rw [Nat.pow_succ] at hu; exact Nat.div_lt_of_lt_mul (by rw [Nat.mul_comm]; exact hu)) (by omega) (next_lt q u i hq) (by rw [e2]; exact ht), e2]
      simp
      omega
    · rw [uintF_stop (f + 1) u (by omega)]
      show ruint (f + 1) (u :: rest) i q = _
      unfold ruint
      rw [if_neg (by omega), if_neg (by omega), if_neg (by omega), Nat.mod_eq_of_lt (by omega)]
      rfl

theorem uint_trip (v : Nat) (hv : v < 18446744073709551616) (pre rest : List Nat) : uintR (pre ++ (uintL v ++ rest)) pre.length = (v, pre.length + (uintL v).length, 0) := by
  unfold uintR
  rw [List.drop_left]
  have := ruint_uintF 9 v 0 0 rest rfl (Nat.lt_of_lt_of_le hv (by decide)) (by omega) (by simp) (by simpa using hv)
  rw [uintL, this]
  simp
theorem bytes_trip (bs : List Nat) (hl : bs.length < 18446744073709551616) (most : Nat) (hm : bs.length ≤ most) (pre rest : List Nat) :
    bytesR (pre ++ (bytesL bs ++ rest)) pre.length most = (bs, pre.length + (bytesL bs).length, 0) := by
  unfold bytesR bytesL
  rw [List.append_assoc (uintL bs.length) bs rest, uint_trip bs.length hl pre (bs ++ rest)]
  have h1 : ¬ most < bs.length := by omega
  have h2 : ¬ (pre ++ (uintL bs.length ++ (bs ++ rest))).length < pre.length + (uintL bs.length).length + bs.length := by simp; omega
  simp only [ne_eq, not_true_eq_false, if_false, h1, h2]
  have e : pre ++ (uintL bs.length ++ (bs ++ rest)) = (pre ++ uintL bs.length) ++ (bs ++ rest) := by simp
  rw [e, show pre.length + (uintL bs.length).length = (pre ++ uintL bs.length).length by simp, List.drop_left, List.take_left]
  simp
  omega

end Go.Proofs.YtdkolihakmnpiaaDoor

namespace Go.Proofs.YtdkolihakmnpiaaDoor
open Go.RowKit
set_option linter.unusedVariables false

theorem num8_be8 (n : Nat) (h : n < 18446744073709551616) : num8 (be8 n) = n := by
  simp only [num8, be8, List.foldl]
  omega
theorem rise_trip (n : Nat) (hn : n < 9223372036854775808) (pre rest : List Nat) : riseR (pre ++ (be8 n ++ rest)) pre.length = (n, pre.length + 8, 0) := by
  have e : ((pre ++ (be8 n ++ rest)).drop pre.length).take 8 = be8 n := by
    rw [List.drop_left, List.take_append_of_le_length (by simp [be8]), List.take_of_length_le (by simp [be8])]
  unfold riseR
  rw [e, num8_be8 n (by omega), if_neg (by simp [be8]), if_neg (by omega)]
theorem fall_trip (n : Nat) (hn : n < 9223372036854775808) (pre rest : List Nat) : fallR (pre ++ (be8 (9223372036854775807 - n) ++ rest)) pre.length = (n, pre.length + 8, 0) := by
  unfold fallR
  rw [rise_trip _ (by omega)]
  simp
  omega
theorem rord_trip : ∀ (l acc rest : List Nat) (i : Nat), rord (ordL l ++ rest) acc i = (acc ++ l, i + (ordL l).length, 0) := by
  intro l
  induction l with
  | nil =>
    intro acc rest i
    show rord (0 :: 1 :: rest) acc i = _
    unfold rord
    simp [ordL, escL]
  | cons c l ih =>
    intro acc rest i
    by_cases hc : c = 0
    · have e : ordL (c :: l) = 0 :: 255 :: ordL l := by simp [ordL, escL, hc]
      rw [e]
      show rord (0 :: 255 :: (ordL l ++ rest)) acc i = _
      unfold rord
      rw [if_neg (by simp), if_neg (by simp), if_pos rfl, ih]
      simp [hc]
      omega
    · have e : ordL (c :: l) = c :: ordL l := by simp [ordL, escL, hc]
      rw [e]
      show rord (c :: (ordL l ++ rest)) acc i = _
      have h1 := ih (acc ++ [c]) rest (i + 1)
      cases hx : ordL l ++ rest with
      | nil =>
        exfalso
        simp [ordL] at hx
      | cons d r =>
        rw [hx] at h1
        unfold rord
        rw [if_pos hc, h1]
        simp
        omega
theorem ord_trip (bs pre rest : List Nat) : ordR (pre ++ (ordL bs ++ rest)) pre.length = (bs, pre.length + (ordL bs).length, 0) := by
  unfold ordR
  rw [List.drop_left, rord_trip]
  simp

end Go.Proofs.YtdkolihakmnpiaaDoor

namespace Go.Proofs.YtdkolihakmnpiaaDoor
open Go.RowKit
set_option linter.unusedVariables false

theorem ruint_back : ∀ (f : Nat) (l : List Nat) (i v V c : Nat), ruint f l i v = (V, c, 0) → i + f = 9 → Bys l → ∃ u, V = v + u * 128 ^ i ∧ uintF f u = l.take (c - i) ∧ (0 < i → 0 < u) ∧ i < c := by
  intro f
  induction f with
  | zero =>
    intro l i v V c h hi hb
    cases l with
    | nil => simp [ruint] at h
    | cons x r =>
      unfold ruint at h
      split at h
      · simp at h
      · split at h
        · simp at h
        · split at h
          · simp at h
          · rename_i h1 h2 h3
            simp only [Prod.mk.injEq, and_true] at h
            obtain ⟨rfl, rfl⟩ := h
            refine ⟨x, by rw [Nat.mod_eq_of_lt (by omega)], ?_, fun hp => by omega, by omega⟩
            simp [uintF]
  | succ f ih =>
    intro l i v V c h hi hb
    cases l with
    | nil => simp [ruint] at h
    | cons x r =>
      have hx := hb x (by simp)
      unfold ruint at h
      split at h
      · simp at h
      · split at h
        · rename_i h1 h2
          obtain ⟨u, hu1, hu2, hu3, hu4⟩ := ih r (i + 1) _ V c h (by omega) (fun y hy => hb y (by simp [hy]))
          have hu0 := hu3 (by omega)
          refine ⟨x % 128 + 128 * u, ?_, ?_, fun _ => by omega, by omega⟩
          · rw [hu1, Nat.pow_succ, Nat.add_mul]
            have : u * (128 ^ i * 128) = 128 * u * 128 ^ i := by rw [Nat.mul_comm (128 ^ i) 128, ← Nat.mul_assoc, Nat.mul_comm u 128]
            omega
          · rw [uintF_go f _ (by omega)]
            have e1 : (x % 128 + 128 * u) % 128 + 128 = x := by omega
            have e2 : (x % 128 + 128 * u) / 128 = u := by omega
            rw [e1, e2, hu2, show c - i = (c - (i + 1)) + 1 by omega]
            rfl
        · split at h
          · simp at h
          · rename_i h1 h2 h3
            simp only [Prod.mk.injEq, and_true] at h
            obtain ⟨rfl, rfl⟩ := h
            refine ⟨x, by rw [Nat.mod_eq_of_lt (by omega)], ?_, fun hp => by omega, by omega⟩
            rw [uintF_stop (f + 1) x (by omega)]
            simp
theorem uint_back {bs : List Nat} {k V P : Nat} (hb : Bys bs) (h : uintR bs k = (V, P, 0)) : uintL V = (bs.take P).drop k := by
  unfold uintR at h
  simp only [Prod.mk.injEq] at h
  obtain ⟨h1, h2, h3⟩ := h
  rw [if_pos h3] at h2
  obtain ⟨u, hu1, hu2, _, _⟩ := ruint_back 9 (bs.drop k) 0 0 V (ruint 9 (bs.drop k) 0 0).2.1 (Prod.ext h1 (Prod.ext rfl h3)) rfl (fun x hx => hb x (List.mem_of_mem_drop hx))
  have : u = V := by simpa using hu1.symm
  subst this
  unfold uintL
  rw [hu2, ← h2, List.drop_take]
  simp
theorem bytes_back {bs L : List Nat} {k P most : Nat} (hb : Bys bs) (hk : k ≤ bs.length) (h : bytesR bs k most = (L, P, 0)) : bytesL L = (bs.take P).drop k ∧ k < P ∧ P ≤ bs.length ∧ L.length ≤ bs.length := by
  unfold bytesR at h
  obtain ⟨R, hR⟩ : ∃ R, R = uintR bs k := ⟨_, rfl⟩
  rw [← hR] at h
  obtain ⟨V, p, E⟩ := R
  simp only at h
  split at h
  · rename_i he; simp only [Prod.mk.injEq] at h; omega
  · rename_i he
    have hE : E = 0 := by omega
    subst hE
    split at h
    · simp at h
    · split at h
      · simp at h
      · rename_i h1 h2
        simp only [Prod.mk.injEq, and_true] at h
        obtain ⟨rfl, rfl⟩ := h
        obtain ⟨hkp, hpn, hV⟩ := uintR_ok hR.symm hk
        have hu := uint_back hb hR.symm
        have hl : ((bs.drop p).take V).length = V := by rw [List.length_take, List.length_drop]; omega
        refine ⟨?_, by omega, by omega, by rw [hl]; omega⟩
        unfold bytesL
        rw [hl, hu]
        have e : bs.take (p + V) = bs.take p ++ (bs.drop p).take V := by rw [List.take_add]
        rw [e, List.drop_append_of_le_length (by rw [List.length_take]; omega)]
theorem rord_back : ∀ (m : Nat) (l acc : List Nat) (i : Nat) (L : List Nat) (c : Nat), l.length ≤ m → rord l acc i = (L, c, 0) → ∃ t, L = acc ++ t ∧ ordL t = l.take (c - i) ∧ i < c ∧ c ≤ i + l.length := by
  intro m
  induction m with
  | zero =>
    intro l acc i L c hl h
    have : l = [] := List.eq_nil_of_length_eq_zero (by omega)
    subst this
    simp [rord] at h
  | succ m ih =>
    intro l acc i L c hl h
    match l, hl, h with
    | [], _, h => simp [rord] at h
    | [x], _, h => simp [rord] at h
    | x :: d :: r, hl, h =>
      unfold rord at h
      split at h
      · rename_i hx
        obtain ⟨t, h1, h2, h3, h4⟩ := ih (d :: r) _ _ L c (by simp at hl ⊢; omega) h
        refine ⟨x :: t, by rw [h1]; simp, ?_, by omega, by simp at h4 ⊢; omega⟩
        have e : ordL (x :: t) = x :: ordL t := by simp [ordL, escL, hx]
        rw [e, h2, show c - i = (c - (i + 1)) + 1 by omega]
        rfl
      · rename_i hx
        have hx0 : x = 0 := by omega
        subst hx0
        split at h
        · rename_i hd
          subst hd
          simp only [Prod.mk.injEq, and_true] at h
          obtain ⟨rfl, rfl⟩ := h
          refine ⟨[], by simp, ?_, by omega, by simp⟩
          rw [show i + 2 - i = 2 by omega]
          simp [ordL, escL]
        · split at h
          · rename_i hd
            subst hd
            obtain ⟨t, h1, h2, h3, h4⟩ := ih r _ _ L c (by simp at hl ⊢; omega) h
            refine ⟨0 :: t, by rw [h1]; simp, ?_, by omega, by simp; omega⟩
            have e : ordL (0 :: t) = 0 :: 255 :: ordL t := by simp [ordL, escL]
            rw [e, h2, show c - i = (c - (i + 2)) + 1 + 1 by omega]
            rfl
          · simp at h
theorem ord_back {bs L : List Nat} {k P : Nat} (hk : k ≤ bs.length) (h : ordR bs k = (L, P, 0)) : ordL L = (bs.take P).drop k ∧ k < P ∧ P ≤ bs.length := by
  unfold ordR at h
  simp only [Prod.mk.injEq] at h
  obtain ⟨h1, h2, h3⟩ := h
  rw [if_pos h3] at h2
  obtain ⟨t, e1, e2, e3, e4⟩ := rord_back _ (bs.drop k) [] 0 L (rord (bs.drop k) [] 0).2.1 (Nat.le_refl _) (Prod.ext h1 (Prod.ext rfl h3))
  rw [List.nil_append] at e1
  subst e1
  rw [List.length_drop] at e4
  refine ⟨?_, by omega, by omega⟩
  rw [e2, ← h2, List.drop_take]
  simp
theorem be8_num8 (a b c d e f g h : Nat) (ha : a < 256) (hb : b < 256) (hc : c < 256) (hd : d < 256) (he : e < 256) (hf : f < 256) (hg : g < 256) (hh : h < 256) : be8 (num8 [a, b, c, d, e, f, g, h]) = [a, b, c, d, e, f, g, h] := by
  simp [be8, num8]
  omega
theorem rise_back {bs : List Nat} {k V P : Nat} (hb : Bys bs) (h : riseR bs k = (V, P, 0)) : be8 V = (bs.take P).drop k ∧ k < P ∧ P ≤ bs.length ∧ V < 9223372036854775808 := by
  unfold riseR at h
  split at h
  · simp at h
  · split at h
    · simp at h
    · rename_i h1 h2
      simp only [Prod.mk.injEq, and_true] at h
      obtain ⟨rfl, rfl⟩ := h
      have hl : ((bs.drop k).take 8).length = 8 := by rw [List.length_take, List.length_drop]; omega
      have hby : Bys ((bs.drop k).take 8) := fun x hx => hb x (List.mem_of_mem_drop (List.mem_of_mem_take hx))
      have e : (bs.take (k + 8)).drop k = (bs.drop k).take 8 := by rw [List.drop_take]; congr 1; omega
      refine ⟨?_, by omega, by omega, by omega⟩
      rw [e]
      generalize (bs.drop k).take 8 = L at *
      match L, hl with
      | [a, b, c, d, e, f, g, h], _ => exact be8_num8 a b c d e f g h (hby _ (by simp)) (hby _ (by simp)) (hby _ (by simp)) (hby _ (by simp)) (hby _ (by simp)) (hby _ (by simp)) (hby _ (by simp)) (hby _ (by simp))
theorem be4_rdle (a b c d : Nat) (ha : a < 256) (hb : b < 256) (hc : c < 256) (hd : d < 256) : be4 (rdle d c b a) = [a, b, c, d] := by
  simp [be4, rdle]; omega
theorem le4_rdle (a b c d : Nat) (ha : a < 256) (hb : b < 256) (hc : c < 256) (hd : d < 256) : le4 (rdle a b c d) = [a, b, c, d] := by
  simp [le4, rdle]; omega
theorem four {l : List Nat} (h : 4 ≤ l.length) : l.take 4 = [l.getD 0 0, l.getD 1 0, l.getD 2 0, l.getD 3 0] := by
  match l, h with
  | a :: b :: c :: d :: r, _ => simp
theorem frame_back {bs L : List Nat} {k P : Nat} (hb : Bys bs) (hk : k ≤ bs.length) (h : frameR bs k = (L, P, 0)) : frameL L = (bs.take P).drop k ∧ k < P ∧ P ≤ bs.length ∧ L.length ≤ 1048576 := by
  have hbd : Bys (bs.drop k) := fun x hx => hb x (List.mem_of_mem_drop hx)
  obtain ⟨H, hH⟩ : ∃ H, H = headR (bs.drop k) := ⟨_, rfl⟩
  unfold frameR at h
  rw [← hH] at h
  obtain ⟨N, E⟩ := H
  simp only at h
  split at h
  · rename_i he; simp only [Prod.mk.injEq] at h; omega
  · rename_i he
    have hE : E = 0 := by omega
    subst hE
    split at h
    · simp at h
    · rename_i hlen
      split at h
      · simp at h
      · rename_i hsum
        simp only [Prod.mk.injEq, and_true] at h
        obtain ⟨rfl, rfl⟩ := h
        have hsum : rdle ((bs.drop (k + 8 + N)).getD 0 0) ((bs.drop (k + 8 + N)).getD 1 0) ((bs.drop (k + 8 + N)).getD 2 0) ((bs.drop (k + 8 + N)).getD 3 0) = sumL ((bs.drop (k + 8)).take N) := by
          by_cases hs : rdle ((bs.drop (k + 8 + N)).getD 0 0) ((bs.drop (k + 8 + N)).getD 1 0) ((bs.drop (k + 8 + N)).getD 2 0) ((bs.drop (k + 8 + N)).getD 3 0) = sumL ((bs.drop (k + 8)).take N)
          · exact hs
          · exact absurd hs hsum
        have hl : ((bs.drop (k + 8)).take N).length = N := by rw [List.length_take, List.length_drop]; omega
        unfold headR at hH
        rw [List.length_drop] at hH
        rw [if_neg (by omega)] at hH
        split at hH
        · simp at hH
        · rename_i hs4
          split at hH
          · simp at hH
          · rename_i hbig
            simp only [Prod.mk.injEq, and_true] at hH
            have hs4' : rdle ((bs.drop k).getD 4 0) ((bs.drop k).getD 5 0) ((bs.drop k).getD 6 0) ((bs.drop k).getD 7 0) = sumL ((bs.drop k).take 4) := by
              by_cases hs : rdle ((bs.drop k).getD 4 0) ((bs.drop k).getD 5 0) ((bs.drop k).getD 6 0) ((bs.drop k).getD 7 0) = sumL ((bs.drop k).take 4)
              · exact hs
              · exact absurd hs hs4
            have hbe : be4 N = (bs.drop k).take 4 := by
              rw [hH, four (by rw [List.length_drop]; omega)]
              exact be4_rdle _ _ _ _ (hbd.get 0) (hbd.get 1) (hbd.get 2) (hbd.get 3)
            have hle : le4 (sumL (be4 N)) = ((bs.drop k).drop 4).take 4 := by
              rw [hbe, ← hs4', four (l := (bs.drop k).drop 4) (by simp; omega), le4_rdle _ _ _ _ (hbd.get 4) (hbd.get 5) (hbd.get 6) (hbd.get 7)]
              simp
            have hle2 : le4 (sumL ((bs.drop (k + 8)).take N)) = (bs.drop (k + 8 + N)).take 4 := by
              have hb2 : Bys (bs.drop (k + 8 + N)) := fun x hx => hb x (List.mem_of_mem_drop hx)
              rw [← hsum, four (l := bs.drop (k + 8 + N)) (by rw [List.length_drop]; omega)]
              exact le4_rdle _ _ _ _ (hb2.get 0) (hb2.get 1) (hb2.get 2) (hb2.get 3)
            refine ⟨?_, by omega, by omega, by rw [hl]; omega⟩
            unfold frameL
            rw [hl, hle2, hle, hbe]
            have e : (bs.take (k + 12 + N)).drop k = (bs.drop k).take (12 + N) := by rw [List.drop_take]; congr 1; omega
            rw [e, show 12 + N = 4 + (4 + (N + 4)) by omega, List.take_add, List.take_add (i := 4) (j := N + 4), List.take_add (i := N) (j := 4)]
            simp [List.drop_drop, List.append_assoc, Nat.add_assoc]

end Go.Proofs.YtdkolihakmnpiaaDoor
