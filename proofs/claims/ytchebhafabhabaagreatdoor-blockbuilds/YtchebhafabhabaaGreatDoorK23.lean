import Derived.Test.YtchebhafabhabaaGreatDoorK22
namespace Go.Proofs.YtchebhafabhabaaGreatDoor
open Go.RowKit Go.Shelf
set_option linter.unusedVariables false

theorem Laid.adr {w : World} {B k n c : Nat} {u : Value} {bs : List Nat} {ad : Addr} (h : Laid w B u bs) (e : u = .slice (some ad) n c) (hk : ad.block = k) : u.ownBlock = some k := by
 obtain ⟨g, c2, rfl, -⟩ := h
 simp only [Value.slice.injEq, Option.some.injEq] at e
 obtain ⟨rfl, -, -⟩ := e
 simp only at hk
 subst hk
 rfl
theorem LaidE.adr {w : World} {B k : Nat} {D : EntD} (h : LaidE w B D) (hk : D.adr k) : D.blk k := by
 obtain ⟨v, hv, ad, n, c, e, he⟩ := hk
 rcases hv with rfl | rfl | rfl
 ·exact .inl (h.1.adr e he)
 ·exact .inr (.inl (h.2.1.adr e he))
 ·exact .inr (.inr (h.2.2.adr e he))
theorem LaidE.rng {w : World} {B k : Nat} {D : EntD} (h : LaidE w B D) (hk : D.blk k) : B ≤ k ∧ k < w.heap.size := by
 rcases hk with q | q | q
 ·exact h.1.own_lt k q
 ·exact h.2.1.own_lt k q
 ·exact h.2.2.own_lt k q
theorem Laid.own0 {w : World} {B : Nat} {u : Value} {bs : List Nat} (h : Laid w B u bs) (hl : bs.length ≤ 5000) : ∃ a n c xs, u = .slice a n c ∧ n ≤ 200000 ∧ Own w 0 (.slice a n c) n xs := by
 obtain ⟨g, c, rfl, h2, h3, o⟩ := h
 refine ⟨_, _, _, bs, rfl, by omega, ?_⟩
 have o1 := (o.mono (Nat.zero_le _)).take (show bs.length ≤ bs.length + 75 by omega)
 rw [List.append_assoc, List.take_left] at o1
 exact o1
theorem LaidE.e3 {w : World} {B : Nat} {D : EntD} (h : LaidE w B D) (f : EntD.Fine D) (a : ApE D) : E3 w D := ⟨h.1.own0 f.1.2, h.2.1.own0 f.2.1.2, h.2.2.own0 f.2.2.2, a.1, a.2.1, a.2.2⟩
theorem AddN.later {w w' w2 : World} {B g r : Nat} {s : Bs} {e : EntD} {O : Nat → Prop} {ve vp vl : Value} {y : Ending} (h : AddN w B g r s e O ve vp vl y w') (b : Below w'.heap.size w' w2) (hB : B ≤ w'.heap.size) : AddN w B g r s e O ve vp vl y w2 := by
 obtain ⟨e1, ⟨ve', vp', vl', bd, nr⟩, bw, fw⟩ := h
 exact ⟨e1, ⟨ve', vp', vl', bd.later b, nr⟩, bw.trans (b.mono hB), fw.trans (Fb.of_below b)⟩
theorem Trio.round {wr Z w1 w2 : World} {B gh h g r h' g' r' f b1 b2 n9 c9 : Nat} {s s' : Bs} {l l' : List EntD} {Pb Pl Qb Ql FO : Nat → Prop} {x D1 D2 : EntD} {ve vp vl : Value} {a0 a9 : Option Addr} {c0 : Nat} {y : Ending}
  (t : Trio wr B gh h g r s l Pb Pl h' g' r' s' l' Qb Ql f FO) (hp : Pair wr Z x D1 D2 b1 b2) (hf1 : EntD.Fine D1) (hf2 : EntD.Fine D2)
  (hb : HfB Z h g r B s ve vp vl a0 c0 l) (p1 : ∀ k, bO g ve vp k ∨ vl.ownBlock = some k → Pb k) (p2 : ∀ k, adB a0 k → Pl k ∧ k ≠ h)
  (bw : Below Z.heap.size Z w1) (hbad : (addE r s D2).1 ≠ 0 → a9 = a0 ∧ n9 = l.length ∧ c9 = c0) (hgood : (addE r s D2).1 = 0 → n9 = l.length + 1 ∧ RdL5 w1 a9 c9 (l ++ [D2]) ∧ ∀ ad, a9 = some ad → Z.heap.size ≤ ad.block)
  (an : AddN w1 B g r s D1 (bO g ve vp) ve vp vl y w2) (hlen : l.length + 1 ≤ 100) (hB : B ≤ wr.heap.size) (hg : gh < wr.heap.size) :
  y = .returned (.int .i64 (((addE r s D2).1 : Nat) : Int)) ∧ EBox w2 b1 D1 ∧ EBox w2 b2 D2 ∧ LaidE w2 wr.heap.size D1 ∧ EntD.Ok w2 D2 ∧ w2.heap[h]? = some (.cells #[.pointer (some ⟨g, 0, none⟩), .int .i64 (r : Int), .slice a0 l.length c0] 32 (0, 0)) ∧
  ∃ Pb2 Pl2 : Nat → Prop, Trio (w2.setCell ⟨h, 2, none⟩ (.slice a9 n9 c9)) B gh h g r (addE r s D2).2 (if (addE r s D2).1 = 0 then l ++ [D2] else l) Pb2 Pl2 h' g' r' s' l' Qb Ql f FO ∧ EBox (w2.setCell ⟨h, 2, none⟩ (.slice a9 n9 c9)) b1 D1 ∧ E3 (w2.setCell ⟨h, 2, none⟩ (.slice a9 n9 c9)) D1 ∧ (∀ k, D1.blk k → ¬ (Pb2 k ∨ Pl2 k) ∧ ¬ (Qb k ∨ Ql k) ∧ ¬ FO k ∧ B ≤ k ∧ k ≠ gh) ∧ (w2.setCell ⟨h, 2, none⟩ (.slice a9 n9 c9)).heap[gh]? = wr.heap[gh]? ∧ Below B wr (w2.setCell ⟨h, 2, none⟩ (.slice a9 n9 c9)) := by
 have tz := t.later hp.bel
 have zs := hp.bel.size
 have ws := bw.size
 have r1 : ∀ k, D1.blk k → wr.heap.size ≤ k ∧ k < Z.heap.size := fun k hk => hp.l1.rng hk
 have r2 : ∀ k, D2.blk k → wr.heap.size ≤ k ∧ k < Z.heap.size := fun k hk => hp.l2.rng hk
 have hPl : ∀ k, Pb k ∨ Pl k → k < wr.heap.size := t.a.lt
 have hbO : ∀ k, bO g ve vp k → k < wr.heap.size := fun k hk => hPl k (.inl (p1 k (.inl hk)))
 have hhl : h < wr.heap.size := hPl h (.inr t.a.ph)
 have hlL : ∀ ad, a9 = some ad → ad.block < w1.heap.size := fun ad e => by
  by_cases h0 : (addE r s D2).1 = 0
  ·obtain ⟨-, rd, -⟩ := hgood h0
   rcases rd.at_ with q | ⟨b, off, q, hc⟩
   ·simp at q
   ·rw [e] at q
    cases q
    obtain ⟨z, hz⟩ : ∃ z, (l ++ [D2])[0]? = some z := ⟨_, List.getElem?_eq_getElem (by simp)⟩
    exact World.block_lt_of_cell? _ _ (hc 0 z hz 0 _ rfl)
  ·obtain ⟨rfl, -, -⟩ := hbad h0
   have := hPl _ (.inr (p2 _ ⟨ad, e, rfl⟩).1)
   omega
 obtain ⟨ey, fw, bB, hx⟩ := HfX.added (e := D2) (i := D1) hb p1 p2 tz.a.ph tz.a.pd tz.a.dj tz.a.lt bw hbad hgood an ⟨hp.s1.1.trans hp.s2.1.symm, hp.s1.2.1.trans hp.s2.2.1.symm, hp.s1.2.2.1.trans hp.s2.2.2.1.symm, hp.s1.2.2.2.1.trans hp.s2.2.2.2.1.symm, hp.s1.2.2.2.2.1.trans hp.s2.2.2.2.2.1.symm, hp.s1.2.2.2.2.2.1.trans hp.s2.2.2.2.2.2.1.symm, hp.s1.2.2.2.2.2.2.trans hp.s2.2.2.2.2.2.2.symm⟩ hlen (fun k hk => by
  have q := r2 k (hp.l2.adr hk)
  exact ⟨q.2, fun z => by have := hPl k (.inl z); omega, by omega⟩) hlL
 have fs := fw.size
 have eb : ∀ {b : Nat} {D : EntD}, EBox Z b D → wr.heap.size ≤ b → EBox w2 b D := fun {b D} q qb => (q.later bw).fbF fw (fun z => by have := hbO b z; omega)
 have l1w : LaidE w2 wr.heap.size D1 := (hp.l1.later bw).fbL fw (fun k hk z => by have := r1 k hk; have := hbO k z; omega)
 have l2w : LaidE w2 wr.heap.size D2 := (hp.l2.later bw).fbL fw (fun k hk z => by have := r2 k hk; have := hbO k z; omega)
 have f3 : Fb w2 (w2.setCell ⟨h, 2, none⟩ (.slice a9 n9 c9)) (fun k => k = h) := Fb.set1F (O := fun k => k = h) rfl _ _
 have fz3 : Fb Z (w2.setCell ⟨h, 2, none⟩ (.slice a9 n9 c9)) (fun k => Pb k ∨ Pl k) := ((Fb.of_below bw).trans (fw.mono (fun k _ z => .inl (p1 k (.inl z))))).trans (f3.mono (fun k _ z => .inr (by rw [z]; exact t.a.ph)))
 refine ⟨ey, eb hp.e1 hp.lo.1, eb hp.e2 hp.lo.2.1, l1w, l2w.ok hf2, ?_, _, _, tz.put (X := D2.adr) hx fz3 ?_ ?_ (by omega) (by omega), (eb hp.e1 hp.lo.1).fbF f3 (fun z => by have := hp.lo.1; omega), (l1w.fbL f3 (fun k hk z => by have := r1 k hk; omega)).e3 hf1 hp.a1, fun k hk => ?_, ?_, ?_⟩
 ·exact (fw.block h (by omega) (fun z => tz.a.dj h (p1 h (.inl z)) t.a.ph)).trans ((bw.block h (by omega)).trans hb.box)
 ·rintro k ((q | q) | q | q | q)
  ·exact .inl (.inl q)
  ·exact .inr (.inr (by omega))
  ·exact .inl (.inr q)
  ·exact .inr (.inl q)
  ·exact .inr (.inr q.1)
 ·intro k hk
  have q := r2 k (hp.l2.adr hk)
  exact ⟨fun z => by have := t.b.lt k z; omega, fun z => by have := t.fu.lt k z; omega, by omega, by omega⟩
 ·have q := r1 k hk
  refine ⟨?_, fun z => by have := t.b.lt k z; omega, fun z => by have := t.fu.lt k z; omega, by omega, by omega⟩
  rintro ((z | z) | z | z | z)
  ·have := hPl k (.inl z); omega
  ·omega
  ·have := hPl k (.inr z); omega
  ·exact (hp.d1 k hk).1 (hp.l2.adr z)
  ·omega
 ·have hgn : ¬ (Pb gh ∨ Pl gh) := fun z => (t.lo gh (.inl z)).2 rfl
  exact (fz3.block gh (by omega) hgn).trans (hp.bel.block gh hg)
 ·have w3 : Below B Z (w2.setCell ⟨h, 2, none⟩ (.slice a9 n9 c9)) := ⟨fz3.os, fz3.tape, fz3.output, fz3.size, fun k hk => fz3.block k (by omega) (fun z => by have := (t.lo k (.inl z)).1; omega)⟩
  exact (hp.bel.mono hB).trans w3
end Go.Proofs.YtchebhafabhabaaGreatDoor

namespace Go.Proofs.YtchebhafabhabaaGreatDoor
open Go.RowKit Go.Shelf
set_option linter.unusedVariables false

theorem bldS_same (r : Nat) : ∀ (a b : List EntD) (s : Bs), a.length = b.length → (∀ (i : Nat) D E, a[i]? = some D → b[i]? = some E → EntD.Same D E) → bldS r s a = bldS r s b
 | [], [], s, _, _ => rfl
 | [], y :: b, s, h, _ => by simp at h
 | x :: a, [], s, h, _ => by simp at h
 | x :: a, y :: b, s, h, k => by
  have e := addE_same (k 0 x y rfl rfl) r s
  simp only [bldS, e]
  split
  ·exact bldS_same r a b _ (by simpa using h) (fun i D E h1 h2 => k (i + 1) D E (by simpa using h1) (by simpa using h2))
  ·rfl
theorem both_build {Y2 Y3 Y4 : World} {r : Nat} {Da Db : List EntD} {a : Option Addr} {c : Nat} {x1 x2 : Ending} (h1 : BuP Y2 (r : Int) Da x1 Y3) (h2 : RbA Y3 r Db x2 Y4) (hr1 : 1 ≤ r) (hr16 : r ≤ 16) (hrd : RdL5 Y2 a c Da) (hl : Da.length = Db.length) (hs : ∀ (i : Nat) D E, Da[i]? = some D → Db[i]? = some E → EntD.Same D E) :
  ∃ a1 m1 c1 a2 m2 c2, ∃ E : Nat, ∃ bs, x1 = .returned (.tuple #[.slice a1 m1 c1, .int .i64 (E : Int)]) ∧ x2 = .returned (.tuple #[.slice a2 m2 c2, .int .i64 (E : Int)]) ∧ Rd Y4 (.slice a1 m1 c1) bs ∧ Rd Y4 (.slice a2 m2 c2) bs ∧ Below Y3.heap.size Y3 Y4 ∧ Below Y2.heap.size Y2 Y3 := by
 have eb := bldS_same r Da Db Bs.zero hl hs
 obtain ⟨v, E, rfl, b1, -, k2, k3, k4⟩ := h1
 obtain ⟨b2, a2, m2, c2, E2, rfl, q2, q3, q4⟩ := h2
 simp only [Int.toNat_natCast] at k2 k3 k4
 have hr : (1 : Int) ≤ (r : Int) ∧ (r : Int) ≤ 16 := by omega
 by_cases h0 : (bldS r Bs.zero Da).1 = 0
 ·have h0b : (bldS r Bs.zero Db).1 = 0 := by rw [← eb]; exact h0
  by_cases hz : Da = []
  ·have hzb : Db = [] := List.eq_nil_of_length_eq_zero (by rw [← hl, hz]; rfl)
   obtain ⟨rfl, rfl⟩ := k3 hr h0 hz
   obtain ⟨rfl, e⟩ := q3 h0b hzb
   refine ⟨none, 0, 0, a2, m2, c2, 54, [], rfl, rfl, Rd.nil _, ?_, b2, b1⟩
   rw [e]; exact Rd.nil _
  ·have hzb : Db ≠ [] := fun k => hz (List.eq_nil_of_length_eq_zero (by rw [hl, k]; rfl))
   obtain ⟨rfl, a1, m1, c1, rfl, o1⟩ := k4 hr h0 hz
   obtain ⟨rfl, o2⟩ := q4 h0b hzb
   have hla := laid_of hr1 hr16 h0 hz
   have hcs := (bldS_fold r Da Bs.zero h0).2.1
   have hby := hla.bys (hrd.bys hcs)
   have hbn : (bldS r Bs.zero Da).2.n = (kvL Da).length := by rw [bldS_n _ _ _ h0, kvL_len]; simp [Bs.zero]
   rw [hbn] at o1
   rw [← eb, ← hl, ← kvL_len] at o2
   have hsz := hla.size
   refine ⟨a1, m1, c1, a2, m2, c2, 0, _, rfl, rfl, (o1.rd hby ?_).later b2, o2.rd hby ?_, b2, b1⟩
   ·have := o1.1; rw [blockL_len] at this; omega
   ·have := o2.1; rw [blockL_len] at this; omega
 ·have h0b : (bldS r Bs.zero Db).1 ≠ 0 := by rw [← eb]; exact h0
  obtain ⟨rfl, rfl⟩ := k2 hr h0
  obtain ⟨e1, e⟩ := q2 h0b
  rw [← eb] at e1
  subst e1
  refine ⟨none, 0, 0, a2, m2, c2, _, [], rfl, rfl, Rd.nil _, ?_, b2, b1⟩
  rw [e]; exact Rd.nil _
end Go.Proofs.YtchebhafabhabaaGreatDoor
