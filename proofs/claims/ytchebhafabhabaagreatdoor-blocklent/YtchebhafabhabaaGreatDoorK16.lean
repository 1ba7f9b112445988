import Derived.Test.YtchebhafabhabaaGreatDoorK15
namespace Go.Proofs.YtchebhafabhabaaGreatDoor
open Go.RowKit
set_option linter.unusedVariables false

def EnA (w : World) (key val : List Nat) (x : Ending) (w' : World) : Prop := ∃ e : EntD, x = .returned (.agg e.cells) ∧ EntD.Ok w' e ∧ (checkS e = 0 ↔ okIt key val) ∧ (IsKey key → keyL e = key ∧ e.val = val) ∧ Below w.heap.size w w' ∧ (Own w' w.heap.size e.vr e.row.length e.row ∧ Own w' w.heap.size e.vq e.qual.length e.qual ∧ Own w' w.heap.size e.vv e.val.length e.val) ∧ (∀ k, e.vr.ownBlock = some k → e.vq.ownBlock ≠ some k) ∧ (∀ k, e.vr.ownBlock = some k → e.vv.ownBlock ≠ some k) ∧ (∀ k, e.vq.ownBlock = some k → e.vv.ownBlock ≠ some k)
set_option maxRecDepth 100000 in
set_option maxHeartbeats 4000000 in
theorem entry_ap {w : World} {ak av : Option Addr} {kn kc vn vc : Nat} {K V : List Nat} (n p s : Int) (hk : Rd w (.slice ak kn kc) K) (hv : Rd w (.slice av vn vc) V) (hkl : kn ≤ 131072) (hvl : vn ≤ 131072) :
  Calls Tryz.prog 76 #[.agg #[.int .i64 n, .int .i64 p, .int .i64 s, .slice ak kn kc, .slice av vn vc]] w fun x w' => EnA w K V x w' := by
 have A1 := (Below.refl w.heap.size w).alloc (Nat.le_refl _) (.cells #[.int .i64 n, .int .i64 p, .int .i64 s, .slice ak kn kc, .slice av vn vc] 116)
 have A2 := A1.alloc A1.size (.cells #[.slice none 0 0, .int .i64 0, .slice none 0 0, .int .i64 0, .int .i64 0, .int .i64 0, .slice none 0 0] 40)
 have ib : IBox (w.alloc (.cells #[.int .i64 n, .int .i64 p, .int .i64 s, .slice ak kn kc, .slice av vn vc] 116)) w.heap.size n p s (.slice ak kn kc) (.slice av vn vc) := heap_alloc_new w _
 have ib2 := ib.later ((Below.refl _ _).alloc (Nat.le_refl _) (.cells #[.slice none 0 0, .int .i64 0, .slice none 0 0, .int .i64 0, .int .i64 0, .int .i64 0, .slice none 0 0] 40))
 obtain ⟨X, hX⟩ : ∃ X, X = (w.alloc (.cells #[.int .i64 n, .int .i64 p, .int .i64 s, .slice ak kn kc, .slice av vn vc] 116)).alloc (.cells #[.slice none 0 0, .int .i64 0, .slice none 0 0, .int .i64 0, .int .i64 0, .int .i64 0, .slice none 0 0] 40) := ⟨_, rfl⟩
 have hXs : X.heap.size = w.heap.size + 2 := by rw [hX]; simp
 have zb : EBox X (w.heap.size + 1) ⟨.slice none 0 0, 0, .slice none 0 0, 0, 0, 0, .slice none 0 0, [], [], []⟩ := by
  unfold EBox EntD.cells
  rw [hX]
  have := heap_alloc_new (w.alloc (.cells #[.int .i64 n, .int .i64 p, .int .i64 s, .slice ak kn kc, .slice av vn vc] 116)) (.cells #[.slice none 0 0, .int .i64 0, .slice none 0 0, .int .i64 0, .int .i64 0, .int .i64 0, .slice none 0 0] 40)
  simpa using this
 rw [← hX] at A2 ib2
 have HPk := Lib.hid (parse_any (hk.later A2) (by have := (rd_lens hk).1; omega))
 have HX := Lib.hid hX
 have HA2 := Lib.hid A2
 have HIb := Lib.hid ib2
 have HZb := Lib.hid zb
 have HXs := Lib.hid hXs
 have HV := Lib.hid (hv.later A2)
 obtain ⟨c0, c1, c2, c3, c4⟩ := ib2.cells
 have HkL := Lib.hid (rd_lens hk).1
 have HvL := Lib.hid (rd_lens hv).1
 clear A1 A2 ib ib2 hX zb hXs hk hv
 go_enter Tryz.func76, Tryz.ntmps76
 go_upto_region 1 with fail
 rw [← HX.out]
 clear HX
 go_wp2_with fail
 refine Calls.mono HPk.out ?_
 rintro z X1 ⟨b1, hz⟩
 obtain ⟨ar, mr, cr, aq, mq, cq, fam, ts, sq, kd, row, qual, en, rfl, ⟨own1, own2, hsm⟩, fin⟩ : ∃ (ar : Option Addr) (mr cr : Nat) (aq : Option Addr) (mq cq : Nat) (fam ts sq kd : Int) (row qual : List Nat) (en : Int), z = .returned (.tuple #[.agg #[.slice ar mr cr, .int .i64 fam, .slice aq mq cq, .int .i64 ts, .int .i64 sq, .int .i64 kd, .slice none 0 0], .int .i64 en]) ∧ (Own X1 w.heap.size (.slice ar mr cr) row.length row ∧ Own X1 w.heap.size (.slice aq mq cq) qual.length qual ∧ Bys row ∧ Bys qual ∧ row.length ≤ 256 ∧ qual.length ≤ 256 ∧ ∀ k, (Value.slice ar mr cr).ownBlock = some k → (Value.slice aq mq cq).ownBlock ≠ some k) ∧ Hid (∀ vv, (checkS ⟨.slice ar mr cr, fam, .slice aq mq cq, ts, sq, kd, vv, row, qual, V⟩ = 0 ↔ okIt K V) ∧ (IsKey K → keyL ⟨.slice ar mr cr, fam, .slice aq mq cq, ts, sq, kd, vv, row, qual, V⟩ = K)) := by
  rcases hz with h | h
  ·obtain ⟨D, hD0, hDv, hDk, hDr, hDq, hDvv, rfl, own1, BB, hBB, own2, hlo⟩ := h
   obtain ⟨q1, _, q2, _⟩ := check_facts hD0
   have rd1 := own1.rd hDr (by omega)
   have rd2 := own2.rd hDq (by omega)
   obtain ⟨ar, mr, cr, h1⟩ := rd_slice rd1
   obtain ⟨aq, mq, cq, h2⟩ := rd_slice rd2
   rw [h1] at own1 hlo
   rw [h2] at own2
   have hap : ∀ k, (Value.slice ar mr cr).ownBlock = some k → (Value.slice aq mq cq).ownBlock ≠ some k := fun k hk he => by
    have := hlo k hk
    have := (own2.2.lt k he).1
    omega
   refine ⟨ar, mr, cr, aq, mq, cq, D.fam, D.ts, D.seq, D.kind, D.row, D.qual, 0, ?_, ⟨own1.mono (by have := HXs.out; omega), own2.mono (by have := HXs.out; omega), hDr, hDq, q1.2, q2, hap⟩, fun vv => ⟨?_, fun _ => ?_⟩⟩
   ·unfold EntD.cells
    rw [h1, h2, hDvv]
   ·rw [ok_iff hD0 hDv, hDk]
   ·rw [← hDk]; rfl
  ·obtain ⟨hno, rfl⟩ := h
   refine ⟨none, 0, 0, none, 0, 0, 0, 0, 0, 0, [], [], 27, rfl, ⟨⟨rfl, World.ownsRow_nil _ _ _ _⟩, ⟨rfl, World.ownsRow_nil _ _ _ _⟩, (by intro x hx; cases hx), (by intro x hx; cases hx), Nat.zero_le _, Nat.zero_le _, fun k h => by cases h⟩, fun vv => ⟨⟨fun h => ?_, fun h => absurd h.1 hno⟩, fun h => absurd h hno⟩⟩
   unfold checkS at h
   simp at h
 have X2b := EBox.new X1 ⟨.slice ar mr cr, fam, .slice aq mq cq, ts, sq, kd, .slice none 0 0, row, qual, []⟩
 have B2 : Below X1.heap.size X1 _ := (Below.refl X1.heap.size X1).alloc (Nat.le_refl _) (.cells #[.slice ar mr cr, .int .i64 fam, .slice aq mq cq, .int .i64 ts, .int .i64 sq, .int .i64 kd, .slice none 0 0] 40)
 have S2 : (X1.alloc (.cells #[.slice ar mr cr, .int .i64 fam, .slice aq mq cq, .int .i64 ts, .int .i64 sq, .int .i64 kd, .slice none 0 0] 40)).heap.size = X1.heap.size + 1 := by simp
 unfold EntD.cells at X2b
 simp only at X2b
 obtain ⟨X2, hX2⟩ : ∃ X2, X2 = X1.alloc (.cells #[.slice ar mr cr, .int .i64 fam, .slice aq mq cq, .int .i64 ts, .int .i64 sq, .int .i64 kd, .slice none 0 0] 40) := ⟨_, rfl⟩
 rw [← hX2] at X2b B2 S2
 have b2 : Below X.heap.size X X2 := b1.trans (B2.mono b1.size)
 have HX2 := Lib.hid hX2
 have HE2 := Lib.hid X2b
 have HR := Lib.hid (And.intro (own1.later B2) (And.intro (own2.later B2) hsm))
 have HI2 := Lib.hid (HIb.out.later b2)
 have HZ2 := Lib.hid (HZb.out.later b2)
 have HA3 := Lib.hid (HA2.out.trans (b2.mono HA2.out.size))
 have HS2 := Lib.hid (show X1.heap.size < X2.heap.size ∧ w.heap.size + 2 ≤ X1.heap.size from ⟨by omega, by have := b1.size; have := HXs.out; omega⟩)
 have HV2 := Lib.hid (HV.out.later b2)
 have HC := Lib.hid (handed (clone_any HV2.out (by have := HvL.out; omega)))
 obtain ⟨e0, e1, e2, e3, e4⟩ := HI2.out.cells
 clear c0 c1 c2 c3 c4 own1 own2 hsm B2 S2 X2b hX2 b1 b2 HPk HIb HZb HV hz
 go_upto_region 2 with fail
 rw [← HX2.out]
 clear HX2
 go_wp2_with fail
 refine Calls.mono HC.out ?_
 rintro z X3 ⟨a3, m3, c3, rfl, own3, b3⟩
 have HAp : Hid ((∀ k, (Value.slice ar mr cr).ownBlock = some k → (Value.slice a3 m3 c3).ownBlock ≠ some k) ∧ (∀ k, (Value.slice aq mq cq).ownBlock = some k → (Value.slice a3 m3 c3).ownBlock ≠ some k)) := ⟨fun k h e => by have := (HR.out.1.2.lt k h).2; have := (own3.2.lt k e).1; omega, fun k h e => by have := (HR.out.2.1.2.lt k h).2; have := (own3.2.lt k e).1; omega⟩
 have HV3 : Hid (Bys V ∧ m3 = V.length) := ⟨HV2.out.1, own3.1⟩
 have n1 : ¬ (X1.heap.size = w.heap.size + 1) := by have := HS2.out; omega
 have n2 : ¬ (w.heap.size + 1 = X1.heap.size) := by have := HS2.out; omega
 have be := HE2.out.later b3
 have bg := HZ2.out.later b3
 have A4 := HA3.out.trans (b3.mono HA3.out.size)
 have ap1 := apart_set X3 X1.heap.size 6 (.slice a3 m3 c3)
 have be2 := be.set6 (.slice a3 m3 c3) V
 have bg2 := bg.apart ap1 n2
 have fa := filled_apart (X3.setCell ⟨X1.heap.size, 6, none⟩ (.slice a3 m3 c3)) (w.heap.size + 1) ⟨.slice ar mr cr, fam, .slice aq mq cq, ts, sq, kd, .slice a3 m3 c3, row, qual, V⟩
 have fb := filled_box bg2 ⟨.slice ar mr cr, fam, .slice aq mq cq, ts, sq, kd, .slice a3 m3 c3, row, qual, V⟩
 have A5 := A4.trans (ap1.below (by have := HS2.out; omega) A4.size)
 have bw := A5.trans (fa.below (by omega) A5.size)
 have y1 := ((HR.out.1.later b3).apartE be ap1).apartE bg2 fa
 have y2 := ((HR.out.2.1.later b3).apartE be ap1).apartE bg2 fa
 have y3 := (own3.apartE be ap1).apartE bg2 fa
 have HDN : Hid (_ ∧ _ ∧ _ ∧ _ ∧ _) := ⟨fb, bw, y1, y2, y3⟩
 clear fa fb bw y1 y2 y3 ap1 be2 bg2 A4 A5 own3 b3
 simp only [filled] at HDN
 obtain ⟨g0, g1, g2, g3, g4, g5, g6⟩ := bg.cells7
 obtain ⟨gf0, gf1, gf2, gf3, gf4, gf5, gf6⟩ := EBox.fz7b bg
 simp only at g0 g1 g2 g3 g4 g5 g6
 obtain ⟨h0, h1, h2, h3, h4, h5, h6⟩ := be.cells7
 obtain ⟨ef0, ef1, ef2, ef3, ef4, ef5, ef6⟩ := EBox.fz7b be
 simp only at h0 h1 h2 h3 h4 h5 h6
 clear e0 e1 e2 e3 e4 be bg
 have HSM := Lib.hid HR.out.2.2
 clear HR HE2 HI2 HZ2 HA3 HV2 HC
 go_wp2
 have HH := HDN.out
 clear HDN
 generalize ((((((((X3.setCell ⟨X1.heap.size, 6, none⟩ (.slice a3 m3 c3)).setCell ⟨w.heap.size + 1, 0, none⟩ (.slice ar mr cr)).setCell ⟨w.heap.size + 1, 1, none⟩ (.int .i64 fam)).setCell ⟨w.heap.size + 1, 2, none⟩ (.slice aq mq cq)).setCell ⟨w.heap.size + 1, 3, none⟩ (.int .i64 ts)).setCell ⟨w.heap.size + 1, 4, none⟩ (.int .i64 sq)).setCell ⟨w.heap.size + 1, 5, none⟩ (.int .i64 kd)).setCell ⟨w.heap.size + 1, 6, none⟩ (.slice a3 m3 c3)) = WZ at *
 obtain ⟨fb, bw, y1, y2, y3⟩ := HH
 obtain ⟨t0, t1, t2, t3, t4, t5, t6⟩ := fb.cells7
 simp only at t0 t1 t2 t3 t4 t5 t6
 (try simp only [Exit.inBlock, Exit.then])
 refine bodyPost_ret (v := .agg #[.slice ar mr cr, .int .i64 fam, .slice aq mq cq, .int .i64 ts, .int .i64 sq, .int .i64 kd, .slice a3 m3 c3]) ?hres rfl ?_
 case hres => simp [results, Tryz.results76, go_sem, t0, t1, t2, t3, t4, t5, t6]
 obtain ⟨k1, k2, k3, k4, k5⟩ := HSM.out
 have hm3 := HV3.out.2
 have hvv := HvL.out
 exact ⟨⟨.slice ar mr cr, fam, .slice aq mq cq, ts, sq, kd, .slice a3 m3 c3, row, qual, V⟩, rfl, ⟨y1.rd k1 (by omega), y2.rd k2 (by omega), y3.rd HV3.out.1 (by omega)⟩, (fin.out _).1, fun h => ⟨(fin.out _).2 h, rfl⟩, bw, ⟨y1, y2, by have := y3.mono (B' := w.heap.size) (by have := HS2.out; omega); rw [HV3.out.2] at this; rw [HV3.out.2]; exact this⟩, k5, HAp.out.1, HAp.out.2⟩
end Go.Proofs.YtchebhafabhabaaGreatDoor

namespace Go.Proofs.YtchebhafabhabaaGreatDoor
open Go.RowKit Go.Shelf
set_option linter.unusedVariables false

def Ap3 (D : EntD) : Prop := (∀ k, D.vr.ownBlock = some k → D.vq.ownBlock ≠ some k) ∧ (∀ k, D.vr.ownBlock = some k → D.vv.ownBlock ≠ some k) ∧ (∀ k, D.vq.ownBlock = some k → D.vv.ownBlock ≠ some k)
def AtQ (w : World) (l : List (List Nat × List Nat)) (i : Int) (x : Ending) (w' : World) : Prop :=
 Below w.heap.size w w' ∧ ((¬ (0 ≤ i ∧ i < l.length) ∧ x = .returned (.tuple #[.agg #[.slice none 0 0, .int .i64 0, .slice none 0 0, .int .i64 0, .int .i64 0, .int .i64 0, .slice none 0 0], .int .i64 1])) ∨
  (0 ≤ i ∧ ∃ kv e, l[i.toNat]? = some kv ∧ x = .returned (.tuple #[.agg (EntD.cells e), .int .i64 0]) ∧ EntD.Ok w' e ∧ checkS e = 0 ∧ keyL e = kv.1 ∧ e.val = kv.2 ∧ Own w' w.heap.size e.vr e.row.length e.row ∧ Own w' w.heap.size e.vq e.qual.length e.qual ∧ Own w' w.heap.size e.vv e.val.length e.val ∧ Ap3 e))
structure AtJ (gi ge i B0 : Nat) (st : Option (List Nat × List Nat) × EntD) (w : World) : Prop where
 i_ : Cell1B w gi (.int .i64 (i : Int)) 3
 e : EBox w ge st.2
 o1 : Own w B0 st.2.vr st.2.row.length st.2.row
 o2 : Own w B0 st.2.vq st.2.qual.length st.2.qual
 o3 : Own w B0 st.2.vv st.2.val.length st.2.val
 by_ : Bys st.2.row ∧ Bys st.2.qual ∧ Bys st.2.val
 len : st.2.row.length ≤ 281474976710656 ∧ st.2.qual.length ≤ 281474976710656 ∧ st.2.val.length ≤ 281474976710656
 fact : ∀ kv, st.1 = some kv → (IsKey kv.1 → keyL st.2 = kv.1 ∧ st.2.val = kv.2) ∧ (checkS st.2 = 0 ↔ okIt kv.1 kv.2)
 lo : gi < B0 ∧ ge < B0 ∧ gi ≠ ge
 B : B0 ≤ w.heap.size
 ap : Ap3 st.2
theorem AtJ.stays {gi ge i B0 : Nat} {st : Option (List Nat × List Nat) × EntD} {w w' : World} {O' : Nat → Prop} (h : AtJ gi ge i B0 st w) (f : Fb w w' O') (hk : ∀ k, k < w.heap.size → AtO ge st k → ¬ O' k) (hL : ∀ k, O' k → B0 ≤ k) : AtJ gi ge i B0 st w' := by
 have hl := h.lo
 have hB := h.B
 have hge : ge < w.heap.size := (Array.getElem?_eq_some_iff.1 h.e).1
 exact ⟨h.i_.fb f (fun k => by have := hL _ k; omega), h.e.fb f (hk _ hge (.inl rfl)), h.o1.fb f (fun k ho => hk k (h.o1.2.lt _ ho).2 (.inr (.inl ho))), h.o2.fb f (fun k ho => hk k (h.o2.2.lt _ ho).2 (.inr (.inr (.inl ho)))), h.o3.fb f (fun k ho => hk k (h.o3.2.lt _ ho).2 (.inr (.inr (.inr ho)))), h.by_, h.len, h.fact, h.lo, Nat.le_trans h.B f.size, h.ap⟩
set_option maxRecDepth 100000 in
set_option maxHeartbeats 4000000 in
theorem at2_asks {gi ge i N B0 : Nat} (hi : i < 4294967296) (hN : N < 4294967296)
  (st : Option (List Nat × List Nat) × EntD) (w : World) (it : It) (ak av : Option Addr) (kc vc kn vn : Nat) (hI : AtJ gi ge i B0 st w) (hnu : it.number < N) (hkn : kn = it.key.length) (hvn : vn = it.val.length) (hk : Rd w (.slice ak kn kc) it.key) (hv : Rd w (.slice av vn vc) it.val) (hkl : kn ≤ 131072) (hvl : vn ≤ 131072)
  (hst : ∀ w', Fb w w' (AtO ge st) → Rd w' (.slice ak kn kc) it.key ∧ Rd w' (.slice av vn vc) it.val) :
  Calls Tryz.prog 77 (#[.agg #[.int .i64 (it.number : Int), .int .i64 (it.place : Int), .int .i64 (it.shared : Int), .slice ak kn kc, .slice av vn vc]] ++ #[.pointer (some ⟨gi, 0, none⟩), .pointer (some ⟨ge, 0, none⟩)]) w fun e w' => e = .returned (.bool (AtA i st.1 it).1) ∧ ∃ mm, AtJ gi ge i B0 ((AtA i st.1 it).2, mm) w' ∧ Fb w w' (AtO ge st) ∧ ∀ k, AtO ge ((AtA i st.1 it).2, mm) k → AtO ge st k ∨ w.heap.size ≤ k := by
 obtain ⟨nu, pl, sh, K, V⟩ := it
 obtain ⟨s0, D⟩ := st
 simp only at *
 have A1 := (Below.refl w.heap.size w).alloc (Nat.le_refl _) (.cells #[.int .i64 nu, .int .i64 pl, .int .i64 sh, .slice ak kn kc, .slice av vn vc] 116)
 have ib := IBox.new w nu pl sh (.slice ak kn kc) (.slice av vn vc)
 obtain ⟨X, hX⟩ : ∃ X, X = w.alloc (.cells #[.int .i64 nu, .int .i64 pl, .int .i64 sh, .slice ak kn kc, .slice av vn vc] 116) := ⟨_, rfl⟩
 rw [← hX] at A1 ib
 have HX := Lib.hid hX
 have fX : Fb w X (AtO ge (s0, D)) := Fb.of_below A1
 have hIX : AtJ gi ge i B0 (s0, D) X := hI.stays (Fb.of_below (O := fun _ => False) A1) (fun _ _ _ h => h) (fun _ h => h.elim)
 have HEn := Lib.hid (entry_ap (nu : Int) (pl : Int) (sh : Int) (hk.later A1) (hv.later A1) hkl hvl)
 have HIX := Lib.hid hIX
 have HFX := Lib.hid fX
 have HA1 := Lib.hid A1
 have hnl : nu < 4294967296 := by omega
 obtain ⟨c0, c1, c2, c3, c4⟩ := ib.cells
 have d0 := hIX.i_.cell
 clear hX A1 ib fX hIX hI hk hv hst hnu hkn hvn
 by_cases hlt : nu < i
 ·have e1 : AtA i s0 ⟨nu, pl, sh, K, V⟩ = (true, s0) := by unfold AtA; rw [if_pos hlt]
  have hlt2 : (nu : Int) < (i : Int) := by omega
  have HEnd : Hid (∃ mm, AtJ gi ge i B0 (s0, mm) X ∧ Fb w X (AtO ge (s0, D)) ∧ ∀ k, AtO ge (s0, mm) k → AtO ge (s0, D) k ∨ w.heap.size ≤ k) := ⟨D, HIX.out, HFX.out, fun k h => .inl h⟩
  rw [e1]
  clear e1 HEn
  go_enter Tryz.func77, Tryz.ntmps77
  go_upto_region 1 with fail
  rw [← HX.out]
  clear HX
  go_wp2
  go_ret
  exact ⟨rfl, HEnd.out⟩
 ·have e1 : AtA i s0 ⟨nu, pl, sh, K, V⟩ = (false, some (K, V)) := by unfold AtA; rw [if_neg hlt]
  have hlt2 : ¬ (nu : Int) < (i : Int) := by omega
  rw [e1]
  clear e1
  go_enter Tryz.func77, Tryz.ntmps77
  go_upto_region 1 with fail
  rw [← HX.out]
  clear HX
  go_wp2_with fail
  refine Calls.mono HEn.out ?_
  rintro z X1 ⟨e, rfl, hok, hchk, hkey, b1, ⟨y1, y2, y3⟩, hap⟩
  obtain ⟨ve, fam, vq, ts, seq, kind, vv, row, qual, val⟩ := e
  obtain ⟨k1, k2, k3⟩ := hok
  simp only at k1 k2 k3 y1 y2 y3
  obtain ⟨ar, mr, cr, rfl⟩ := rd_slice k1
  obtain ⟨aq, mq, cq, rfl⟩ := rd_slice k2
  obtain ⟨aw, mw, cw, rfl⟩ := rd_slice k3
  have hI1 : AtJ gi ge i B0 (s0, D) X1 := HIX.out.stays (Fb.of_below (O := fun _ => False) b1) (fun _ _ _ h => h) (fun _ h => h.elim)
  have hBw : B0 ≤ X.heap.size := HIX.out.B
  have ap := filled_apart X1 ge ⟨.slice ar mr cr, fam, .slice aq mq cq, ts, seq, kind, .slice aw mw cw, row, qual, val⟩
  have bx := filled_box hI1.e ⟨.slice ar mr cr, fam, .slice aq mq cq, ts, seq, kind, .slice aw mw cw, row, qual, val⟩
  have fY : Fb w (filled X1 ge ⟨.slice ar mr cr, fam, .slice aq mq cq, ts, seq, kind, .slice aw mw cw, row, qual, val⟩) (AtO ge (s0, D)) := (HFX.out.trans (Fb.of_below b1 |>.mono (fun _ _ h => h) : Fb X X1 (AtO ge (s0, D)))).trans (Fb.of_apart ap (.inl rfl))
  have hXw : w.heap.size ≤ X.heap.size := HA1.out.size
  have HEnd : Hid (∃ mm, AtJ gi ge i B0 (some (K, V), mm) (filled X1 ge ⟨.slice ar mr cr, fam, .slice aq mq cq, ts, seq, kind, .slice aw mw cw, row, qual, val⟩) ∧ Fb w (filled X1 ge ⟨.slice ar mr cr, fam, .slice aq mq cq, ts, seq, kind, .slice aw mw cw, row, qual, val⟩) (AtO ge (s0, D)) ∧ ∀ k, AtO ge (some (K, V), mm) k → AtO ge (s0, D) k ∨ w.heap.size ≤ k) := by
   refine ⟨⟨.slice ar mr cr, fam, .slice aq mq cq, ts, seq, kind, .slice aw mw cw, row, qual, val⟩, ⟨?_, bx, ((y1.mono hBw).apartE hI1.e ap), ((y2.mono hBw).apartE hI1.e ap), ((y3.mono hBw).apartE hI1.e ap), ⟨k1.1, k2.1, k3.1⟩, ⟨?_, ?_, ?_⟩, ?_, hI1.lo, Nat.le_trans hI1.B ap.size, hap⟩, fY, ?_⟩
   ·exact hI1.i_.fb (Fb.of_apart (O := fun k => k = ge) ap rfl) hI1.lo.2.2
   ·have := rd_lens k1; simp only; omega
   ·have := rd_lens k2; simp only; omega
   ·have := rd_lens k3; simp only; omega
   ·intro kv h
    cases h
    exact ⟨hkey, hchk⟩
   ·rintro k (h | h | h | h)
    ·exact .inl (.inl h)
    ·exact .inr (Nat.le_trans hXw (y1.2.lt _ h).1)
    ·exact .inr (Nat.le_trans hXw (y2.2.lt _ h).1)
    ·exact .inr (Nat.le_trans hXw (y3.2.lt _ h).1)
  obtain ⟨g0, g1, g2, g3, g4, g5, g6⟩ := hI1.e.cells7
  obtain ⟨gf0, gf1, gf2, gf3, gf4, gf5, gf6⟩ := EBox.fz7b hI1.e
  simp only [filled] at HEnd
  clear k1 k2 k3 y1 y2 y3 hap hI1 ap bx fY b1 hkey hchk HEn HIX HFX c0 c1 c2 c3 c4 d0
  simp only [EntD.cells]
  go_wp2
  go_ret
  exact ⟨rfl, HEnd.out⟩
theorem at2_asker {gi ge i N B0 : Nat} (hi : i < 4294967296) (hN : N < 4294967296) :
  Asker (Option (List Nat × List Nat)) EntD 77 #[.pointer (some ⟨gi, 0, none⟩), .pointer (some ⟨ge, 0, none⟩)] N B0 (AtJ gi ge i B0) (AtO ge) (AtA i) where
 enters := enters_of Tryz.func77 (by kernel_rfl) rfl
 lt := fun st w k h ho => by
  rcases ho with rfl | ho | ho | ho
  ·exact (Array.getElem?_eq_some_iff.1 h.e).1
  ·exact (h.o1.2.lt _ ho).2
  ·exact (h.o2.2.lt _ ho).2
  ·exact (h.o3.2.lt _ ho).2
 stays := fun st w w' O' h f hk hL => h.stays f hk hL
 asks := at2_asks hi hN
set_option maxRecDepth 100000 in
set_option maxHeartbeats 4000000 in
theorem at_in2 {W : World} {g r b ne ce np cp B : Nat} {E P : List Nat} {l : List (List Nat × List Nat)} (hL : Blad r l E P) (hk : Lk W B g r l.length b ne ce E P np cp) (i : Nat) (hi : i < l.length) :
  Calls Tryz.prog 34 #[.pointer (some ⟨g, 0, none⟩), .int .i64 (i : Int)] W fun x w' => AtQ W l (i : Int) x w' := by
 obtain ⟨X, hX, bX, sX, cX, eX⟩ := two_at W (i : Int)
 have HX := Lib.hid hX
 obtain ⟨N, hN⟩ : ∃ N, N = l.length := ⟨_, rfl⟩
 have hN32 : N < 4294967296 := by have := hL.few; have := hL.size; omega
 obtain ⟨q0, q1, q2, q3⟩ := (hk.box.later bX).cells
 rw [← hN] at q1 hi
 have d0 := cX.cell
 have hr1 := hL.r1
 have hr16 := hL.r16
 obtain ⟨q, hq⟩ : ∃ q, i / r = q := ⟨_, rfl⟩
 have hqi : (i : Int) / (r : Int) = (q : Int) := by rw [← hq]; exact (Int.natCast_ediv _ _).symm
 have hqr : q * r ≤ i := by rw [← hq]; exact Nat.div_mul_le_self _ _
 have hqle : q ≤ i := by rw [← hq]; exact Nat.div_le_self _ _
 obtain ⟨m, hm⟩ : ∃ m, q * r = m := ⟨_, rfl⟩
 have hmi : (q : Int) * (r : Int) = (m : Int) := by rw [← hm]; exact (Int.natCast_mul _ _).symm
 rw [hm] at hqr
 have HM := Lib.hid hm
 clear hm
 have hi0 : ¬ (i : Int) < 0 := by omega
 have hiN : (i : Int) < (N : Int) := by omega
 have hiN2 : ¬ (N : Int) ≤ (i : Int) := by omega
 have hr0 : ¬ (r : Int) = 0 := by omega
 have HL := Lib.hid hL
 have HK := Lib.hid hk
 have HN := Lib.hid hN
 have HBX := Lib.hid bX
 have HSX := Lib.hid sX
 have HCX := Lib.hid cX
 have HEX := Lib.hid eX
 have HQ := Lib.hid hq
 clear hL hk hN bX sX cX eX hX hq
 go_enter Tryz.func34, Tryz.ntmps34
 go_upto_region 1 with fail
 rw [← HX.out]
 clear HX
 go_quiet (fail)
 have bY := below_drewN (Below.refl X.heap.size X) nq
 have HBY := Lib.hid bY
 generalize X.drewN nq = Y at *
 have HSY := Lib.hid (show X.heap.size ≤ Y.heap.size from bY.size)
 have d1 : Y.cell? ⟨W.heap.size, 0, none⟩ = some (.int .i64 (i : Int)) := (HCX.out.fb (O := fun _ => False) (Fb.of_below bY) id).cell
 obtain ⟨p0, p1, p2, p3⟩ := ((HK.out.box.later HBX.out).later bY).cells
 clear bY q0 q1 q2 q3 d0
 go_upto_region 4 with fail
 have hE2 : EBox (Y.alloc (.cells #[.slice none 0 0, .int .i64 0, .slice none 0 0, .int .i64 0, .int .i64 0, .int .i64 0, .slice none 0 0] 40)) Y.heap.size ⟨.slice none 0 0, 0, .slice none 0 0, 0, 0, 0, .slice none 0 0, [], [], []⟩ := EBox.new Y ⟨.slice none 0 0, 0, .slice none 0 0, 0, 0, 0, .slice none 0 0, [], [], []⟩
 have b2 : Below Y.heap.size Y (Y.alloc (.cells #[.slice none 0 0, .int .i64 0, .slice none 0 0, .int .i64 0, .int .i64 0, .int .i64 0, .slice none 0 0] 40)) := (Below.refl _ _).alloc (Nat.le_refl _) _
 have s2 : (Y.alloc (.cells #[.slice none 0 0, .int .i64 0, .slice none 0 0, .int .i64 0, .int .i64 0, .int .i64 0, .slice none 0 0] 40)).heap.size = Y.heap.size + 1 := by simp
 obtain ⟨Y2, hY2⟩ : ∃ Y2, Y2 = Y.alloc (.cells #[.slice none 0 0, .int .i64 0, .slice none 0 0, .int .i64 0, .int .i64 0, .int .i64 0, .slice none 0 0] 40) := ⟨_, rfl⟩
 rw [← hY2] at hE2 b2 s2 ⊢
 have hd2 : Y2.cell? ⟨W.heap.size, 0, none⟩ = some (.int .i64 (i : Int)) := by
  rw [b2.cell (p := ⟨W.heap.size, 0, none⟩) (World.block_lt_of_cell? Y _ d1)]; exact d1
 obtain ⟨q0, q1, q2, q3⟩ := (((HK.out.box.later HBX.out).later HBY.out).later b2).cells
 have HE2 := Lib.hid hE2
 have HB2 := Lib.hid b2
 have HS2 := Lib.hid s2
 clear hE2 b2 s2 hY2 p0 p1 p2 p3 d1
 go_quiet (fail)
 have bV := below_drewN (Below.refl Y2.heap.size Y2) nq
 generalize Y2.drewN nq = V at *
 have hWV : Below W.heap.size W V := ((HBX.out.trans (HBY.out.mono HBX.out.size)).trans (HB2.out.mono (Nat.le_trans HBX.out.size HBY.out.size))).trans (bV.mono (by have := HBX.out.size; have := HBY.out.size; have := HB2.out.size; omega))
 have hk3 := HK.out.box.later hWV
 have hEV := HE2.out.later bV
 have hVs : Y2.heap.size ≤ V.heap.size := bV.size
 have hCV : Cell1B V W.heap.size (.int .i64 (i : Int)) 3 := ((HCX.out.later HBY.out).later HB2.out).later bV
 have hRV := (HEX.out.later HBY.out).later HB2.out |>.later bV
 have HK3 := Lib.hid hk3
 have HEV := Lib.hid hEV
 have HCV := Lib.hid hCV
 have HRV := Lib.hid hRV
 have HWV := Lib.hid hWV
 have HVS := Lib.hid hVs
 clear q0 q1 q2 q3 hd2 bV hWV hk3 hEV hCV hRV hVs
 go_upto_region 5 with fail
 have BD : Below V.heap.size V V.drew := (Below.refl _ _).drew
 have HgY : Hid (g ≠ Y.heap.size) := by
  have h1 : g < W.heap.size := (Array.getElem?_eq_some_iff.1 HK.out.box).1
  have h2 := HSY.out
  have h3 := HSX.out
  unfold Hid
  omega
 refine wp_region_noPanic ?_
 refine wp_region_held_drew (S := fun wx => Fb V wx (fun k => k = Y.heap.size)) (by kernel_rfl) (Fb.of_below BD) (fun hHeld => ?_)
 refine wpAnyH_take (i := 0) (oi := { dst := some 25, op := _, type := _, pos := _, after := _, guard := _ }) (v := .pointer (some ⟨g, 0, none⟩)) rfl (by kernel_rfl) (by kernel_rfl) (by kernel_rfl) (fun _ _ _ h => h) (Or.inl ⟨by kernel_rfl, fun wy hy => by (go_simp; first | done | omega)⟩) (by assumption) ?_
 try simp only [Act.put, List.setIfInBounds_toArray, List.set_cons_zero, List.set_cons_succ]
 refine wpAnyH_take (i := 1) (oi := { dst := some 26, op := _, type := _, pos := _, after := _, guard := _ }) (v := .int .i64 (q : Int)) rfl (by kernel_rfl) (by kernel_rfl) (by kernel_rfl) (fun _ _ _ h => h) (Or.inl ⟨by kernel_rfl, fun wy hy => by (go_simp; first | done | omega)⟩) (by assumption) ?_
 try simp only [Act.put, List.setIfInBounds_toArray, List.set_cons_zero, List.set_cons_succ]
 refine wpAnyH_take (i := 2) (oi := { dst := some 27, op := _, type := _, pos := _, after := _, guard := _ }) (v := .pointer (some ⟨g, 0, none⟩)) rfl (by kernel_rfl) (by kernel_rfl) (by kernel_rfl) (fun _ _ _ h => h) (Or.inl ⟨by kernel_rfl, fun wy hy => by (go_simp; first | done | omega)⟩) (by assumption) ?_
 try simp only [Act.put, List.setIfInBounds_toArray, List.set_cons_zero, List.set_cons_succ]
 refine wpAnyH_take (i := 3) (oi := { dst := some 28, op := _, type := _, pos := _, after := _, guard := _ }) (v := .pointer (some ⟨g, 0, none⟩)) rfl (by kernel_rfl) (by kernel_rfl) (by kernel_rfl) (fun _ _ _ h => h) (Or.inl ⟨by kernel_rfl, fun wy hy => by (go_simp; first | done | omega)⟩) (by assumption) ?_
 try simp only [Act.put, List.setIfInBounds_toArray, List.set_cons_zero, List.set_cons_succ]
 refine wpAnyH_take (i := 4) (oi := { dst := some 29, op := _, type := _, pos := _, after := _, guard := _ }) (v := .pointer (some ⟨g, 0, none⟩)) rfl (by kernel_rfl) (by kernel_rfl) (by kernel_rfl) (fun _ _ _ h => h) (Or.inl ⟨by kernel_rfl, fun wy hy => by (go_simp; first | done | omega)⟩) (by assumption) ?_
 try simp only [Act.put, List.setIfInBounds_toArray, List.set_cons_zero, List.set_cons_succ]
 refine wpAnyH_take (i := 5) (oi := { dst := some 30, op := _, type := _, pos := _, after := _, guard := _ }) (v := .int .i64 (r : Int)) rfl (by kernel_rfl) (by kernel_rfl) (by kernel_rfl) (fun _ _ _ h => h) (Or.inl ⟨by kernel_rfl, fun wy hy => by (obtain ⟨q0, q1, q2, q3⟩ := (HK3.out.fb hy HgY.out).cells; go_simp; done)⟩) (by assumption) ?_
 try simp only [Act.put, List.setIfInBounds_toArray, List.set_cons_zero, List.set_cons_succ]
 refine wpAnyH_take (i := 6) (oi := { dst := some 31, op := _, type := _, pos := _, after := _, guard := _ }) (v := .int .i64 (m : Int)) rfl (by kernel_rfl) (by kernel_rfl) (by kernel_rfl) (fun _ _ _ h => h) (Or.inl ⟨by kernel_rfl, fun wy hy => by (go_simp; first | done | exact IntWalk.i64_in _ ⟨by omega, by omega⟩)⟩) (by assumption) ?_
 try simp only [Act.put, List.setIfInBounds_toArray, List.set_cons_zero, List.set_cons_succ]
 refine wpAnyH_take (i := 7) (oi := { dst := some 32, op := _, type := _, pos := _, after := _, guard := _ }) (v := .pointer (some ⟨g, 0, none⟩)) rfl (by kernel_rfl) (by kernel_rfl) (by kernel_rfl) (fun _ _ _ h => h) (Or.inl ⟨by kernel_rfl, fun wy hy => by (go_simp; first | done | omega)⟩) (by assumption) ?_
 try simp only [Act.put, List.setIfInBounds_toArray, List.set_cons_zero, List.set_cons_succ]
 refine wpAnyH_take (i := 8) (oi := { dst := some 33, op := _, type := _, pos := _, after := _, guard := _ }) (v := .int .i64 (q : Int)) rfl (by kernel_rfl) (by kernel_rfl) (by kernel_rfl) (fun _ _ _ h => h) (Or.inl ⟨by kernel_rfl, fun wy hy => by (go_simp; first | done | omega)⟩) (by assumption) ?_
 try simp only [Act.put, List.setIfInBounds_toArray, List.set_cons_zero, List.set_cons_succ]
 refine wpAnyH_take (i := 10) (oi := { dst := some 35, op := _, type := _, pos := _, after := _, guard := _ }) (v := .func (.func 77) #[] #[.pointer (some ⟨W.heap.size, 0, none⟩), .pointer (some ⟨Y.heap.size, 0, none⟩)]) rfl (by kernel_rfl) (by kernel_rfl) (by kernel_rfl) (fun _ _ _ h => h) (Or.inl ⟨by kernel_rfl, fun wy hy => by (go_simp; first | done | omega)⟩) (by assumption) ?_
 try simp only [Act.put, List.setIfInBounds_toArray, List.set_cons_zero, List.set_cons_succ]
 refine wpAnyH_ready (rs := [9]) (by kernel_rfl) (by simp) ?_
 refine AllReadyH.cons (o := { dst := some 34, op := _, type := _, pos := _, after := _, guard := _ }) rfl (fun KK hK => ?_) AllReadyH.nil
 go_simp
 go_at_call 70
 have hqP : q * 4 + 4 ≤ P.length := by
  have e := HL.out.psl
  rw [e]
  have h1 : q + 1 ≤ (l.length + r - 1) / r := by
   rw [Nat.le_div_iff_mul_le (by omega), Nat.add_mul, HM.out]
   have := HN.out
   omega
  omega
 have hPl : P.length ≤ 131072 := by have := HL.out.size; omega
 have hVW := HWV.out
 refine (place_any ((HK3.out.later BD)) ((HK.out.pls.later hVW).later BD) q hqP hPl).mono ?_
 rintro e1 V1 ⟨rfl, hb1⟩
 have bV1 : Below V.heap.size V V1 := BD.trans (hb1.mono BD.size)
 obtain ⟨pq, hpq⟩ : ∃ pq, wordAt P q = pq := ⟨_, rfl⟩
 rw [hpq]
 obtain ⟨wf1, wf2⟩ := walk_from (AtA i) HL.out q (by rw [HM.out]; have := HN.out; omega) none
 rw [hpq] at wf1 wf2
 rw [HM.out, ← HN.out] at wf2
 have hVs : Y.heap.size + 1 ≤ V.heap.size := by have := HVS.out; have := HS2.out; omega
 have hWY : W.heap.size + 2 ≤ Y.heap.size := by have := HSY.out; have := HSX.out; omega
 have hI : AtJ W.heap.size Y.heap.size i V1.heap.size (none, ⟨.slice none 0 0, 0, .slice none 0 0, 0, 0, 0, .slice none 0 0, [], [], []⟩) V1 := ⟨HCV.out.later bV1, HEV.out.later bV1, ownNil _ _, ownNil _ _, ownNil _ _, ⟨(fun x hx => by cases hx), (fun x hx => by cases hx), (fun x hx => by cases hx)⟩, ⟨by simp, by simp, by simp⟩, (fun kv h => by cases h), by have := bV1.size; omega, Nat.le_refl _, ⟨(fun k h => by cases h), (fun k h => by cases h), (fun k h => by cases h)⟩⟩
 have hgW : g < W.heap.size := (Array.getElem?_eq_some_iff.1 HK.out.box).1
 have hbW : b < W.heap.size := by
  have := rd_cell HK.out.pls 0 (by rw [(rd_lens HK.out.pls).1]; omega)
  exact World.block_lt_of_cell? W _ this.1
 have hng : ∀ k, k < W.heap.size → ¬ AtO Y.heap.size ((none : Option (List Nat × List Nat)), (⟨.slice none 0 0, 0, .slice none 0 0, 0, 0, 0, .slice none 0 0, [], [], []⟩ : EntD)) k := fun k hk h => by
  rcases h with h | h | h | h
  ·omega
  ·cases h
  ·cases h
  ·cases h
 have hWV1 : Below W.heap.size W V1 := hVW.trans (bV1.mono (by omega))
 have HWk := Lib.hid (walk_any (at2_asker (gi := W.heap.size) (ge := Y.heap.size) (i := i) (N := N) (B0 := V1.heap.size) (by omega) hN32) (st := (none, ⟨.slice none 0 0, 0, .slice none 0 0, 0, 0, 0, .slice none 0 0, [], [], []⟩)) m pq (by have := HK.out.box.later hWV1; rw [← HN.out] at this; exact this) (HK.out.ents.later hWV1) (Nat.le_refl _) hI (hng g hgW) (hng b hbW) (by have := hWV1.size; omega) (by have := hWV1.size; omega) (by have := HL.out.size; omega) hN32 (by omega) wf1)
 rw [wf2] at HWk
 obtain ⟨kv, hkv⟩ : ∃ kv, l[i]? = some kv := ⟨_, List.getElem?_eq_getElem (by rw [← HN.out]; exact hi)⟩
 have hans := ask_at i E.length r (l.drop m) (foldB r Bs.zero (l.take m)) kv (by rw [foldB_n]; simp [Bs.zero]; omega) (by rw [foldB_n, List.getElem?_drop]; simp only [Bs.zero, List.length_take]; rw [← hkv]; congr 1; have := HN.out; omega)
 obtain ⟨res, hres⟩ : ∃ res, askB (AtA i) E.length (itemsB r (foldB r Bs.zero (l.take m)) (l.drop m)) none = res := ⟨_, rfl⟩
 rw [hres] at HWk hans
 obtain ⟨pz, az, sz⟩ := res
 simp only at hans
 subst hans
 have HKV := Lib.hid hkv
 have HV1 := Lib.hid bV1
 have HWV1 := Lib.hid hWV1
 have HY := Lib.hid (And.intro hVs hWY)
 clear hb1 BD wf1 wf2 hI hng hWV1 hres hkv hpq hqP hPl hVW hgW hbW hVs hWY
 go_wp2_with fail
 refine hK.out _ _ (Fb.of_below bV1) (fun hHeld => ?_)
 clear hK
 try simp only [Act.put, List.setIfInBounds_toArray, List.set_cons_zero, List.set_cons_succ]
 refine wpAnyH_ready (rs := [11]) (by kernel_rfl) (by simp) ?_
 refine AllReadyH.cons (o := { dst := some 36, op := _, type := _, pos := _, after := _, guard := _ }) rfl (fun KK hK => ?_) AllReadyH.nil
 go_simp
 go_at_call 74
 refine HWk.out.mono ?_
 rintro e1 V2 ⟨rfl, e, hI2, f2, -⟩
 have hV2 : Fb V V2 (fun k => k = Y.heap.size) := (Fb.of_below HV1.out).trans (f2.mono (fun k _ h => by
  rcases h with h | h | h | h
  ·exact h
  ·cases h
  ·cases h
  ·cases h))
 have hW2 : Below W.heap.size W V2 := ⟨hV2.os.trans HWV.out.os, hV2.tape.trans HWV.out.tape, hV2.output.trans HWV.out.output, Nat.le_trans HWV.out.size hV2.size, fun k hk => (hV2.block k (Nat.lt_of_lt_of_le hk HWV.out.size) (by have := HY.out; omega)).trans (HWV.out.block k hk)⟩
 have hR2 : EBox V2 (W.heap.size + 1) ⟨.slice none 0 0, 0, .slice none 0 0, 0, 0, 0, .slice none 0 0, [], [], []⟩ := HRV.out.fb hV2 (by have := HY.out; omega)
 have HI2 := Lib.hid hI2
 have HW2 := Lib.hid hW2
 have HR2 := Lib.hid hR2
 clear hI2 f2 hW2 hR2 HWk
 go_wp2_with fail
 refine hK.out _ _ hV2 (fun hHeld => ?_)
 clear hK
 try simp only [Act.put, List.setIfInBounds_toArray, List.set_cons_zero, List.set_cons_succ]
 refine wpAnyH_done (by kernel_rfl) (NoPanic.normal ?_) _
 clear hHeld hV2
 go_simp
 go_step
 obtain ⟨e0, e1, e2, e3, e4, e5, e6⟩ := HI2.out.e.cells7
 obtain ⟨g0, g1, g2, g3, g4, g5, g6⟩ := HR2.out.cells7
 obtain ⟨gf0, gf1, gf2, gf3, gf4, gf5, gf6⟩ := EBox.fz7b HR2.out
 simp only at e0 e1 e2 e3 e4 e5 e6 g0 g1 g2 g3 g4 g5 g6
 obtain ⟨ve, fam, vq, ts, seq, kind, vv, row, qual, val⟩ := e
 have y1 := HI2.out.o1
 have y2 := HI2.out.o2
 have y3 := HI2.out.o3
 simp only at y1 y2 y3 e0 e1 e2 e3 e4 e5 e6
 obtain ⟨ar, cr, rfl⟩ := own_form y1.2
 obtain ⟨aq, cq, rfl⟩ := own_form y2.2
 obtain ⟨aw, cw, rfl⟩ := own_form y3.2
 obtain ⟨mr, hmr⟩ : ∃ mr, row.length = mr := ⟨_, rfl⟩
 obtain ⟨mq, hmq⟩ : ∃ mq, qual.length = mq := ⟨_, rfl⟩
 obtain ⟨mw, hmw⟩ : ∃ mw, val.length = mw := ⟨_, rfl⟩
 rw [hmr] at e0
 rw [hmq] at e2
 rw [hmw] at e6
 have bx := filled_box HR2.out (⟨.slice ar mr cr, fam, .slice aq mq cq, ts, seq, kind, .slice aw mw cw, row, qual, val⟩ : EntD)
 have ap := filled_apart V2 (W.heap.size + 1) (⟨.slice ar mr cr, fam, .slice aq mq cq, ts, seq, kind, .slice aw mw cw, row, qual, val⟩ : EntD)
 have hfin : AtQ W l (i : Int) (.returned (.tuple #[.agg #[.slice ar mr cr, .int .i64 fam, .slice aq mq cq, .int .i64 ts, .int .i64 seq, .int .i64 kind, .slice aw mw cw], .int .i64 0])) (filled V2 (W.heap.size + 1) (⟨.slice ar mr cr, fam, .slice aq mq cq, ts, seq, kind, .slice aw mw cw, row, qual, val⟩ : EntD)) := by
  have hok := HL.out.ok kv (List.mem_of_getElem? HKV.out)
  have hb := HI2.out.by_
  have hln := HI2.out.len
  have hap := HI2.out.ap
  simp only at hap
  rw [hmr, hmq, hmw] at hap
  obtain ⟨fk, fc⟩ := HI2.out.fact kv rfl
  simp only at hb hln fk fc
  rw [hmr] at y1 fk fc
  rw [hmq] at y2 fk fc
  rw [hmw] at y3 fk fc
  have hV1W : W.heap.size ≤ V1.heap.size := HWV1.out.size
  have z1 := (y1.mono hV1W).apartE HR2.out ap
  have z2 := (y2.mono hV1W).apartE HR2.out ap
  have z3 := (y3.mono hV1W).apartE HR2.out ap
  refine ⟨HW2.out.trans (ap.below (by omega) HW2.out.size), .inr ⟨by omega, kv, ⟨.slice ar mr cr, fam, .slice aq mq cq, ts, seq, kind, .slice aw mw cw, row, qual, val⟩, by rw [Int.toNat_natCast]; exact HKV.out, rfl, ⟨z1.rd hb.1 (by omega), z2.rd hb.2.1 (by omega), z3.rd hb.2.2 (by omega)⟩, fc.2 hok, (fk hok.1).1, (fk hok.1).2, ?_, ?_, ?_, hap⟩⟩
  ·simp only; rw [hmr]; exact z1
  ·simp only; rw [hmq]; exact z2
  ·simp only; rw [hmw]; exact z3
 have HFin := Lib.hid (And.intro bx hfin)
 simp only [filled] at HFin
 clear bx ap hfin y1 y2 y3 HI2 HR2 hmr hmq hmw
 go_wp2
 have HH := HFin.out
 clear HFin
 generalize (((((((V2.setCell ⟨W.heap.size + 1, 0, none⟩ (.slice ar mr cr)).setCell ⟨W.heap.size + 1, 1, none⟩ (.int .i64 fam)).setCell ⟨W.heap.size + 1, 2, none⟩ (.slice aq mq cq)).setCell ⟨W.heap.size + 1, 3, none⟩ (.int .i64 ts)).setCell ⟨W.heap.size + 1, 4, none⟩ (.int .i64 seq)).setCell ⟨W.heap.size + 1, 5, none⟩ (.int .i64 kind)).setCell ⟨W.heap.size + 1, 6, none⟩ (.slice aw mw cw)) = WZ at *
 obtain ⟨fb, hfin⟩ := HH
 obtain ⟨t0, t1, t2, t3, t4, t5, t6⟩ := fb.cells7
 simp only at t0 t1 t2 t3 t4 t5 t6
 (try simp only [Exit.inBlock, Exit.then])
 refine bodyPost_ret (v := .tuple #[.agg #[.slice ar mr cr, .int .i64 fam, .slice aq mq cq, .int .i64 ts, .int .i64 seq, .int .i64 kind, .slice aw mw cw], .int .i64 0]) ?hres rfl ?_
 case hres => simp [results, Tryz.results34, go_sem, t0, t1, t2, t3, t4, t5, t6]
 exact hfin
theorem atB_ap {W : World} {g r b ne ce np cp B : Nat} {E P : List Nat} {l : List (List Nat × List Nat)} (hL : Blad r l E P) (hk : Lk W B g r l.length b ne ce E P np cp) (i : Int) :
  Calls Tryz.prog 34 #[.pointer (some ⟨g, 0, none⟩), .int .i64 i] W fun x w' => AtQ W l i x w' := by
 by_cases h : 0 ≤ i ∧ i < l.length
 ·obtain ⟨k, rfl⟩ : ∃ k : Nat, i = (k : Int) := ⟨i.toNat, by omega⟩
  exact at_in2 hL hk k (by omega)
 ·refine (at_out (n := 0) hL hk i h).mono ?_
  rintro x w' ⟨h1, h2 | ⟨h2, kv, e, h3, -⟩⟩
  ·exact ⟨h1, .inl h2⟩
  ·have := (List.getElem?_eq_some_iff.1 h3).1
   omega
theorem atB_any2 {W : World} {g r b ne ce np cp B : Nat} {E P : List Nat} {l : List (List Nat × List Nat)} (hL : Blad r l E P) (hk : Lk W B g r l.length b ne ce E P np cp) (i : Int) :
  Calls Tryz.prog 34 #[.pointer (some ⟨g, 0, none⟩), .int .i64 i] W fun x w' => AtP W l i x w' := by
 refine (atB_ap hL hk i).mono ?_
 rintro x w' ⟨h1, h2 | ⟨h2, kv, e, h3, h4, h5, h6, h7, h8, h9, ha, hb, -⟩⟩
 ·exact ⟨h1, .inl h2⟩
 ·exact ⟨h1, .inr ⟨h2, kv, e, h3, h4, h5, h6, h7, h8, h9, ha, hb⟩⟩
end Go.Proofs.YtchebhafabhabaaGreatDoor
