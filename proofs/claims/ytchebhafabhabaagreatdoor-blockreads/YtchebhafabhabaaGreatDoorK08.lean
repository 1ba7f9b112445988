import Derived.Test.YtchebhafabhabaaGreatDoorK07
namespace Go.Proofs.YtchebhafabhabaaGreatDoor
open Go.RowKit
set_option linter.unusedVariables false

def okIt (key val : List Nat) : Prop := IsKey key ∧ val.length ≤ 4096 ∧ (val.length = 0 ∨ key.getLast? = some 1)
theorem keyL_last (e : EntD) : (keyL e).getLast? = some e.kind.toNat := by unfold keyL; rw [List.getLast?_append]; rfl
theorem check_val {D : EntD} (h : checkS D = 0) (hv : D.val = []) (V : List Nat) (a b c : Value) : checkS ⟨a, D.fam, b, D.ts, D.seq, D.kind, c, D.row, D.qual, V⟩ = 0 ↔ V.length ≤ 4096 ∧ (V.length = 0 ∨ D.kind = 1) := by
 unfold checkS at *
 simp only at *
 split at h
 ·cases h
 ·split at h
  ·cases h
  ·split at h
   ·cases h
   ·split at h
    ·cases h
    ·split at h
     ·cases h
     ·split at h
      ·cases h
      ·rename_i h1 h2 h3 h4 h5 h6
       rw [if_neg h1, if_neg h2, if_neg h3, if_neg h4, if_neg h5, if_neg h6]
       split
       ·rename_i h7
        constructor
        ·intro k; cases k
        ·intro k
         omega
       ·rename_i h7
        constructor
        ·intro _
         omega
        ·intro _; rfl
theorem ok_iff {D : EntD} (h : checkS D = 0) (hv : D.val = []) (V : List Nat) (a b c : Value) : checkS ⟨a, D.fam, b, D.ts, D.seq, D.kind, c, D.row, D.qual, V⟩ = 0 ↔ okIt (keyL D) V := by
 rw [check_val h hv]
 unfold okIt
 rw [keyL_last]
 obtain ⟨_, f, _, _, t, s, k, _⟩ := check_facts h
 constructor
 ·rintro ⟨h1, h2⟩
  refine ⟨⟨D, h, hv, rfl⟩, h1, h2.imp id (fun z => by rw [z]; rfl)⟩
 ·rintro ⟨_, h1, h2⟩
  refine ⟨h1, h2.imp id (fun z => ?_)⟩
  have : D.kind.toNat = 1 := Option.some.inj z
  omega
def EnP (w : World) (key val : List Nat) (x : Ending) (w' : World) : Prop := ∃ e : EntD, x = .returned (.agg e.cells) ∧ EntD.Ok w' e ∧ (checkS e = 0 ↔ okIt key val) ∧ (IsKey key → keyL e = key ∧ e.val = val) ∧ Below w.heap.size w w' ∧ (Own w' w.heap.size e.vr e.row.length e.row ∧ Own w' w.heap.size e.vq e.qual.length e.qual ∧ Own w' w.heap.size e.vv e.val.length e.val)
def IBox (w : World) (g : Nat) (n p s : Int) (vk vv : Value) : Prop := w.heap[g]? = some (.cells #[.int .i64 n, .int .i64 p, .int .i64 s, vk, vv] 116 (0, 0))
theorem IBox.cells {w : World} {g : Nat} {n p s : Int} {vk vv : Value} (h : IBox w g n p s vk vv) : w.cell? ⟨g, 0, none⟩ = some (.int .i64 n) ∧ w.cell? ⟨g, 1, none⟩ = some (.int .i64 p) ∧ w.cell? ⟨g, 2, none⟩ = some (.int .i64 s) ∧ w.cell? ⟨g, 3, none⟩ = some vk ∧ w.cell? ⟨g, 4, none⟩ = some vv := by
 unfold IBox at h
 simp [World.cell?, h]
theorem IBox.later {w w' : World} {g : Nat} {n p s : Int} {vk vv : Value} (h : IBox w g n p s vk vv) (hb : Below w.heap.size w w') : IBox w' g n p s vk vv := by
 unfold IBox at *
 rw [hb.block g (Array.getElem?_eq_some_iff.1 h).1]
 exact h
theorem EBox.fz7b {w : World} {g : Nat} {e : EntD} (h : EBox w g e) : w.frozen? ⟨g, 0, none⟩ = false ∧ w.frozen? ⟨g, 1, none⟩ = false ∧ w.frozen? ⟨g, 2, none⟩ = false ∧ w.frozen? ⟨g, 3, none⟩ = false ∧ w.frozen? ⟨g, 4, none⟩ = false ∧ w.frozen? ⟨g, 5, none⟩ = false ∧ w.frozen? ⟨g, 6, none⟩ = false := ⟨h.fz 0, h.fz 1, h.fz 2, h.fz 3, h.fz 4, h.fz 5, h.fz 6⟩
set_option maxRecDepth 100000 in
set_option maxHeartbeats 4000000 in
theorem entry_any {w : World} {ak av : Option Addr} {kn kc vn vc : Nat} {K V : List Nat} (n p s : Int) (hk : Rd w (.slice ak kn kc) K) (hv : Rd w (.slice av vn vc) V) (hkl : kn ≤ 131072) (hvl : vn ≤ 131072) :
  Calls Tryz.prog 76 #[.agg #[.int .i64 n, .int .i64 p, .int .i64 s, .slice ak kn kc, .slice av vn vc]] w fun x w' => EnP w K V x w' := by
 have A1 := (Below.refl w.heap.size w).alloc (Nat.le_refl _) (.cells #[.int .i64 n, .int .i64 p, .int .i64 s, .slice ak kn kc, .slice av vn vc] 116)
 have A2 := A1.alloc A1.size (.cells #[.slice none 0 0, .int .i64 0, .slice none 0 0, .int .i64 0, .int .i64 0, .int .i64 0, .slice none 0 0] 40)
 have ib : IBox (w.alloc (.cells #[.int .i64 n, .int .i64 p, .int .i64 s, .slice ak kn kc, .slice av vn vc] 116)) w.heap.size n p s (.slice ak kn kc) (.slice av vn vc) := heap_alloc_new w _
 have ib2 := ib.later ((Below.refl _ _).alloc (Nat.le_refl _) (.cells #[.slice none 0 0, .int .i64 0, .slice none 0 0, .int .i64 0, .int .i64 0, .int .i64 0, .slice none 0 0] 40))
 obtain ⟨X, hX⟩ : ∃ X, X = (w.alloc (.cells #[.int .i64 n, .int .i64 p, .int .i64 s, .slice ak kn kc, .slice av vn vc] 116)).alloc (.cells #[.slice none 0 0, .int .i64 0, .slice none 0 0, .int .i64 0, .int .i64 0, .int .i64 0, .slice none 0 0] 40) := ⟨_, rfl⟩
 have hXs : X.heap.size = w.heap.size + 2 := by rw [hX]; simp
 have zb : EBox X (w.heap.size + 1) ⟨.slice none 0 0, 0, .slice none 0 0, 0, 0, 0, .slice none 0 0, [], [], []⟩ := by
  unfold EBox EntD.cells
  rw [hX]
  have := heap_alloc_new (w.alloc (.cells #[.int .i64 n, .int .i64 p, .int .i64 s, .slice ak kn kc, .slice av vn vc] 116)) (.cells #[.slice none 0 0, .int .i64 0, .slice none 0 0, .int .i64 0, .int .i64 0, .int .i64 0, .slice none 0 0] 40)
  simpa using this
 rw [← hX] at A2 ib2
 have HPk := Lib.hid (parse_any (hk.later A2) (by have := (rd_lens hk).1; omega))
 have HX := Lib.hid hX
 have HA2 := Lib.hid A2
 have HIb := Lib.hid ib2
 have HZb := Lib.hid zb
 have HXs := Lib.hid hXs
 have HV := Lib.hid (hv.later A2)
 obtain ⟨c0, c1, c2, c3, c4⟩ := ib2.cells
 have HkL := Lib.hid (rd_lens hk).1
 have HvL := Lib.hid (rd_lens hv).1
 clear A1 A2 ib ib2 hX zb hXs hk hv
 go_enter Tryz.func76, Tryz.ntmps76
 go_upto_region 1 with fail
 rw [← HX.out]
 clear HX
 go_wp2_with fail
 refine Calls.mono HPk.out ?_
 rintro z X1 ⟨b1, hz⟩
 obtain ⟨ar, mr, cr, aq, mq, cq, fam, ts, sq, kd, row, qual, en, rfl, ⟨own1, own2, hsm⟩, fin⟩ : ∃ (ar : Option Addr) (mr cr : Nat) (aq : Option Addr) (mq cq : Nat) (fam ts sq kd : Int) (row qual : List Nat) (en : Int), z = .returned (.tuple #[.agg #[.slice ar mr cr, .int .i64 fam, .slice aq mq cq, .int .i64 ts, .int .i64 sq, .int .i64 kd, .slice none 0 0], .int .i64 en]) ∧ (Own X1 w.heap.size (.slice ar mr cr) row.length row ∧ Own X1 w.heap.size (.slice aq mq cq) qual.length qual ∧ Bys row ∧ Bys qual ∧ row.length ≤ 256 ∧ qual.length ≤ 256) ∧ Hid (∀ vv, (checkS ⟨.slice ar mr cr, fam, .slice aq mq cq, ts, sq, kd, vv, row, qual, V⟩ = 0 ↔ okIt K V) ∧ (IsKey K → keyL ⟨.slice ar mr cr, fam, .slice aq mq cq, ts, sq, kd, vv, row, qual, V⟩ = K)) := by
  rcases hz with h | h
  ·obtain ⟨D, hD0, hDv, hDk, hDr, hDq, hDvv, rfl, own1, BB, hBB, own2, hlo⟩ := h
   obtain ⟨q1, _, q2, _⟩ := check_facts hD0
   have rd1 := own1.rd hDr (by omega)
   have rd2 := own2.rd hDq (by omega)
   obtain ⟨ar, mr, cr, h1⟩ := rd_slice rd1
   obtain ⟨aq, mq, cq, h2⟩ := rd_slice rd2
   rw [h1] at own1
   rw [h2] at own2
   refine ⟨ar, mr, cr, aq, mq, cq, D.fam, D.ts, D.seq, D.kind, D.row, D.qual, 0, ?_, ⟨own1.mono (by have := HXs.out; omega), own2.mono (by have := HXs.out; omega), hDr, hDq, q1.2, q2⟩, fun vv => ⟨?_, fun _ => ?_⟩⟩
   ·unfold EntD.cells
    rw [h1, h2, hDvv]
   ·rw [ok_iff hD0 hDv, hDk]
   ·rw [← hDk]; rfl
  ·obtain ⟨hno, rfl⟩ := h
   refine ⟨none, 0, 0, none, 0, 0, 0, 0, 0, 0, [], [], 27, rfl, ⟨⟨rfl, World.ownsRow_nil _ _ _ _⟩, ⟨rfl, World.ownsRow_nil _ _ _ _⟩, (by intro x hx; cases hx), (by intro x hx; cases hx), Nat.zero_le _, Nat.zero_le _⟩, fun vv => ⟨⟨fun h => ?_, fun h => absurd h.1 hno⟩, fun h => absurd h hno⟩⟩
   unfold checkS at h
   simp at h
 have X2b := EBox.new X1 ⟨.slice ar mr cr, fam, .slice aq mq cq, ts, sq, kd, .slice none 0 0, row, qual, []⟩
 have B2 : Below X1.heap.size X1 _ := (Below.refl X1.heap.size X1).alloc (Nat.le_refl _) (.cells #[.slice ar mr cr, .int .i64 fam, .slice aq mq cq, .int .i64 ts, .int .i64 sq, .int .i64 kd, .slice none 0 0] 40)
 have S2 : (X1.alloc (.cells #[.slice ar mr cr, .int .i64 fam, .slice aq mq cq, .int .i64 ts, .int .i64 sq, .int .i64 kd, .slice none 0 0] 40)).heap.size = X1.heap.size + 1 := by simp
 unfold EntD.cells at X2b
 simp only at X2b
 obtain ⟨X2, hX2⟩ : ∃ X2, X2 = X1.alloc (.cells #[.slice ar mr cr, .int .i64 fam, .slice aq mq cq, .int .i64 ts, .int .i64 sq, .int .i64 kd, .slice none 0 0] 40) := ⟨_, rfl⟩
 rw [← hX2] at X2b B2 S2
 have b2 : Below X.heap.size X X2 := b1.trans (B2.mono b1.size)
 have HX2 := Lib.hid hX2
 have HE2 := Lib.hid X2b
 have HR := Lib.hid (And.intro (own1.later B2) (And.intro (own2.later B2) hsm))
 have HI2 := Lib.hid (HIb.out.later b2)
 have HZ2 := Lib.hid (HZb.out.later b2)
 have HA3 := Lib.hid (HA2.out.trans (b2.mono HA2.out.size))
 have HS2 := Lib.hid (show X1.heap.size < X2.heap.size ∧ w.heap.size + 2 ≤ X1.heap.size from ⟨by omega, by have := b1.size; have := HXs.out; omega⟩)
 have HV2 := Lib.hid (HV.out.later b2)
 have HC := Lib.hid (handed (clone_any HV2.out (by have := HvL.out; omega)))
 obtain ⟨e0, e1, e2, e3, e4⟩ := HI2.out.cells
 clear c0 c1 c2 c3 c4 own1 own2 hsm B2 S2 X2b hX2 b1 b2 HPk HIb HZb HV hz
 go_upto_region 2 with fail
 rw [← HX2.out]
 clear HX2
 go_wp2_with fail
 refine Calls.mono HC.out ?_
 rintro z X3 ⟨a3, m3, c3, rfl, own3, b3⟩
 have HV3 : Hid (Bys V ∧ m3 = V.length) := ⟨HV2.out.1, own3.1⟩
 have n1 : ¬ (X1.heap.size = w.heap.size + 1) := by have := HS2.out; omega
 have n2 : ¬ (w.heap.size + 1 = X1.heap.size) := by have := HS2.out; omega
 have be := HE2.out.later b3
 have bg := HZ2.out.later b3
 have A4 := HA3.out.trans (b3.mono HA3.out.size)
 have ap1 := apart_set X3 X1.heap.size 6 (.slice a3 m3 c3)
 have be2 := be.set6 (.slice a3 m3 c3) V
 have bg2 := bg.apart ap1 n2
 have fa := filled_apart (X3.setCell ⟨X1.heap.size, 6, none⟩ (.slice a3 m3 c3)) (w.heap.size + 1) ⟨.slice ar mr cr, fam, .slice aq mq cq, ts, sq, kd, .slice a3 m3 c3, row, qual, V⟩
 have fb := filled_box bg2 ⟨.slice ar mr cr, fam, .slice aq mq cq, ts, sq, kd, .slice a3 m3 c3, row, qual, V⟩
 have A5 := A4.trans (ap1.below (by have := HS2.out; omega) A4.size)
 have bw := A5.trans (fa.below (by omega) A5.size)
 have y1 := ((HR.out.1.later b3).apartE be ap1).apartE bg2 fa
 have y2 := ((HR.out.2.1.later b3).apartE be ap1).apartE bg2 fa
 have y3 := (own3.apartE be ap1).apartE bg2 fa
 have HDN : Hid (_ ∧ _ ∧ _ ∧ _ ∧ _) := ⟨fb, bw, y1, y2, y3⟩
 clear fa fb bw y1 y2 y3 ap1 be2 bg2 A4 A5 own3 b3
 simp only [filled] at HDN
 obtain ⟨g0, g1, g2, g3, g4, g5, g6⟩ := bg.cells7
 obtain ⟨gf0, gf1, gf2, gf3, gf4, gf5, gf6⟩ := EBox.fz7b bg
 simp only at g0 g1 g2 g3 g4 g5 g6
 obtain ⟨h0, h1, h2, h3, h4, h5, h6⟩ := be.cells7
 obtain ⟨ef0, ef1, ef2, ef3, ef4, ef5, ef6⟩ := EBox.fz7b be
 simp only at h0 h1 h2 h3 h4 h5 h6
 clear e0 e1 e2 e3 e4 be bg
 have HSM := Lib.hid HR.out.2.2
 clear HR HE2 HI2 HZ2 HA3 HV2 HC
 go_wp2
 have HH := HDN.out
 clear HDN
 generalize ((((((((X3.setCell ⟨X1.heap.size, 6, none⟩ (.slice a3 m3 c3)).setCell ⟨w.heap.size + 1, 0, none⟩ (.slice ar mr cr)).setCell ⟨w.heap.size + 1, 1, none⟩ (.int .i64 fam)).setCell ⟨w.heap.size + 1, 2, none⟩ (.slice aq mq cq)).setCell ⟨w.heap.size + 1, 3, none⟩ (.int .i64 ts)).setCell ⟨w.heap.size + 1, 4, none⟩ (.int .i64 sq)).setCell ⟨w.heap.size + 1, 5, none⟩ (.int .i64 kd)).setCell ⟨w.heap.size + 1, 6, none⟩ (.slice a3 m3 c3)) = WZ at *
 obtain ⟨fb, bw, y1, y2, y3⟩ := HH
 obtain ⟨t0, t1, t2, t3, t4, t5, t6⟩ := fb.cells7
 simp only at t0 t1 t2 t3 t4 t5 t6
 (try simp only [Exit.inBlock, Exit.then])
 refine bodyPost_ret (v := .agg #[.slice ar mr cr, .int .i64 fam, .slice aq mq cq, .int .i64 ts, .int .i64 sq, .int .i64 kd, .slice a3 m3 c3]) ?hres rfl ?_
 case hres => simp [results, Tryz.results76, go_sem, t0, t1, t2, t3, t4, t5, t6]
 obtain ⟨k1, k2, k3, k4⟩ := HSM.out
 have hm3 := HV3.out.2
 have hvv := HvL.out
 exact ⟨⟨.slice ar mr cr, fam, .slice aq mq cq, ts, sq, kd, .slice a3 m3 c3, row, qual, V⟩, rfl, ⟨y1.rd k1 (by omega), y2.rd k2 (by omega), y3.rd HV3.out.1 (by omega)⟩, (fin.out _).1, fun h => ⟨(fin.out _).2 h, rfl⟩, bw, y1, y2, by have := y3.mono (B' := w.heap.size) (by have := HS2.out; omega); rw [HV3.out.2] at this; rw [HV3.out.2]; exact this⟩
end Go.Proofs.YtchebhafabhabaaGreatDoor

namespace Go.Proofs.YtchebhafabhabaaGreatDoor
open Go.RowKit
set_option linter.unusedVariables false

def wordAt (P : List Nat) (i : Nat) : Nat := rdle (P.getD (i * 4 + 3) 0) (P.getD (i * 4 + 2) 0) (P.getD (i * 4 + 1) 0) (P.getD (i * 4) 0)
theorem wordAt_drop (P : List Nat) (i : Nat) : rdle ((P.drop (i * 4)).getD 3 0) ((P.drop (i * 4)).getD 2 0) ((P.drop (i * 4)).getD 1 0) ((P.drop (i * 4)).getD 0 0) = wordAt P i := by
 unfold wordAt
 simp [List.getD_eq_getElem?_getD, List.getElem?_drop]
set_option maxRecDepth 100000 in
set_option maxHeartbeats 1000000 in
theorem place_any {W : World} {g : Nat} {r n : Int} {ve : Value} {b off np cp : Nat} {P : List Nat} (hbx : LBox W g r n ve (.slice (some ⟨b, off, none⟩) np cp)) (hP : Rd W (.slice (some ⟨b, off, none⟩) np cp) P) (i : Nat) (hi : i * 4 + 4 ≤ P.length) (hl : P.length ≤ 131072) :
  Calls Tryz.prog 70 #[.pointer (some ⟨g, 0, none⟩), .int .i64 (i : Int)] W fun e w' => e = .returned (.int .i64 ((wordAt P i : Nat) : Int)) ∧ Below W.heap.size W w' := by
 obtain ⟨hn, hle, hm, hl48⟩ := rd_lens hP
 obtain ⟨c0, c1, c2, c3⟩ := hbx.cells
 have hk : i * 4 + 4 ≤ np := by omega
 have hnp : np ≤ 131072 := by omega
 have HP : Hid (Rd W (.slice (some ⟨b, off + i * 4, none⟩) (np - i * 4) (cp - i * 4)) (P.drop (i * 4))) := by
  have := hP.sub (i * 4) np (by omega) (Nat.le_refl _) rfl rfl rfl
  rwa [hn, List.take_length, ← hn] at this
 have HN := Lib.hid (And.intro hn hi)
 clear hn hi hl hbx hP
 have HC := Lib.hid (readWord_any HP.out (by rw [List.length_drop]; have := HN.out; omega))
 rw [wordAt_drop] at HC
 generalize wordAt P i = wd at *
 go_enter Tryz.func70, Tryz.ntmps70
 go_wp2_with fail
 refine Calls.mono HC.out ?_
 rintro z X ⟨rfl, hb⟩
 go_wp2
 go_ret
 exact ⟨rfl, hb⟩
def fitP (r : Nat) (P last : List Nat) (it : It) : Prop := ordC last it.key < 0 ∧ okIt it.key it.val ∧ (it.number % r = 0 → it.shared = 0 ∧ it.place = wordAt P (it.number / r)) ∧ (it.number % r ≠ 0 → it.shared = comL last it.key)
open Classical in
noncomputable def fitB (r : Nat) (P last : List Nat) (it : It) : Bool := decide (fitP r P last it)
theorem wrap_small {q : Nat} (hq : q < 9223372036854775808) : IntKind.i64.wrap ((q : Nat) : Int) = (q : Int) := by
 simp only [IntKind.wrap, IntKind.bits, IntKind.signed]
 simp
 omega
theorem IBox.new (w : World) (n p s : Int) (vk vv : Value) : IBox (w.alloc (.cells #[.int .i64 n, .int .i64 p, .int .i64 s, vk, vv] 116)) w.heap.size n p s vk vv := heap_alloc_new w _
theorem LBox.later {w w' : World} {g : Nat} {r n : Int} {ve vp : Value} (h : LBox w g r n ve vp) (hb : Below w.heap.size w w') : LBox w' g r n ve vp := by
 unfold LBox at *
 rw [hb.block g (Array.getElem?_eq_some_iff.1 h).1]
 exact h
set_option maxRecDepth 100000 in
set_option maxHeartbeats 4000000 in
theorem fits_any {w : World} {g r : Nat} {n : Int} {ve : Value} {b off np cp : Nat} {P K V L : List Nat} (nu pl sh : Nat) {ak av al : Option Addr} {kn kc vn vc nl cl : Nat}
  (hbx : LBox w g (r : Int) n ve (.slice (some ⟨b, off, none⟩) np cp)) (hP : Rd w (.slice (some ⟨b, off, none⟩) np cp) P) (hk : Rd w (.slice ak kn kc) K) (hv : Rd w (.slice av vn vc) V) (hl : Rd w (.slice al nl cl) L)
  (hkl : kn ≤ 131072) (hvl : vn ≤ 131072) (hr : 1 ≤ r ∧ r ≤ 16) (hnu : nu < 4294967296) (hpl : nu / r * 4 + 4 ≤ P.length) (hP17 : P.length ≤ 131072) :
  Calls Tryz.prog 96 #[.pointer (some ⟨g, 0, none⟩), .agg #[.int .i64 (nu : Int), .int .i64 (pl : Int), .int .i64 (sh : Int), .slice ak kn kc, .slice av vn vc], .slice al nl cl] w fun e w' => e = .returned (.bool (fitB r P L ⟨nu, pl, sh, K, V⟩)) ∧ Below w.heap.size w w' := by
 obtain ⟨FB, hFB⟩ : ∃ FB, FB = fitB r P L ⟨nu, pl, sh, K, V⟩ := ⟨_, rfl⟩
 rw [← hFB]
 have A1 := (Below.refl w.heap.size w).alloc (Nat.le_refl _) (.cells #[.int .i64 nu, .int .i64 pl, .int .i64 sh, .slice ak kn kc, .slice av vn vc] 116)
 have ib := IBox.new w nu pl sh (.slice ak kn kc) (.slice av vn vc)
 obtain ⟨X, hX⟩ : ∃ X, X = w.alloc (.cells #[.int .i64 nu, .int .i64 pl, .int .i64 sh, .slice ak kn kc, .slice av vn vc] 116) := ⟨_, rfl⟩
 rw [← hX] at A1 ib
 have HX := Lib.hid hX
 obtain ⟨o, ho⟩ : ∃ o, o = ordC L K := ⟨_, rfl⟩
 have HO := Lib.hid ho
 have HCmp := Lib.hid (bytesCompare_any (hl.later A1) (hk.later A1))
 rw [← ho] at HCmp
 have HEn := Lib.hid (entry_any (nu : Int) (pl : Int) (sh : Int) (hk.later A1) (hv.later A1) hkl hvl)
 have HLb := Lib.hid (hbx.later A1)
 have HP := Lib.hid (hP.later A1)
 have HK := Lib.hid (hk.later A1)
 have HL := Lib.hid (hl.later A1)
 have HA1 := Lib.hid A1
 have HIb := Lib.hid ib
 have HFB := Lib.hid hFB
 have HPl := Lib.hid (And.intro hpl hP17)
 obtain ⟨c0, c1, c2, c3, c4⟩ := ib.cells
 clear A1 hX ho hFB hbx hP hk hv hl hpl hP17 ib
 go_enter Tryz.func96, Tryz.ntmps96
 go_upto_region 1 with fail
 rw [← HX.out]
 clear HX
 go_wp2_with fail
 refine Calls.mono HCmp.out ?_
 rintro z X0 ⟨rfl, rfl⟩
 by_cases ho0 : 0 ≤ o
 ·go_wp2
  go_ret
  refine ⟨?_, HA1.out⟩
  rw [HFB.out]
  have : ¬ fitP r P L ⟨nu, pl, sh, K, V⟩ := fun h => by have := h.1; simp only at this; rw [← HO.out] at this; omega
  simp [fitB, this]
 go_wp2_with fail
 refine Calls.mono HEn.out ?_
 rintro z X1 ⟨e, rfl, hok, hchk, -, b1, -⟩
 have HCk := Lib.hid (check_any hok)
 obtain ⟨cs, hcs⟩ : ∃ cs, cs = checkS e := ⟨_, rfl⟩
 rw [← hcs] at HCk hchk
 have HChk := Lib.hid hchk
 have HB1 := Lib.hid b1
 clear hok hchk b1 hcs
 go_wp2_with fail
 refine Calls.mono HCk.out ?_
 rintro z X2 ⟨rfl, b2⟩
 have HB2 := Lib.hid (HB1.out.trans (b2.mono HB1.out.size))
 clear b2 HB1 HCk
 by_cases hc0 : cs = 0
 rotate_left
 ·have hc1 : ¬ ((cs : Int) = 0) := by omega
  have hc2 : ((cs : Int) != 0) = true := bne_iff_ne.2 hc1
  have hci : (decide (0 ≤ o) || ((cs : Int) != 0)) = true := by rw [hc2, Bool.or_true]
  go_wp2
  go_ret
  refine ⟨?_, HA1.out.trans (HB2.out.mono HA1.out.size)⟩
  rw [HFB.out]
  have : ¬ fitP r P L ⟨nu, pl, sh, K, V⟩ := fun h => hc0 (HChk.out.2 h.2.1)
  simp [fitB, this]
 subst hc0
 have HOk : Hid (okIt K V) := HChk.out.1 rfl
 have HIb2 := Lib.hid (HIb.out.later HB2.out)
 have HLb2 := Lib.hid (HLb.out.later HB2.out)
 have HP2 := Lib.hid (HP.out.later HB2.out)
 have HK2 := Lib.hid (HK.out.later HB2.out)
 have HL2 := Lib.hid (HL.out.later HB2.out)
 have HA2 := Lib.hid (HA1.out.trans (HB2.out.mono HA1.out.size))
 clear HIb HLb HP HK HL HA1 HB2 HChk HEn HCmp c0 c1 c2 c3 c4
 obtain ⟨Z, hZ⟩ : ∃ Z : Bool, Z = decide (nu % r = 0) := ⟨_, rfl⟩
 have HZ := Lib.hid hZ
 clear hZ
 have r1 : (1 : Int) ≤ (r : Int) := by omega
 have nu0 : (0 : Int) ≤ (nu : Int) := by omega
 go_upto_region 3 with fail
 go_cut [25] (fun b wx => b = .bool Z ∧ Hid (Below X2.heap.size X2 wx))
 case first =>
  obtain ⟨c0, c1, c2, c3, c4⟩ := HIb2.out.cells
  obtain ⟨d0, d1, d2, d3⟩ := HLb2.out.cells
  by_cases hz : nu % r = 0
  ·have hz2 : (((nu : Int) % (r : Int)) == 0) = true := by rw [beq_iff_eq]; omega
   have hZt : Z = true := by rw [HZ.out]; simp [hz]
   go_quiet (fail)
   go_wp2_with fail
   go_meet
   exact ⟨by rw [hZt], below_drewN (Below.refl _ _) _⟩
  ·have hz2 : (((nu : Int) % (r : Int)) == 0) = false := by rw [beq_eq_false_iff_ne]; omega
   have hZt : Z = false := by rw [HZ.out]; simp [hz]
   go_quiet (fail)
   go_wp2_with fail
   go_meet
   exact ⟨by rw [hZt], below_drewN (Below.refl _ _) _⟩
 case rest =>
 obtain ⟨rfl, HX3⟩ := hcut
 rename World => X3
 have HIb3 := Lib.hid (HIb2.out.later HX3.out)
 have HLb3 := Lib.hid (HLb2.out.later HX3.out)
 have HP3 := Lib.hid (HP2.out.later HX3.out)
 have HK3 := Lib.hid (HK2.out.later HX3.out)
 have HL3 := Lib.hid (HL2.out.later HX3.out)
 have HA3 := Lib.hid (HA2.out.trans (HX3.out.mono HA2.out.size))
 clear HIb2 HLb2 HP2 HK2 HL2 HA2 HX3
 have BD : Below X3.heap.size X3 X3.drew := (Below.refl _ _).drew
 cases Z with
 | true =>
  have hz : nu % r = 0 := by have := HZ.out; simpa using this.symm
  by_cases hs : sh = 0
  rotate_left
  ·have hsi : ((sh : Int) == 0) = false := by rw [beq_eq_false_iff_ne]; omega
   obtain ⟨c0, c1, c2, c3, c4⟩ := HIb3.out.cells
   obtain ⟨d0, d1, d2, d3⟩ := HLb3.out.cells
   go_wp2_with fail
   go_quiet (fail)
   go_wp2
   go_ret
   refine ⟨?_, below_drewN HA3.out _⟩
   rw [HFB.out]
   have : ¬ fitP r P L ⟨nu, pl, sh, K, V⟩ := fun h => hs (h.2.2.1 hz).1
   simp [fitB, this]
  subst hs
  have HPc := Lib.hid (fun wx (h : Below X3.heap.size X3 wx) => place_any (HLb3.out.later h) (HP3.out.later h) (nu / r) HPl.out.1 HPl.out.2)
  obtain ⟨wd, hwd⟩ : ∃ wd, wd = wordAt P (nu / r) := ⟨_, rfl⟩
  rw [← hwd] at HPc
  obtain ⟨Y, hY⟩ : ∃ Y : Bool, Y = ((pl : Int) == (wd : Int)) := ⟨_, rfl⟩
  have HQ : Hid (IntKind.i64.wrap ((nu : Int) / (r : Int)) = (nu : Int) / (r : Int)) := by
   have h1 : (nu : Int) / (r : Int) = ((nu / r : Nat) : Int) := by simp
   have h2 : nu / r ≤ nu := Nat.div_le_self _ _
   unfold Hid
   rw [h1]
   exact wrap_small (by omega)
  have HY := Lib.hid hY
  have HWd := Lib.hid hwd
  clear hwd hY
  go_upto_region 4 with fail
  refine wp_region_noPanic ?_
  refine wp_region_held_drew (S := fun wx => Below X3.heap.size X3 wx) (by kernel_rfl) BD (fun hHeld => ?_)
  refine wpAnyH_take (i := 0) (oi := { dst := some 26, op := _, type := _, pos := _, after := _, guard := _ }) (v := .pointer (some ⟨w.heap.size, 2, none⟩)) rfl (by kernel_rfl) (by kernel_rfl) (by kernel_rfl) (fun _ _ _ h => h) (Or.inl ⟨by kernel_rfl, fun wy hy => by (go_simp; done)⟩) (by assumption) ?_
  try simp only [Act.put, List.setIfInBounds_toArray, List.set_cons_zero, List.set_cons_succ]
  refine wpAnyH_take (i := 1) (oi := { dst := some 27, op := _, type := _, pos := _, after := _, guard := _ }) (v := .int .i64 0) rfl (by kernel_rfl) (by kernel_rfl) (by kernel_rfl) (fun _ _ _ h => h) (Or.inl ⟨by kernel_rfl, fun wy hy => by (obtain ⟨q0, q1, q2, q3, q4⟩ := (HIb3.out.later hy).cells; go_simp; done)⟩) (by assumption) ?_
  try simp only [Act.put, List.setIfInBounds_toArray, List.set_cons_zero, List.set_cons_succ]
  refine wpAnyH_take (i := 2) (oi := { dst := some 28, op := _, type := _, pos := _, after := _, guard := _ }) (v := .bool true) rfl (by kernel_rfl) (by kernel_rfl) (by kernel_rfl) (fun _ _ _ h => h) (Or.inl ⟨by kernel_rfl, fun wy hy => by (go_simp; done)⟩) (by assumption) ?_
  try simp only [Act.put, List.setIfInBounds_toArray, List.set_cons_zero, List.set_cons_succ]
  refine wpAnyH_take (i := 3) (oi := { dst := some 29, op := _, type := _, pos := _, after := _, guard := _ }) (v := .bool true) rfl (by kernel_rfl) (by kernel_rfl) (by kernel_rfl) (fun _ _ _ h => h) (Or.inl ⟨by kernel_rfl, fun wy hy => by (go_simp; done)⟩) (by assumption) ?_
  try simp only [Act.put, List.setIfInBounds_toArray, List.set_cons_zero, List.set_cons_succ]
  refine wpAnyH_take (i := 4) (oi := { dst := some 30, op := _, type := _, pos := _, after := _, guard := _ }) (v := .pointer (some ⟨w.heap.size, 1, none⟩)) rfl (by kernel_rfl) (by kernel_rfl) (by kernel_rfl) (fun _ _ _ h => h) (Or.inl ⟨by kernel_rfl, fun wy hy => by (go_simp; done)⟩) (by assumption) ?_
  try simp only [Act.put, List.setIfInBounds_toArray, List.set_cons_zero, List.set_cons_succ]
  refine wpAnyH_take (i := 5) (oi := { dst := some 31, op := _, type := _, pos := _, after := _, guard := _ }) (v := .int .i64 (pl : Int)) rfl (by kernel_rfl) (by kernel_rfl) (by kernel_rfl) (fun _ _ _ h => h) (Or.inl ⟨by kernel_rfl, fun wy hy => by (obtain ⟨q0, q1, q2, q3, q4⟩ := (HIb3.out.later hy).cells; go_simp; done)⟩) (by assumption) ?_
  try simp only [Act.put, List.setIfInBounds_toArray, List.set_cons_zero, List.set_cons_succ]
  refine wpAnyH_take (i := 6) (oi := { dst := some 32, op := _, type := _, pos := _, after := _, guard := _ }) (v := .pointer (some ⟨g, 0, none⟩)) rfl (by kernel_rfl) (by kernel_rfl) (by kernel_rfl) (fun _ _ _ h => h) (Or.inl ⟨by kernel_rfl, fun wy hy => by (go_simp; done)⟩) (by assumption) ?_
  try simp only [Act.put, List.setIfInBounds_toArray, List.set_cons_zero, List.set_cons_succ]
  refine wpAnyH_take (i := 7) (oi := { dst := some 33, op := _, type := _, pos := _, after := _, guard := _ }) (v := .pointer (some ⟨w.heap.size, 0, none⟩)) rfl (by kernel_rfl) (by kernel_rfl) (by kernel_rfl) (fun _ _ _ h => h) (Or.inl ⟨by kernel_rfl, fun wy hy => by (go_simp; done)⟩) (by assumption) ?_
  try simp only [Act.put, List.setIfInBounds_toArray, List.set_cons_zero, List.set_cons_succ]
  refine wpAnyH_take (i := 8) (oi := { dst := some 34, op := _, type := _, pos := _, after := _, guard := _ }) (v := .int .i64 (nu : Int)) rfl (by kernel_rfl) (by kernel_rfl) (by kernel_rfl) (fun _ _ _ h => h) (Or.inl ⟨by kernel_rfl, fun wy hy => by (obtain ⟨q0, q1, q2, q3, q4⟩ := (HIb3.out.later hy).cells; go_simp; done)⟩) (by assumption) ?_
  try simp only [Act.put, List.setIfInBounds_toArray, List.set_cons_zero, List.set_cons_succ]
  refine wpAnyH_take (i := 9) (oi := { dst := some 35, op := _, type := _, pos := _, after := _, guard := _ }) (v := .pointer (some ⟨g, 0, none⟩)) rfl (by kernel_rfl) (by kernel_rfl) (by kernel_rfl) (fun _ _ _ h => h) (Or.inl ⟨by kernel_rfl, fun wy hy => by (go_simp; done)⟩) (by assumption) ?_
  try simp only [Act.put, List.setIfInBounds_toArray, List.set_cons_zero, List.set_cons_succ]
  refine wpAnyH_take (i := 10) (oi := { dst := some 36, op := _, type := _, pos := _, after := _, guard := _ }) (v := .pointer (some ⟨g, 0, none⟩)) rfl (by kernel_rfl) (by kernel_rfl) (by kernel_rfl) (fun _ _ _ h => h) (Or.inl ⟨by kernel_rfl, fun wy hy => by (go_simp; done)⟩) (by assumption) ?_
  try simp only [Act.put, List.setIfInBounds_toArray, List.set_cons_zero, List.set_cons_succ]
  refine wpAnyH_take (i := 11) (oi := { dst := some 37, op := _, type := _, pos := _, after := _, guard := _ }) (v := .pointer (some ⟨g, 0, none⟩)) rfl (by kernel_rfl) (by kernel_rfl) (by kernel_rfl) (fun _ _ _ h => h) (Or.inl ⟨by kernel_rfl, fun wy hy => by (go_simp; done)⟩) (by assumption) ?_
  try simp only [Act.put, List.setIfInBounds_toArray, List.set_cons_zero, List.set_cons_succ]
  refine wpAnyH_take (i := 12) (oi := { dst := some 38, op := _, type := _, pos := _, after := _, guard := _ }) (v := .int .i64 (r : Int)) rfl (by kernel_rfl) (by kernel_rfl) (by kernel_rfl) (fun _ _ _ h => h) (Or.inl ⟨by kernel_rfl, fun wy hy => by (obtain ⟨q0, q1, q2, q3⟩ := (HLb3.out.later hy).cells; go_simp; done)⟩) (by assumption) ?_
  try simp only [Act.put, List.setIfInBounds_toArray, List.set_cons_zero, List.set_cons_succ]
  refine wpAnyH_take (i := 13) (oi := { dst := some 39, op := _, type := _, pos := _, after := _, guard := _ }) (v := .int .i64 ((nu / r : Nat) : Int)) rfl (by kernel_rfl) (by kernel_rfl) (by kernel_rfl) (fun _ _ _ h => h) (Or.inl ⟨by kernel_rfl, fun wy hy => by (go_simp; rw [if_neg (by omega), HQ.out])⟩) (by assumption) ?_
  try simp only [Act.put, List.setIfInBounds_toArray, List.set_cons_zero, List.set_cons_succ]
  refine wpAnyH_ready (rs := [14]) (by kernel_rfl) (by simp) ?_
  refine AllReadyH.cons (o := { dst := some 40, op := _, type := _, pos := _, after := _, guard := _ }) rfl (fun KK hK => ?_) AllReadyH.nil
  go_simp
  go_at_call 70
  refine (HPc.out _ BD).mono ?_
  rintro e1 X4 ⟨rfl, hb2⟩
  have hb22 : Below X3.heap.size X3 X4 := BD.trans hb2
  clear hb2 BD HPc
  go_wp2_with fail
  refine hK.out _ _ hb22 (fun hHeld => ?_)
  clear hK
  try simp only [Act.put, List.setIfInBounds_toArray, List.set_cons_zero, List.set_cons_succ]
  refine wpAnyH_take (i := 15) (oi := { dst := some 41, op := _, type := _, pos := _, after := _, guard := _ }) (v := .bool Y) rfl (by kernel_rfl) (by kernel_rfl) (by kernel_rfl) (fun _ _ _ h => h) (Or.inl ⟨by kernel_rfl, fun wy hy => by (go_simp; exact HY.out.symm)⟩) (by assumption) ?_
  try simp only [Act.put, List.setIfInBounds_toArray, List.set_cons_zero, List.set_cons_succ]
  refine wpAnyH_take (i := 16) (oi := { dst := some 42, op := _, type := _, pos := _, after := _, guard := _ }) (v := .bool Y) rfl (by kernel_rfl) (by kernel_rfl) (by kernel_rfl) (fun _ _ _ h => h) (Or.inl ⟨by kernel_rfl, fun wy hy => by (go_simp; done)⟩) (by assumption) ?_
  try simp only [Act.put, List.setIfInBounds_toArray, List.set_cons_zero, List.set_cons_succ]
  refine wpAnyH_take (i := 17) (oi := { dst := some 6, op := _, type := _, pos := _, after := _, guard := _ }) (v := .bool Y) rfl (by kernel_rfl) (by kernel_rfl) (by kernel_rfl) (fun _ _ _ h => h) (Or.inl ⟨by kernel_rfl, fun wy hy => by (go_simp; done)⟩) (by assumption) ?_
  try simp only [Act.put, List.setIfInBounds_toArray, List.set_cons_zero, List.set_cons_succ]
  refine wpAnyH_done (by kernel_rfl) (NoPanic.normal ?_) _
  have HB4 := Lib.hid hb22
  clear hb22 hHeld
  go_simp
  go_step
  have hf : FB = Y := by
   rw [HFB.out, HY.out]
   unfold fitB fitP
   have e1 : ordC L K < 0 := by rw [← HO.out]; omega
   have e2 := HOk.out
   simp only [e1, e2, hz, true_and, ne_eq, not_true_eq_false, false_implies, and_true, true_implies, ← HWd.out]
   rw [Bool.eq_iff_iff]
   simp
   omega
  go_wp2
  go_ret
  exact ⟨by rw [hf]; rfl, HA3.out.trans (HB4.out.mono HA3.out.size)⟩
 | false =>
  have hz : ¬ nu % r = 0 := by have := HZ.out; simpa using this.symm
  have HPc := Lib.hid (fun wx (h : Below X3.heap.size X3 wx) => common_any (HL3.out.later h) (HK3.out.later h))
  obtain ⟨cm, hcm⟩ : ∃ cm, cm = comL L K := ⟨_, rfl⟩
  rw [← hcm] at HPc
  obtain ⟨Y, hY⟩ : ∃ Y : Bool, Y = ((sh : Int) == (cm : Int)) := ⟨_, rfl⟩
  have HY := Lib.hid hY
  have HCm := Lib.hid hcm
  clear hcm hY
  go_upto_region 5 with fail
  refine wp_region_noPanic ?_
  refine wp_region_held_drew (S := fun wx => Below X3.heap.size X3 wx) (by kernel_rfl) BD (fun hHeld => ?_)
  refine wpAnyH_take (i := 0) (oi := { dst := some 43, op := _, type := _, pos := _, after := _, guard := _ }) (v := .pointer (some ⟨w.heap.size, 2, none⟩)) rfl (by kernel_rfl) (by kernel_rfl) (by kernel_rfl) (fun _ _ _ h => h) (Or.inl ⟨by kernel_rfl, fun wy hy => by (go_simp; done)⟩) (by assumption) ?_
  try simp only [Act.put, List.setIfInBounds_toArray, List.set_cons_zero, List.set_cons_succ]
  refine wpAnyH_take (i := 1) (oi := { dst := some 44, op := _, type := _, pos := _, after := _, guard := _ }) (v := .int .i64 (sh : Int)) rfl (by kernel_rfl) (by kernel_rfl) (by kernel_rfl) (fun _ _ _ h => h) (Or.inl ⟨by kernel_rfl, fun wy hy => by (obtain ⟨q0, q1, q2, q3, q4⟩ := (HIb3.out.later hy).cells; go_simp; done)⟩) (by assumption) ?_
  try simp only [Act.put, List.setIfInBounds_toArray, List.set_cons_zero, List.set_cons_succ]
  refine wpAnyH_take (i := 2) (oi := { dst := some 45, op := _, type := _, pos := _, after := _, guard := _ }) (v := .slice al nl cl) rfl (by kernel_rfl) (by kernel_rfl) (by kernel_rfl) (fun _ _ _ h => h) (Or.inl ⟨by kernel_rfl, fun wy hy => by (go_simp; done)⟩) (by assumption) ?_
  try simp only [Act.put, List.setIfInBounds_toArray, List.set_cons_zero, List.set_cons_succ]
  refine wpAnyH_take (i := 3) (oi := { dst := some 46, op := _, type := _, pos := _, after := _, guard := _ }) (v := .pointer (some ⟨w.heap.size, 3, none⟩)) rfl (by kernel_rfl) (by kernel_rfl) (by kernel_rfl) (fun _ _ _ h => h) (Or.inl ⟨by kernel_rfl, fun wy hy => by (go_simp; done)⟩) (by assumption) ?_
  try simp only [Act.put, List.setIfInBounds_toArray, List.set_cons_zero, List.set_cons_succ]
  refine wpAnyH_take (i := 4) (oi := { dst := some 47, op := _, type := _, pos := _, after := _, guard := _ }) (v := .slice ak kn kc) rfl (by kernel_rfl) (by kernel_rfl) (by kernel_rfl) (fun _ _ _ h => h) (Or.inl ⟨by kernel_rfl, fun wy hy => by (obtain ⟨q0, q1, q2, q3, q4⟩ := (HIb3.out.later hy).cells; go_simp; done)⟩) (by assumption) ?_
  try simp only [Act.put, List.setIfInBounds_toArray, List.set_cons_zero, List.set_cons_succ]
  refine wpAnyH_ready (rs := [5]) (by kernel_rfl) (by simp) ?_
  refine AllReadyH.cons (o := { dst := some 48, op := _, type := _, pos := _, after := _, guard := _ }) rfl (fun KK hK => ?_) AllReadyH.nil
  go_simp
  go_at_call 52
  refine (HPc.out _ BD).mono ?_
  rintro e1 X4 ⟨rfl, hb2⟩
  have hb22 : Below X3.heap.size X3 X4 := BD.trans hb2
  clear hb2 BD HPc
  go_wp2_with fail
  refine hK.out _ _ hb22 (fun hHeld => ?_)
  clear hK
  try simp only [Act.put, List.setIfInBounds_toArray, List.set_cons_zero, List.set_cons_succ]
  refine wpAnyH_take (i := 6) (oi := { dst := some 49, op := _, type := _, pos := _, after := _, guard := _ }) (v := .bool Y) rfl (by kernel_rfl) (by kernel_rfl) (by kernel_rfl) (fun _ _ _ h => h) (Or.inl ⟨by kernel_rfl, fun wy hy => by (go_simp; exact HY.out.symm)⟩) (by assumption) ?_
  try simp only [Act.put, List.setIfInBounds_toArray, List.set_cons_zero, List.set_cons_succ]
  refine wpAnyH_take (i := 7) (oi := { dst := some 6, op := _, type := _, pos := _, after := _, guard := _ }) (v := .bool Y) rfl (by kernel_rfl) (by kernel_rfl) (by kernel_rfl) (fun _ _ _ h => h) (Or.inl ⟨by kernel_rfl, fun wy hy => by (go_simp; done)⟩) (by assumption) ?_
  try simp only [Act.put, List.setIfInBounds_toArray, List.set_cons_zero, List.set_cons_succ]
  refine wpAnyH_done (by kernel_rfl) (NoPanic.normal ?_) _
  have HB4 := Lib.hid hb22
  clear hb22 hHeld
  go_simp
  go_step
  have hf : FB = Y := by
   rw [HFB.out, HY.out]
   unfold fitB fitP
   have e1 : ordC L K < 0 := by rw [← HO.out]; omega
   have e2 := HOk.out
   simp only [e1, e2, hz, true_and, ne_eq, not_false_eq_true, false_implies, true_implies, ← HCm.out]
   rw [Bool.eq_iff_iff]
   simp
   omega
  go_wp2
  go_ret
  exact ⟨by rw [hf]; rfl, HA3.out.trans (HB4.out.mono HA3.out.size)⟩
end Go.Proofs.YtchebhafabhabaaGreatDoor

namespace Go.Proofs.YtchebhafabhabaaGreatDoor
open Go.RowKit
set_option linter.unusedVariables false

section
variable {P : Program} {ops : Array Oper} {Q : Exit → Act → World → Prop} {md : Region.Mode} {S : World → Prop} {E : Nat → Bool}

def AnyE (P : Program) (md : Region.Mode) (ops : Array Oper) (Q : Exit → Act → World → Prop) (S : World → Prop) (E : Nat → Bool) : Nat → Array Bool → Act → World → Prop
 | 0, listed, a, w => Region.ready md ops listed = [] ∧ Q .normal a w
 | fuel + 1, listed, a, w => (Region.ready md ops listed = [] → Q .normal a w) ∧
  ∀ i ∈ Region.ready md ops listed, wpOp P ops Q i (fun a' w' => (E i = true → S w') ∧ AnyE P md ops Q S E fuel (listed.setIfInBounds i true) a' w') a w
theorem AnyE.any : ∀ (fuel : Nat) (listed : Array Bool) (a : Act) (w : World), AnyE P md ops Q S E fuel listed a w → wpAny P md ops Q fuel listed a w
 | 0, _, _, _, h => h
 | fuel + 1, _, _, _, h => ⟨h.1, fun i hi => wpOp_mono (fun a' w' k => AnyE.any fuel _ a' w' k.2) (h.2 i hi)⟩
theorem wp_region_anyE {id : Nat} {a : Act} {w : World} (hm : P.follows .mixedOrders = true) (h : AnyE P .any ops Q S E ops.size (Array.replicate ops.size false) a w.drew) : (Code.region id ops true).wp P Q a w := wp_region_any hm (AnyE.any _ _ _ _ h)
def eFree (md : Region.Mode) (ops : Array Oper) (listed : Array Bool) (i : Nat) (E : Nat → Bool) : Bool :=
 (List.range ops.size).all fun j => j == i || listed.getD j true || E j || (match ops[j]? with
  | none => true
  | some oj => oj.after.any fun e => Region.binds md e && e.on == i)
theorem eFree_spec {i : Nat} {listed : Array Bool} (h : eFree md ops listed i E = true) (j : Nat) (oj : Oper) (hj : ops[j]? = some oj) (hne : j ≠ i) (hun : listed.getD j true = false) (hno : ∀ e ∈ oj.after, Region.binds md e = true → e.on ≠ i) : E j = true := by
 have hlt : j < ops.size := (Array.getElem?_eq_some_iff.1 hj).1
 have := List.all_eq_true.1 h j (List.mem_range.2 hlt)
 simp only [hj, Bool.or_eq_true, beq_iff_eq, hne, hun, false_or] at this
 rcases this with (h1 | h1) | h1
 ·cases h1
 ·exact h1
 ·obtain ⟨k, hk, he⟩ := Array.any_eq_true.1 h1
  simp only [Bool.and_eq_true, beq_iff_eq] at he
  exact absurd he.2 (hno _ (Array.getElem_mem hk) he.1)
theorem AnyE.first {i : Nat} {oi : Oper} {v : Value} (hi : ops[i]? = some oi) (hs : Region.noSelect ops = true) (hQ : ∀ c a w, Q (.panic c) (a.put oi.dst v) w → Q (.panic c) a w) : ∀ (fuel : Nat) (listed : Array Bool) (a : Act) (w : World),
  (∀ j oj, ops[j]? = some oj → j ≠ i → listed.getD j true = false → (∀ e ∈ oj.after, Region.binds md e = true → e.on ≠ i) → oi.apart ops oj = true ∧ E j = true) →
  i ∈ Region.ready md ops listed → YieldsIf P ops S oi v a → S w → AnyE P md ops Q S E fuel (listed.setIfInBounds i true) (a.put oi.dst v) w → AnyE P md ops Q S E (fuel + 1) listed a w := by
 intro fuel
 have sel := Region.noSelect_spec hs
 induction fuel with
 | zero =>
  intro listed a w _ hr hy hS H
  refine ⟨fun h => (by rw [h] at hr; cases hr), fun j hj => ?_⟩
  rcases Decidable.em (j = i) with rfl | hne
  ·exact hy.wpOp hi hS ⟨fun _ => hS, H⟩
  ·have k := ready_mono hj hne
   rw [H.1] at k; cases k
 | succ fuel ih =>
  intro listed a w hf hr hy hS H
  refine ⟨fun h => (by rw [h] at hr; cases hr), fun j hj => ?_⟩
  rcases Decidable.em (j = i) with rfl | hne
  ·exact hy.wpOp hi hS ⟨fun _ => hS, H⟩
  ·obtain ⟨hun, oj, hoj, hall⟩ := mem_ready.1 hj
   have hno : ∀ e ∈ oj.after, Region.binds md e = true → e.on ≠ i := fun e he hb heq => by
    have k1 := hall e he hb
    have k0 := (mem_ready.1 hr).1
    rw [heq] at k1
    by_cases hlt : i < listed.size
    ·simp [hlt] at k0 k1; rw [k0] at k1; cases k1
    ·simp [Array.getElem?_eq_none (Nat.le_of_not_lt hlt)] at k1
   obtain ⟨hap, hEj⟩ := hf j oj hoj hne hun hno
   refine wpOp_mono (fun a' w' h3 => ⟨h3.2.1, ?_⟩) (wpOp_putIf hoj hap (fun cs b => sel i oi cs b hi) (fun cs b => sel j oj cs b hoj) hQ hy (H.2 j (ready_mono hj hne)))
   refine ih (listed.setIfInBounds j true) a' w' (fun k ok hk hki hun' hno' => hf k ok hk hki ?_ hno') (ready_mono hr (Ne.symm hne)) h3.1 (h3.2.1 hEj) ?_
   ·rcases Decidable.em (j = k) with rfl | e
    ·exact hun
    ·rwa [getD_set_ne true e] at hun'
   ·rw [Array.setIfInBounds_comm _ _ hne]; exact h3.2.2
theorem AnyE.take {i : Nat} {oi : Oper} {fuel : Nat} {listed : Array Bool} {a : Act} {w : World} (v : Value) (hi : ops[i]? = some oi) (hs : Region.noSelect ops = true) (hf : Region.free md ops listed i = true) (he : eFree md ops listed i E = true) (hr : (Region.ready md ops listed).contains i = true)
  (hQ : ∀ c a w, Q (.panic c) (a.put oi.dst v) w → Q (.panic c) a w) (hy : YieldsIf P ops S oi v a) (hS : S w) (h : AnyE P md ops Q S E fuel (listed.setIfInBounds i true) (a.put oi.dst v) w) : AnyE P md ops Q S E (fuel + 1) listed a w :=
 AnyE.first hi hs hQ fuel listed a w (fun j oj hj hne hun hno => ⟨Region.free_spec hi hf j oj hj hne hun hno, eFree_spec he j oj hj hne hun hno⟩) (by simpa using hr) hy hS h
theorem AnyE.one {i : Nat} {o : Oper} {fuel : Nat} {listed : Array Bool} {a : Act} {w : World} (ho : ops[i]? = some o) (hr : Region.ready md ops listed = [i]) (hw : Region.wanted o (yielded ops a.tmps) = true)
  (h : ∀ K : Act → World → Prop, Hid (∀ a' w', ((E i = true → S w') ∧ AnyE P md ops Q S E fuel (listed.setIfInBounds i true) a' w') → K a' w') → Oper.wp P o a w K Q) : AnyE P md ops Q S E (fuel + 1) listed a w :=
 ⟨fun k => (by rw [hr] at k; cases k), fun j hj => by
  rw [hr] at hj
  obtain rfl : j = i := by simpa using hj
  exact wpOp_step ho (fun K' hK => by rw [if_pos hw]; exact h K' hK)⟩
theorem AnyE.done {listed : Array Bool} {a : Act} {w : World} (hr : Region.ready md ops listed = []) (h : Q .normal a w) : ∀ fuel, AnyE P md ops Q S E fuel listed a w
 | 0 => ⟨hr, h⟩
 | _ + 1 => ⟨fun _ => h, by rw [hr]; simp⟩
end
end Go.Proofs.YtchebhafabhabaaGreatDoor

namespace Go.Proofs.YtchebhafabhabaaGreatDoor
open Go.RowKit
set_option linter.unusedVariables false

def Cell1B (w : World) (g : Nat) (v : Value) (t : Nat) : Prop := w.heap[g]? = some (.cells #[v] t (0, 0))
theorem Cell1B.fb {w w' : World} {O : Nat → Prop} {g t : Nat} {v : Value} (h : Cell1B w g v t) (f : Fb w w' O) (k : ¬ O g) : Cell1B w' g v t := by
 unfold Cell1B at *
 rw [f.block g (Array.getElem?_eq_some_iff.1 h).1 k]
 exact h
theorem Cell1B.cell {w : World} {g t : Nat} {v : Value} (h : Cell1B w g v t) : w.cell? ⟨g, 0, none⟩ = some v := by unfold Cell1B at h; simp [World.cell?, h]
theorem Cell1B.fz {w : World} {g t : Nat} {v : Value} (h : Cell1B w g v t) : w.frozen? ⟨g, 0, none⟩ = false := by unfold Cell1B at h; simp [World.frozen?, h]
theorem Cell1B.lt {w : World} {g t : Nat} {v : Value} (h : Cell1B w g v t) : g < w.heap.size := (Array.getElem?_eq_some_iff.1 h).1
theorem Cell1B.set {w : World} {g t : Nat} {v : Value} (h : Cell1B w g v t) (x : Value) : Cell1B (w.setCell ⟨g, 0, none⟩ x) g x t := by
 unfold Cell1B at *; simp [World.setCell, Array.getElem?_modify, h]
theorem IBox.fb {w w' : World} {O : Nat → Prop} {g : Nat} {n p s : Int} {vk vv : Value} (h : IBox w g n p s vk vv) (f : Fb w w' O) (k : ¬ O g) : IBox w' g n p s vk vv := by
 unfold IBox at *
 rw [f.block g (Array.getElem?_eq_some_iff.1 h).1 k]
 exact h
structure SdI (gb gl g r : Nat) (n : Int) (ve : Value) (bp off np cp : Nat) (P : List Nat) (B0 : Nat) (st : List Nat × Value) (w : World) : Prop where
 b : Cell1B w gb (.pointer (some ⟨g, 0, none⟩)) 58
 l : Cell1B w gl st.2 36
 box : LBox w g (r : Int) n ve (.slice (some ⟨bp, off, none⟩) np cp)
 rdp : Rd w (.slice (some ⟨bp, off, none⟩) np cp) P
 own : Own w B0 st.2 st.1.length st.1
 by_ : Bys st.1
 len : st.1.length ≤ 131072
 lo : gb < B0 ∧ gl < B0 ∧ g < B0 ∧ bp < B0
 ne : gb ≠ gl ∧ g ≠ gl ∧ bp ≠ gl
 B : B0 ≤ w.heap.size
def SdO (gl : Nat) (st : List Nat × Value) (k : Nat) : Prop := k = gl ∨ st.2.ownBlock = some k
noncomputable def SdA (r : Nat) (P : List Nat) (last : List Nat) (it : It) : Bool × List Nat := (fitB r P last it, it.key)
theorem SdI.out {gb gl g r : Nat} {n : Int} {ve : Value} {bp off np cp : Nat} {P : List Nat} {B0 : Nat} {st : List Nat × Value} {w : World} (h : SdI gb gl g r n ve bp off np cp P B0 st w) : ¬ SdO gl st gb ∧ ¬ SdO gl st g ∧ ¬ SdO gl st bp := by
 have := h.lo
 have := h.ne
 refine ⟨?_, ?_, ?_⟩
 all_goals
  rintro (k | k)
  ·omega
  ·have := (h.own.2.lt _ k).1
   omega
set_option maxRecDepth 100000 in
set_option maxHeartbeats 4000000 in
theorem sound1_asks {gb gl g r N : Nat} {n : Int} {ve : Value} {bp off np cp : Nat} {P : List Nat} {B0 : Nat} (hr : 1 ≤ r ∧ r ≤ 16) (hN : N < 4294967296) (hPN : ∀ k, k < N → k / r * 4 + 4 ≤ P.length) (hP17 : P.length ≤ 131072)
  (st : List Nat × Value) (w : World) (it : It) (ak av : Option Addr) (kc vc kn vn : Nat) (hI : SdI gb gl g r n ve bp off np cp P B0 st w) (hnu : it.number < N) (hkn : kn = it.key.length) (hvn : vn = it.val.length) (hk : Rd w (.slice ak kn kc) it.key) (hv : Rd w (.slice av vn vc) it.val) (hkl : kn ≤ 131072) (hvl : vn ≤ 131072)
  (hst : ∀ w', Fb w w' (SdO gl st) → Rd w' (.slice ak kn kc) it.key ∧ Rd w' (.slice av vn vc) it.val) :
  Calls Tryz.prog 95 (#[.agg #[.int .i64 (it.number : Int), .int .i64 (it.place : Int), .int .i64 (it.shared : Int), .slice ak kn kc, .slice av vn vc]] ++ #[.pointer (some ⟨gb, 0, none⟩), .pointer (some ⟨gl, 0, none⟩)]) w fun e w' => e = .returned (.bool (SdA r P st.1 it).1) ∧ ∃ mm, SdI gb gl g r n ve bp off np cp P B0 ((SdA r P st.1 it).2, mm) w' ∧ Fb w w' (SdO gl st) ∧ ∀ k, SdO gl ((SdA r P st.1 it).2, mm) k → SdO gl st k ∨ w.heap.size ≤ k := by
 obtain ⟨nu, pl, sh, K, V⟩ := it
 obtain ⟨last, vl⟩ := st
 simp only at *
 obtain ⟨nl, hnl⟩ : ∃ nl, nl = last.length := ⟨_, rfl⟩
 obtain ⟨al, cl, rfl⟩ : ∃ a c, vl = .slice a nl c := by
  have h := own_form hI.own.2
  simp only [← hnl] at h
  exact h
 have hown : Own w B0 (.slice al nl cl) nl last := by
  have h := hI.own
  simp only [← hnl] at h
  exact h
 have hll : nl ≤ 131072 := by have := hI.len; simp only at this; omega
 have HOwn := Lib.hid hown
 unfold SdA
 simp only
 obtain ⟨FB, hFB⟩ : ∃ FB, FB = fitB r P last ⟨nu, pl, sh, K, V⟩ := ⟨_, rfl⟩
 rw [← hFB]
 have A1 := (Below.refl w.heap.size w).alloc (Nat.le_refl _) (.cells #[.int .i64 nu, .int .i64 pl, .int .i64 sh, .slice ak kn kc, .slice av vn vc] 116)
 have ib := IBox.new w nu pl sh (.slice ak kn kc) (.slice av vn vc)
 obtain ⟨X, hX⟩ : ∃ X, X = w.alloc (.cells #[.int .i64 nu, .int .i64 pl, .int .i64 sh, .slice ak kn kc, .slice av vn vc] 116) := ⟨_, rfl⟩
 have hXs : X.heap.size = w.heap.size + 1 := by rw [hX]; simp
 rw [← hX] at A1 ib
 have HX := Lib.hid hX
 have fX : Fb w X (fun _ => False) := Fb.of_below A1
 have HFi := Lib.hid (fits_any (L := last) nu pl sh (hI.box.fb fX id) (hI.rdp.fb fX id) (hk.later A1) (hv.later A1) ((hown.rd hI.by_ (by omega)).later A1) hkl hvl hr (by omega) (hPN nu hnu) hP17)
 rw [← hFB] at HFi
 have HI := Lib.hid hI
 have HA1 := Lib.hid A1
 have HIb := Lib.hid ib
 have HXs := Lib.hid hXs
 have HSt := Lib.hid hst
 have HKn := Lib.hid hkn
 have HBk := Lib.hid hk.1
 have HNl := Lib.hid hnl
 obtain ⟨c0, c1, c2, c3, c4⟩ := ib.cells
 have d0 := (hI.b.fb fX id).cell
 have d1 := (hI.l.fb fX id).cell
 clear hown A1 hX hFB hk hv hst hI hXs fX ib hPN hP17 hnu hN hkn hvn hnl
 go_enter Tryz.func95, Tryz.ntmps95
 go_upto_region 1 with fail
 rw [← HX.out]
 clear HX
 go_wp2_with fail
 refine Calls.mono HFi.out ?_
 rintro z X1 ⟨rfl, b1⟩
 have HB1 : Hid (Below w.heap.size w X1) := HA1.out.trans (b1.mono HA1.out.size)
 have HIb1 := Lib.hid (HIb.out.later b1)
 have HS1 : Hid (w.heap.size < X1.heap.size) := by have := b1.size; have := HXs.out; unfold Hid; omega
 clear b1 HA1 HIb HXs HFi c0 c1 c2 c3 c4 d0 d1
 have HCut := Lib.hid ((HOwn.out.take (k := 0) (Nat.zero_le _)).later HB1.out)
 have HRk := Lib.hid (HSt.out X1 (Fb.of_below HB1.out)).1
 have HNi : Hid (¬ SdO gl (last, .slice al nl cl) w.heap.size) := by
  rintro (k | k)
  ·have := HI.out.l.lt; omega
  ·have := (HI.out.own.2.lt _ k).2; omega
 have HLs : Hid (∀ wy, Fb X1 wy (fun k => (Value.slice al nl cl).ownBlock = some k) → wy.cell? ⟨gl, 0, none⟩ = some (.slice al nl cl)) := fun wy hy => ((HI.out.l.fb (Fb.of_below HB1.out (O := fun _ => False)) id).fb hy (fun k => by have := (HOwn.out.2.lt _ k).1; have := HI.out.lo; omega)).cell
 go_upto_region 2 with fail
 have BD : Fb X1 X1.drew (fun k => (Value.slice al nl cl).ownBlock = some k) := Fb.of_below ((Below.refl _ _).drew)
 refine wp_region_noPanic ?_
 refine wp_region_anyE (S := fun wx => Fb X1 wx (fun k => (Value.slice al nl cl).ownBlock = some k)) (E := fun j => decide (j < 5)) (by kernel_rfl) ?_
 refine AnyE.take (i := 0) (.slice al nl cl) rfl (by kernel_rfl) (by kernel_rfl) (by kernel_rfl) (by kernel_rfl) (fun _ _ _ h => h) (.inl ⟨by rfl, fun wy hy => by (have q := HLs.out wy hy; go_simp; done)⟩) BD ?_
 try simp only [Act.put]
 refine AnyE.take (i := 1) (.slice al 0 cl) rfl (by kernel_rfl) (by kernel_rfl) (by kernel_rfl) (by kernel_rfl) (fun _ _ _ h => h) (.inl ⟨by rfl, fun wy hy => by first | (go_simp; done) | (cases al <;> (go_simp; done))⟩) BD ?_
 try simp only [Act.put]
 refine AnyE.take (i := 2) (.pointer (some ⟨w.heap.size, 3, none⟩)) rfl (by kernel_rfl) (by kernel_rfl) (by kernel_rfl) (by kernel_rfl) (fun _ _ _ h => h) (.inl ⟨by rfl, fun wy hy => by (go_simp; done)⟩) BD ?_
 try simp only [Act.put]
 refine AnyE.take (i := 3) (.slice ak kn kc) rfl (by kernel_rfl) (by kernel_rfl) (by kernel_rfl) (by kernel_rfl) (fun _ _ _ h => h) (.inl ⟨by rfl, fun wy hy => by (obtain ⟨q0, q1, q2, q3, q4⟩ := (HIb1.out.fb hy (fun k => HNi.out (Or.inr k))).cells; go_simp; done)⟩) BD ?_
 try simp only [Act.put]
 refine AnyE.one (i := 4) rfl (by kernel_rfl) (by rfl) (fun KK hK => ?_)
 refine bstep_append _ _ rfl (B := B0) (n := 0) (xs := []) (bs := K) rfl (HCut.out.later ((Below.refl _ _).drew)) rfl (HRk.out.later ((Below.refl _ _).drew)) (by have := HKn.out; omega) (Nat.le_trans HI.out.B HB1.out.size) (fun a3 c3 X3 own3 gr3 lo3 => ?_)
 have f13 : Fb X1 X3 (fun k => (Value.slice al nl cl).ownBlock = some k) := BD.trans (Fb.of_grown gr3 (fun i h => by rw [← h]; cases al <;> rfl))
 rw [Nat.zero_add, ← HKn.out] at own3 lo3 ⊢
 refine hK.out _ _ ⟨fun _ => f13, ?_⟩
 clear hK
 try simp only [Act.put]
 have hlo3 : ∀ k, (Value.slice a3 kn c3).ownBlock = some k → (Value.slice al nl cl).ownBlock = some k ∨ k = X1.heap.size := fun k hk => by
  rcases lo3 k hk with h | h
  ·left; rw [← h]; cases al <;> rfl
  ·right; exact h
 have HLo3 := Lib.hid hlo3
 have HOwn3 : Hid (Own X3 B0 (.slice a3 kn c3) kn K) := own3
 have HF13 := Lib.hid f13
 clear lo3 gr3 hlo3 own3 f13
 have hnog : ¬ (Value.slice al nl cl).ownBlock = some gl := fun k => by have := (HOwn.out.2.lt _ k).1; have := HI.out.lo; omega
 have l3 := ((HI.out.l.fb (Fb.of_below HB1.out (O := fun _ => False)) id).fb HF13.out hnog)
 simp only at l3
 have q0 := l3.cell
 have q1 := l3.fz
 have HL4 := Lib.hid (l3.set (.slice a3 kn c3))
 have HF34 : Hid (Fb X3 (X3.setCell ⟨gl, 0, none⟩ (.slice a3 kn c3)) (fun k => k = gl)) := Fb.of_grown (setg X3 gl 0 (.slice a3 kn c3)) (fun i h => (Option.some.inj h).symm)
 clear l3 hnog
 refine AnyE.one (i := 5) rfl (by kernel_rfl) (by rfl) (fun KK hK => ?_)
 go_simp
 refine hK.out _ _ ⟨fun h => (by cases h), ?_⟩
 clear hK
 refine AnyE.done (by kernel_rfl) (NoPanic.normal ?_) _
 generalize X3.setCell ⟨gl, 0, none⟩ (.slice a3 kn c3) = X4 at *
 clear q0 q1
 go_simp
 go_step
 go_wp2
 go_ret
 have f13 := HF13.out
 have f34 := HF34.out
 have hO := HI.out.out
 have fA : Fb w X1 (SdO gl (last, .slice al nl cl)) := Fb.of_below HB1.out
 have fB : Fb X1 X3 (SdO gl (last, .slice al nl cl)) := f13.mono (fun _ _ h => Or.inr h)
 have fC : Fb X3 X4 (SdO gl (last, .slice al nl cl)) := f34.mono (fun _ _ h => Or.inl h)
 have fw := (fA.trans fB).trans fC
 have hlen : kn = K.length := HKn.out
 refine ⟨rfl, .slice a3 kn c3, ⟨HI.out.b.fb fw hO.1, HL4.out, HI.out.box.fb fw hO.2.1, HI.out.rdp.fb fw hO.2.2, ?_, HBk.out, by simp only; omega, HI.out.lo, HI.out.ne, Nat.le_trans HI.out.B fw.size⟩, fw, ?_⟩
 ·simp only
  rw [← hlen]
  exact HOwn3.out.fb f34 (fun k hk h => by have := (HOwn3.out.2.lt _ hk).1; have := HI.out.lo; omega)
 ·rintro k (h | h)
  ·exact .inl (.inl h)
  ·rcases HLo3.out k h with h | h
   ·exact .inl (.inr h)
   ·right; have := HS1.out; omega
end Go.Proofs.YtchebhafabhabaaGreatDoor

namespace Go.Proofs.YtchebhafabhabaaGreatDoor
open Go.RowKit Go.Shelf
set_option linter.unusedVariables false

theorem sound1_asker {gb gl g r N : Nat} {n : Int} {ve : Value} {bp off np cp : Nat} {P : List Nat} {B0 : Nat} (hr : 1 ≤ r ∧ r ≤ 16) (hN : N < 4294967296) (hPN : ∀ k, k < N → k / r * 4 + 4 ≤ P.length) (hP17 : P.length ≤ 131072) :
  Asker (List Nat) Value 95 #[.pointer (some ⟨gb, 0, none⟩), .pointer (some ⟨gl, 0, none⟩)] N B0 (SdI gb gl g r n ve bp off np cp P B0) (SdO gl) (SdA r P) where
 enters := enters_of Tryz.func95 (by kernel_rfl) rfl
 lt := fun st w k h ho => by
  rcases ho with rfl | ho
  ·exact h.l.lt
  ·exact (h.own.2.lt _ ho).2
 stays := fun st w w' O' h f hk hL => by
  have hl := h.lo
  have hB := h.B
  have hgl : ¬ O' gl := hk gl (by omega) (Or.inl rfl)
  have hlo : ∀ k, k < B0 → ¬ O' k := fun k h1 h2 => by have := hL k h2; omega
  exact ⟨h.b.fb f (hlo _ hl.1), h.l.fb f hgl, h.box.fb f (hlo _ hl.2.2.1), h.rdp.fb f (hlo _ hl.2.2.2), h.own.fb f (fun k ho => hk k (h.own.2.lt _ ho).2 (Or.inr ho)), h.by_, h.len, h.lo, h.ne, Nat.le_trans h.B f.size⟩
 asks := sound1_asks hr hN hPN hP17
noncomputable def soundB (r n : Nat) (E P : List Nat) : Bool := (walkS E (SdA r P) n 0 0 [] []).2.1 && decide ((walkS E (SdA r P) n 0 0 [] []).1 = E.length)
set_option maxRecDepth 100000 in
set_option maxHeartbeats 4000000 in
theorem sound_any {W : World} {g r n b off ne ce bp offp np cp : Nat} {E P : List Nat} (hbx : LBox W g (r : Int) (n : Int) (.slice (some ⟨b, off, none⟩) ne ce) (.slice (some ⟨bp, offp, none⟩) np cp)) (hE : Rd W (.slice (some ⟨b, off, none⟩) ne ce) E) (hP : Rd W (.slice (some ⟨bp, offp, none⟩) np cp) P)
  (hr : 1 ≤ r ∧ r ≤ 16) (hn : n < 4294967296) (hPN : ∀ k, k < n → k / r * 4 + 4 ≤ P.length) (hP17 : P.length ≤ 131072) (hel : E.length ≤ 131072) (hbl : b < W.heap.size) (hpl : bp < W.heap.size) :
  Calls Tryz.prog 64 #[.pointer (some ⟨g, 0, none⟩)] W fun e w' => e = .returned (.bool (soundB r n E P)) ∧ Below W.heap.size W w' := by
 have hgl : g < W.heap.size := (Array.getElem?_eq_some_iff.1 hbx).1
 obtain ⟨SB, hSB⟩ : ∃ SB, SB = soundB r n E P := ⟨_, rfl⟩
 rw [← hSB]
 have A1 := (Below.refl W.heap.size W).alloc (Nat.le_refl _) (.cells #[.pointer (some ⟨g, 0, none⟩)] 58)
 have A2 := A1.alloc A1.size (.cells #[.slice none 0 0] 36)
 have B1 : Cell1B (W.alloc (.cells #[.pointer (some ⟨g, 0, none⟩)] 58)) W.heap.size (.pointer (some ⟨g, 0, none⟩)) 58 := heap_alloc_new W _
 have B2 : Cell1B ((W.alloc (.cells #[.pointer (some ⟨g, 0, none⟩)] 58)).alloc (.cells #[.slice none 0 0] 36)) W.heap.size (.pointer (some ⟨g, 0, none⟩)) 58 := B1.fb (Fb.of_below ((Below.refl _ _).alloc (Nat.le_refl _) _) (O := fun _ => False)) id
 have B3 : Cell1B ((W.alloc (.cells #[.pointer (some ⟨g, 0, none⟩)] 58)).alloc (.cells #[.slice none 0 0] 36)) (W.heap.size + 1) (.slice none 0 0) 36 := by
  have := heap_alloc_new (W.alloc (.cells #[.pointer (some ⟨g, 0, none⟩)] 58)) (.cells #[.slice none 0 0] 36)
  simpa [Cell1B] using this
 obtain ⟨X, hX⟩ : ∃ X, X = (W.alloc (.cells #[.pointer (some ⟨g, 0, none⟩)] 58)).alloc (.cells #[.slice none 0 0] 36) := ⟨_, rfl⟩
 have hXs : X.heap.size = W.heap.size + 2 := by rw [hX]; simp
 rw [← hX] at A2 B2 B3
 have fX : Fb W X (fun _ => False) := Fb.of_below A2
 have hI : SdI W.heap.size (W.heap.size + 1) g r (n : Int) (.slice (some ⟨b, off, none⟩) ne ce) bp offp np cp P X.heap.size ([], .slice none 0 0) X := ⟨B2, B3, hbx.fb fX id, hP.fb fX id, ownNil _ _, (fun x hx => by cases hx), Nat.zero_le _, by omega, by omega, Nat.le_refl _⟩
 have hng : ∀ k, k < W.heap.size → ¬ SdO (W.heap.size + 1) (([] : List Nat), .slice none 0 0) k := fun k hk h => by
  rcases h with h | h
  ·omega
  ·cases h
 have HWk := Lib.hid (walk_any (sound1_asker (gb := W.heap.size) (gl := W.heap.size + 1) (g := g) (n := (n : Int)) (ve := .slice (some ⟨b, off, none⟩) ne ce) (bp := bp) (off := offp) (np := np) (cp := cp) (B0 := X.heap.size) hr hn hPN hP17) 0 0 (hbx.fb fX id) (hE.fb fX id) (Nat.le_refl _) hI (hng g hgl) (hng b hbl) (by omega) (by omega) hel hn (by omega) (Nat.zero_le _))
 obtain ⟨res, hres⟩ : ∃ res, res = walkS E (SdA r P) n 0 0 [] [] := ⟨_, rfl⟩
 have HSB : Hid (SB = (res.2.1 && decide (res.1 = E.length))) := by rw [hres]; exact hSB
 have HnE : Hid (ne = E.length) := (rd_lens hE).1
 simp only [Nat.sub_zero] at HWk
 rw [← hres] at HWk
 obtain ⟨p, all, last⟩ := res
 have HX := Lib.hid hX
 have HA2 := Lib.hid A2
 have HXs := Lib.hid hXs
 have d0 := B2.cell
 clear A1 A2 B1 B2 B3 hX hXs fX hI hng hres hbx hE hP hSB hPN
 go_enter Tryz.func64, Tryz.ntmps64
 go_upto_region 2 with fail
 rw [← HX.out]
 clear HX
 go_wp2_with fail
 refine Calls.mono HWk.out ?_
 rintro z X1 ⟨rfl, mm, hI1, f1, hlo1⟩
 simp only at *
 have HB : Hid (Below W.heap.size W X1) := HA2.out.trans (f1.below (by have := HXs.out; omega) (fun k h => by rcases h with h | h; omega; cases h))
 obtain ⟨e0, e1, e2, e3⟩ := hI1.box.cells
 have d1 := hI1.b.cell
 clear hI1 f1 hlo1 HWk d0
 cases all with
 | false =>
  go_wp2
  go_ret
  exact ⟨by rw [HSB.out]; rfl, HB.out⟩
 | true =>
  obtain ⟨Y, hY⟩ : ∃ Y : Bool, Y = ((p : Int) == (ne : Int)) := ⟨_, rfl⟩
  have hf : SB = Y := by
   rw [HSB.out, hY, ← HnE.out]
   simp only [Bool.true_and]
   rw [Bool.eq_iff_iff]
   simp
   omega
  have HF := Lib.hid (hf.trans hY)
  clear hf hY
  go_wp2
  go_ret
  exact ⟨by rw [HF.out]; rfl, HB.out⟩
end Go.Proofs.YtchebhafabhabaaGreatDoor
