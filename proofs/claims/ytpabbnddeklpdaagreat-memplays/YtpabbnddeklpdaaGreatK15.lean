import Derived.Test.YtpabbnddeklpdaaGreatK14
import Derived.Laws.ResultCell
namespace Go.Proofs.YtpabbnddeklpdaaGreat
open Go.RowKit Go.Shelf
set_option linter.unusedVariables false

theorem RBx.fz {w : World} {b : Nat} {v : Value} {f : Bool} (h : RBx w b v f) (i : Nat) : w.frozen? ⟨b, i, none⟩ = false := by unfold RBx at h; simp [World.frozen?, h]
theorem RBx.keep {w w' : World} {b : Nat} {v : Value} {f : Bool} (h : RBx w b v f) (hb : w'.heap[b]? = w.heap[b]?) : RBx w' b v f := hb.trans h
theorem RBx.lt {w : World} {b : Nat} {v : Value} {f : Bool} (h : RBx w b v f) : b < w.heap.size := (Array.getElem?_eq_some_iff.1 h).1
theorem EBox.lt' {w : World} {b : Nat} {e : EntD} (h : EBox w b e) : b < w.heap.size := (Array.getElem?_eq_some_iff.1 h).1
theorem EBox.keepA {w w' : World} {b : Nat} {e : EntD} (h : EBox w b e) (hb : w'.heap[b]? = w.heap[b]?) : EBox w' b e := hb.trans h
theorem RBx.set0 {w : World} {b : Nat} {v : Value} {f : Bool} (h : RBx w b v f) (u : Value) : RBx (w.setCell ⟨b, 0, none⟩ u) b u f := by
 unfold RBx at *
 simp [World.setCell, Array.getElem?_modify, h]
structure AB (w : World) (v : Value) (d : EntD) (z : Value) (X : World) : Prop where
 t : RBx X w.heap.size v false
 e : EBox X (w.heap.size + 1) d
 z : RBx X (w.heap.size + 2) z false
 below : Below w.heap.size w X
theorem AB.later {w X Y : World} {v z : Value} {d : EntD} (h : AB w v d z X) (b : Below X.heap.size X Y) : AB w v d z Y := ⟨h.t.later b, h.e.later b, h.z.later b, h.below.trans (b.mono h.below.size)⟩
theorem AB.keep {w X Y : World} {v z : Value} {d : EntD} (h : AB w v d z X) (b : Below (w.heap.size + 3) X Y) : AB w v d z Y :=
 ⟨h.t.keep (b.block _ (by omega)), h.e.keepA (b.block _ (by omega)), h.z.keep (b.block _ (by omega)), h.below.trans (b.mono (by omega))⟩
theorem AB.size {w X : World} {v z : Value} {d : EntD} (h : AB w v d z X) : w.heap.size + 3 ≤ X.heap.size := by have := h.z.lt; omega
theorem AB.e0 {w X : World} {v z : Value} {d : EntD} (h : AB w v d z X) (x : Value) (l : List Nat) : AB w v { d with vr := x, row := l } z (X.setCell ⟨w.heap.size + 1, 0, none⟩ x) :=
 ⟨h.t.keep (Below.heap_setCell _ _ _ _ (by simp)), h.e.set0 x l, h.z.keep (Below.heap_setCell _ _ _ _ (by simp)), h.below.setCell (by simp) _⟩
theorem AB.e2 {w X : World} {v z : Value} {d : EntD} (h : AB w v d z X) (x : Value) (l : List Nat) : AB w v { d with vq := x, qual := l } z (X.setCell ⟨w.heap.size + 1, 2, none⟩ x) :=
 ⟨h.t.keep (Below.heap_setCell _ _ _ _ (by simp)), h.e.set2 x l, h.z.keep (Below.heap_setCell _ _ _ _ (by simp)), h.below.setCell (by simp) _⟩
theorem AB.e6 {w X : World} {v z : Value} {d : EntD} (h : AB w v d z X) (x : Value) (l : List Nat) : AB w v { d with vv := x, val := l } z (X.setCell ⟨w.heap.size + 1, 6, none⟩ x) :=
 ⟨h.t.keep (Below.heap_setCell _ _ _ _ (by simp)), h.e.set6 x l, h.z.keep (Below.heap_setCell _ _ _ _ (by simp)), h.below.setCell (by simp) _⟩
theorem AB.t0 {w X : World} {v z : Value} {d : EntD} (h : AB w v d z X) (x : Value) : AB w x d z (X.setCell ⟨w.heap.size, 0, none⟩ x) :=
 ⟨h.t.set0 x, h.e.keepA (Below.heap_setCell _ _ _ _ (by simp)), h.z.keep (Below.heap_setCell _ _ _ _ (by simp)), h.below.setCell (Nat.le_refl _) _⟩
theorem AB.all {w X : World} {v z : Value} {d : EntD} (h : AB w v d z X) : (X.cell? ⟨w.heap.size, 0, none⟩ = some v ∧ X.cell? ⟨w.heap.size, 1, none⟩ = some (.bool false)) ∧ (X.cell? ⟨w.heap.size + 1, 0, none⟩ = some d.vr ∧ X.cell? ⟨w.heap.size + 1, 1, none⟩ = some (.int .i64 d.fam) ∧ X.cell? ⟨w.heap.size + 1, 2, none⟩ = some d.vq ∧ X.cell? ⟨w.heap.size + 1, 3, none⟩ = some (.int .i64 d.ts) ∧ X.cell? ⟨w.heap.size + 1, 4, none⟩ = some (.int .i64 d.seq) ∧ X.cell? ⟨w.heap.size + 1, 5, none⟩ = some (.int .i64 d.kind) ∧ X.cell? ⟨w.heap.size + 1, 6, none⟩ = some d.vv) ∧ (X.cell? ⟨w.heap.size + 1 + 1, 0, none⟩ = some z ∧ X.cell? ⟨w.heap.size + 1 + 1, 1, none⟩ = some (.bool false)) ∧ (X.frozen? ⟨w.heap.size, 0, none⟩ = false ∧ X.frozen? ⟨w.heap.size + 1, 0, none⟩ = false ∧ X.frozen? ⟨w.heap.size + 1, 2, none⟩ = false ∧ X.frozen? ⟨w.heap.size + 1, 6, none⟩ = false ∧ X.frozen? ⟨w.heap.size + 1 + 1, 0, none⟩ = false ∧ X.frozen? ⟨w.heap.size + 1 + 1, 1, none⟩ = false) :=
 ⟨⟨h.t.c0, h.t.c1⟩, ⟨h.e.vr, h.e.fam, h.e.vq, h.e.ts, h.e.seq, h.e.kind, h.e.vv⟩, ⟨h.z.c0, h.z.c1⟩, h.t.fz 0, h.e.fz 0, h.e.fz 2, h.e.fz 6, h.z.fz 0, h.z.fz 1⟩

structure Spot (L : List EntD) (e : EntD) (t : Nat) : Prop where
 le : t ≤ L.length
 lt : ∀ y ∈ L.take t, compareS y e < 0
 ge : ∀ x, L[t]? = some x → ¬ compareS x e < 0

def AddP (w : World) (lv0 : Value) (L : List EntD) (e : EntD) (z : Ending) (w' : World) : Prop := ∃ (c : Nat) (lv : Value) (L' : List EntD), z = .returned (.tuple #[.agg #[lv, .bool false], .int .i64 (c : Int)]) ∧ RdL w' lv L' ∧ Below w.heap.size w w' ∧
 ((checkS e ≠ 0 ∧ c = checkS e ∧ L' = L ∧ lv = lv0) ∨ (checkS e = 0 ∧ ∃ t, Spot L e t ∧ ((c = 80 ∧ (L' = L ∧ lv = lv0) ∧ ∃ x, L[t]? = some x ∧ compareS x e = 0) ∨ (c = 0 ∧ (∀ x, L[t]? = some x → compareS x e ≠ 0) ∧ ∃ x, EntD.Same x e ∧ L' = L.take t ++ x :: L.drop t ∧ EOk (fun i => w.heap.size ≤ i) w' x ∧ ∀ b, lv.ownBlock = some b → w.heap.size ≤ b))))

set_option maxRecDepth 100000 in
set_option maxHeartbeats 4000000 in
theorem refAdd_ok {w : World} {lv : Value} {L : List EntD} {e : EntD} (hl : RdL w lv L) (he : EntD.Ok w e) (hc : checkS e = 0) (hsz : L.length < 1000000) :
  Calls Tryz.prog 47 #[.agg #[lv, .bool false], .agg e.cells] w (AddP w lv L e) := by
 have HL := Lib.hid hl
 have A1 := (Below.refl w.heap.size w).alloc (Nat.le_refl _) (.cells #[lv, .bool false] 29)
 have A2 := A1.alloc A1.size (.cells e.cells 38)
 have bt := (RBx.new w lv false).later ((Below.refl _ (w.alloc (.cells #[lv, .bool false] 29))).alloc (Nat.le_refl _) (.cells e.cells 38))
 have be := EBox.new (w.alloc (.cells #[lv, .bool false] 29)) e
 rw [World.size_alloc] at be
 have A3 := A2.alloc A2.size (.cells #[.slice none 0 0, .bool false] 29)
 have bz := RBx.new ((w.alloc (.cells #[lv, .bool false] 29)).alloc (.cells e.cells 38)) (.slice none 0 0) false
 rw [World.size_alloc, World.size_alloc] at bz
 have l3 := (Below.refl _ ((w.alloc (.cells #[lv, .bool false] 29)).alloc (.cells e.cells 38))).alloc (Nat.le_refl _) (.cells #[.slice none 0 0, .bool false] 29)
 have bt := bt.later l3
 have be := be.later l3
 clear l3
 obtain ⟨a, ca, rfl, a1, a2, a3, a0, a4⟩ := hl
 obtain ⟨n, hn⟩ : ∃ n, n = L.length := ⟨_, rfl⟩
 rw [← hn] at hsz a1 a3 HL A1 A2 A3 bt be bz ⊢
 have HN : Hid (L.length = n) := hn.symm
 have HA4 := Lib.hid a4
 have HE := Lib.hid he
 obtain ⟨V, hV⟩ : ∃ V, V = ((w.alloc (.cells #[.slice a n ca, .bool false] 29)).alloc (.cells e.cells 38)).alloc (.cells #[.slice none 0 0, .bool false] 29) := ⟨_, rfl⟩
 rw [← hV] at A3 bt be bz
 have HV : Hid (V = _) := hV
 unfold EntD.cells at HV
 have HA2 := Lib.hid A3
 have HAB : Hid (∀ wx, Below V.heap.size V wx → AB w (.slice a n ca) e (.slice none 0 0) wx) := fun wx b => ⟨bt.later b, be.later b, bz.later b, A3.trans (b.mono A3.size)⟩
 have HCh : Hid (checkS e = 0) := hc
 have HLr : Hid (e.row.length ≤ 140737488355328 ∧ e.qual.length ≤ 140737488355328 ∧ e.val.length ≤ 140737488355328) := by
  have c := check_facts hc
  refine ⟨?_, ?_, ?_⟩ <;> omega
 have KB : Hid (∀ wx, Below V.heap.size V wx → wx.cell? ⟨w.heap.size, 0, none⟩ = some (.slice a n ca) ∧ wx.cell? ⟨w.heap.size, 1, none⟩ = some (.bool false) ∧ wx.cell? ⟨w.heap.size + 1, 0, none⟩ = some e.vr ∧ wx.cell? ⟨w.heap.size + 1, 1, none⟩ = some (.int .i64 e.fam) ∧ wx.cell? ⟨w.heap.size + 1, 2, none⟩ = some e.vq ∧ wx.cell? ⟨w.heap.size + 1, 3, none⟩ = some (.int .i64 e.ts) ∧ wx.cell? ⟨w.heap.size + 1, 4, none⟩ = some (.int .i64 e.seq) ∧ wx.cell? ⟨w.heap.size + 1, 5, none⟩ = some (.int .i64 e.kind) ∧ wx.cell? ⟨w.heap.size + 1, 6, none⟩ = some e.vv) := fun wx b => by
  have k1 := bt.later b
  have k2 := be.later b
  exact ⟨k1.c0, k1.c1, k2.vr, k2.fam, k2.vq, k2.ts, k2.seq, k2.kind, k2.vv⟩
 have HCk : Hid (∀ wx, Below V.heap.size V wx → Calls Tryz.prog 51 #[.agg #[e.vr, .int .i64 e.fam, e.vq, .int .i64 e.ts, .int .i64 e.seq, .int .i64 e.kind, e.vv]] wx fun r w' => r = .returned (.int .i64 0) ∧ Below wx.heap.size wx w') := fun wx b => by
  have := refCheck_any (he.later (A3.trans (b.mono A3.size)))
  rw [hc] at this
  exact this
 clear hn a4 he hV A1 A2 A3 bt be bz hc
 obtain ⟨c0, c1, d0, d1, d2, d3, d4, d5, d6⟩ := KB.out V (Below.refl _ _)
 unfold EntD.cells
 go_enter Tryz.func47, Tryz.ntmps47
 go_wp2_with fail
 rw [← HV.out]
 go_wp2_with fail
 refine Calls.mono (HCk.out _ (Below.refl _ _)) ?_
 rintro z w1 ⟨rfl, hb1⟩
 obtain ⟨c0', c1', d0', d1', d2', d3', d4', d5', d6'⟩ := KB.out w1 hb1
 have hmx : Tryz.prog.follows .mixedOrders = true := by kernel_rfl
 go_wp2
 clear c0 c1 d0 d1 d2 d3 d4 d5 d6 c0' c1' d0' d1' d2' d3' d4' d5' d6'
 go_loopw [7] (fun i wr => ∃ t : Nat, t ≤ n ∧ i = .int .i64 (t : Int) ∧ Hid (∀ y ∈ L.take t, compareS y e < 0) ∧ Below V.heap.size V wr) (fun i _ => n - (intOf i).toNat)
 case atStart => exact ⟨0, by omega, rfl, (fun y hy => by simp at hy), hb1⟩
 case round =>
  obtain ⟨t, htn, rfl, HT, hbk⟩ := hrel
  have HBK := Lib.hid hbk
  by_cases h1 : t < n
  ·have h1' : (t : Int) < (n : Int) := by omega
   have ht0 : (0 : Int) ≤ (t : Int) := by omega
   obtain ⟨x, hx⟩ : ∃ x, L[t]? = some x := ⟨L[t]'(by rw [HN.out]; exact h1), by simp⟩
   obtain ⟨ox, ba, oa, rfl, cx⟩ := HA4.out t x hx
   have KS : Hid (∀ wx, Below wr.heap.size wr wx → (wx.cell? ⟨w.heap.size, 0, none⟩ = some (.slice (some ⟨ba, oa, none⟩) n ca) ∧ wx.cell? ⟨w.heap.size, 1, none⟩ = some (.bool false) ∧ wx.cell? ⟨w.heap.size + 1, 0, none⟩ = some e.vr ∧ wx.cell? ⟨w.heap.size + 1, 1, none⟩ = some (.int .i64 e.fam) ∧ wx.cell? ⟨w.heap.size + 1, 2, none⟩ = some e.vq ∧ wx.cell? ⟨w.heap.size + 1, 3, none⟩ = some (.int .i64 e.ts) ∧ wx.cell? ⟨w.heap.size + 1, 4, none⟩ = some (.int .i64 e.seq) ∧ wx.cell? ⟨w.heap.size + 1, 5, none⟩ = some (.int .i64 e.kind) ∧ wx.cell? ⟨w.heap.size + 1, 6, none⟩ = some e.vv) ∧ (wx.cell? ⟨ba, oa + t * 7, none⟩ = some x.vr ∧ wx.cell? ⟨ba, oa + t * 7 + 1, none⟩ = some (.int .i64 x.fam) ∧ wx.cell? ⟨ba, oa + t * 7 + 2, none⟩ = some x.vq ∧ wx.cell? ⟨ba, oa + t * 7 + 3, none⟩ = some (.int .i64 x.ts) ∧ wx.cell? ⟨ba, oa + t * 7 + 4, none⟩ = some (.int .i64 x.seq) ∧ wx.cell? ⟨ba, oa + t * 7 + 5, none⟩ = some (.int .i64 x.kind) ∧ wx.cell? ⟨ba, oa + t * 7 + 6, none⟩ = some x.vv)) := fun wx b => by
    have k := (HBK.out.trans (b.mono HBK.out.size))
    exact ⟨KB.out _ k, cx.later (HA2.out.trans (k.mono HA2.out.size))⟩
   have HC : Hid (∀ Z, Below wr.heap.size wr Z → Calls Tryz.prog 34 #[.agg #[x.vr, .int .i64 x.fam, x.vq, .int .i64 x.ts, .int .i64 x.seq, .int .i64 x.kind, x.vv], .agg #[e.vr, .int .i64 e.fam, e.vq, .int .i64 e.ts, .int .i64 e.seq, .int .i64 e.kind, e.vv]] Z fun r w' => r = .returned (.int .i64 (compareS x e)) ∧ Below Z.heap.size Z w') := fun Z hZ => by
    have k := (HBK.out.trans (hZ.mono HBK.out.size))
    have k2 := HA2.out.trans (k.mono HA2.out.size)
    exact refCompare_any (ox.later k2) (HE.out.later k2)
   have HX : Hid (compareS x e < 0 → ∀ y ∈ L.take (t + 1), compareS y e < 0) := fun hc y hy => by
    rcases mem_take_succ hx hy with h | rfl
    ·exact HT.out y h
    ·exact hc
   have HXt : Hid (L[t]? = some x) := hx
   have HGe : Hid (¬ compareS x e < 0 → ∀ y, L[t]? = some y → ¬ compareS y e < 0) := fun h y hy => by
    rw [hx] at hy; cases hy; exact h
   have HNe : Hid (¬ compareS x e = 0 → ∀ y, L[t]? = some y → compareS y e ≠ 0) := fun h y hy => by
    rw [hx] at hy; cases hy; exact h
   obtain ⟨cc, hcc⟩ : ∃ cc, cc = compareS x e := ⟨_, rfl⟩
   rw [← hcc] at HC HX HGe HNe
   have HCC : Hid (cc = compareS x e) := hcc
   have D0 : Below wr.heap.size wr wr.drew := (Below.refl _ _).drew
   clear hx ox cx hbk hcc hb1
   by_cases hcz : cc < 0
   ·have hd : decide (cc < 0) = true := by simpa using hcz
    go_wp2_with fail
    go_region_held3 (fun wx => (wx.cell? ⟨w.heap.size, 0, none⟩ = some (.slice (some ⟨ba, oa, none⟩) n ca) ∧ wx.cell? ⟨w.heap.size, 1, none⟩ = some (.bool false) ∧ wx.cell? ⟨w.heap.size + 1, 0, none⟩ = some e.vr ∧ wx.cell? ⟨w.heap.size + 1, 1, none⟩ = some (.int .i64 e.fam) ∧ wx.cell? ⟨w.heap.size + 1, 2, none⟩ = some e.vq ∧ wx.cell? ⟨w.heap.size + 1, 3, none⟩ = some (.int .i64 e.ts) ∧ wx.cell? ⟨w.heap.size + 1, 4, none⟩ = some (.int .i64 e.seq) ∧ wx.cell? ⟨w.heap.size + 1, 5, none⟩ = some (.int .i64 e.kind) ∧ wx.cell? ⟨w.heap.size + 1, 6, none⟩ = some e.vv) ∧ (wx.cell? ⟨ba, oa + t * 7, none⟩ = some x.vr ∧ wx.cell? ⟨ba, oa + t * 7 + 1, none⟩ = some (.int .i64 x.fam) ∧ wx.cell? ⟨ba, oa + t * 7 + 2, none⟩ = some x.vq ∧ wx.cell? ⟨ba, oa + t * 7 + 3, none⟩ = some (.int .i64 x.ts) ∧ wx.cell? ⟨ba, oa + t * 7 + 4, none⟩ = some (.int .i64 x.seq) ∧ wx.cell? ⟨ba, oa + t * 7 + 5, none⟩ = some (.int .i64 x.kind) ∧ wx.cell? ⟨ba, oa + t * 7 + 6, none⟩ = some x.vv)) (first | exact KS.out _ D1 | exact KS.out _ D0) ((go_at_call 34; refine Calls.mono (HC.out _ D0) ?_; rintro e1 w1 ⟨rfl, hb1⟩; have D1 := D0.trans (hb1.mono D0.size)))
    go_wp2
    go_roundw
    case rel => exact ⟨t + 1, by omega, by go_num, HX.out hcz, HBK.out.trans (D1.mono HBK.out.size)⟩
    case measure => simp [intOf]; omega
   ·have hd : decide (cc < 0) = false := by simpa using hcz
    go_wp2_with fail
    go_region_held3 (fun wx => (wx.cell? ⟨w.heap.size, 0, none⟩ = some (.slice (some ⟨ba, oa, none⟩) n ca) ∧ wx.cell? ⟨w.heap.size, 1, none⟩ = some (.bool false) ∧ wx.cell? ⟨w.heap.size + 1, 0, none⟩ = some e.vr ∧ wx.cell? ⟨w.heap.size + 1, 1, none⟩ = some (.int .i64 e.fam) ∧ wx.cell? ⟨w.heap.size + 1, 2, none⟩ = some e.vq ∧ wx.cell? ⟨w.heap.size + 1, 3, none⟩ = some (.int .i64 e.ts) ∧ wx.cell? ⟨w.heap.size + 1, 4, none⟩ = some (.int .i64 e.seq) ∧ wx.cell? ⟨w.heap.size + 1, 5, none⟩ = some (.int .i64 e.kind) ∧ wx.cell? ⟨w.heap.size + 1, 6, none⟩ = some e.vv) ∧ (wx.cell? ⟨ba, oa + t * 7, none⟩ = some x.vr ∧ wx.cell? ⟨ba, oa + t * 7 + 1, none⟩ = some (.int .i64 x.fam) ∧ wx.cell? ⟨ba, oa + t * 7 + 2, none⟩ = some x.vq ∧ wx.cell? ⟨ba, oa + t * 7 + 3, none⟩ = some (.int .i64 x.ts) ∧ wx.cell? ⟨ba, oa + t * 7 + 4, none⟩ = some (.int .i64 x.seq) ∧ wx.cell? ⟨ba, oa + t * 7 + 5, none⟩ = some (.int .i64 x.kind) ∧ wx.cell? ⟨ba, oa + t * 7 + 6, none⟩ = some x.vv)) (first | exact KS.out _ D1 | exact KS.out _ D0) ((go_at_call 34; refine Calls.mono (HC.out _ D0) ?_; rintro e1 w1 ⟨rfl, hb1⟩; have D1 := D0.trans (hb1.mono D0.size)))
    have HC2 := Lib.hid (fun Z (hZ : Below w1.heap.size w1 Z) => HC.out Z (D1.trans (hZ.mono D1.size)))
    have KS2 := Lib.hid (fun Z (hZ : Below w1.heap.size w1 Z) => KS.out Z (D1.trans (hZ.mono D1.size)))
    have HBK2 : Hid (Below V.heap.size V w1) := HBK.out.trans (D1.mono HBK.out.size)
    have E0 : Below w1.heap.size w1 w1.drew := (Below.refl _ _).drew
    clear HC KS HBK D0 D1 hb1
    go_wp2_with fail
    by_cases hz : cc = 0
    ·have hz' : decide (cc = 0) = true := by simpa using hz
     go_region_held3 (fun wx => (wx.cell? ⟨w.heap.size, 0, none⟩ = some (.slice (some ⟨ba, oa, none⟩) n ca) ∧ wx.cell? ⟨w.heap.size, 1, none⟩ = some (.bool false) ∧ wx.cell? ⟨w.heap.size + 1, 0, none⟩ = some e.vr ∧ wx.cell? ⟨w.heap.size + 1, 1, none⟩ = some (.int .i64 e.fam) ∧ wx.cell? ⟨w.heap.size + 1, 2, none⟩ = some e.vq ∧ wx.cell? ⟨w.heap.size + 1, 3, none⟩ = some (.int .i64 e.ts) ∧ wx.cell? ⟨w.heap.size + 1, 4, none⟩ = some (.int .i64 e.seq) ∧ wx.cell? ⟨w.heap.size + 1, 5, none⟩ = some (.int .i64 e.kind) ∧ wx.cell? ⟨w.heap.size + 1, 6, none⟩ = some e.vv) ∧ (wx.cell? ⟨ba, oa + t * 7, none⟩ = some x.vr ∧ wx.cell? ⟨ba, oa + t * 7 + 1, none⟩ = some (.int .i64 x.fam) ∧ wx.cell? ⟨ba, oa + t * 7 + 2, none⟩ = some x.vq ∧ wx.cell? ⟨ba, oa + t * 7 + 3, none⟩ = some (.int .i64 x.ts) ∧ wx.cell? ⟨ba, oa + t * 7 + 4, none⟩ = some (.int .i64 x.seq) ∧ wx.cell? ⟨ba, oa + t * 7 + 5, none⟩ = some (.int .i64 x.kind) ∧ wx.cell? ⟨ba, oa + t * 7 + 6, none⟩ = some x.vv)) (first | exact KS2.out _ D1 | exact KS2.out _ E0) ((go_at_call 34; refine Calls.mono (HC2.out _ E0) ?_; rintro e1 w2 ⟨rfl, hb1⟩; have D1 := E0.trans (hb1.mono E0.size); obtain ⟨⟨c0, c1⟩, -, ⟨z0, z1⟩, -, -, -, -, f5, f6⟩ := (HAB.out _ (HBK2.out.trans (D1.mono HBK2.out.size))).all))
     have k := HBK2.out.trans (D1.mono HBK2.out.size)
     have HK := Lib.hid k
     clear k
     go_wp2
     (try simp only [Exit.inBlock, Exit.then])
     refine bodyPost_ret (v := .tuple #[.agg #[.slice (some ⟨ba, oa, none⟩) n ca, .bool false], .int .i64 80]) ((results_cell_tmp rfl _ _ _).trans ?_) rfl ?_
     ·go_simp
     have k2 := (HA2.out.trans (HK.out.mono HA2.out.size))
     have k3 := fun u u' => (k2.setCell (p := ⟨w.heap.size + 1 + 1, 0, none⟩) (by show w.heap.size ≤ w.heap.size + 1 + 1; omega) u).setCell (p := ⟨w.heap.size + 1 + 1, 1, none⟩) (by show w.heap.size ≤ w.heap.size + 1 + 1; omega) u'
     exact ⟨80, _, L, rfl, HL.out.later (k3 _ _), k3 _ _, .inr ⟨HCh.out, t, ⟨by rw [HN.out]; exact htn, HT.out, fun y hy => Int.not_lt.2 (HGe.out hcz y hy)⟩, .inl ⟨rfl, ⟨rfl, rfl⟩, x, HXt.out, by rw [← HCC.out]; exact hz⟩⟩⟩
    ·have hz' : decide (cc = 0) = false := by simpa using hz
     go_region_held3 (fun wx => (wx.cell? ⟨w.heap.size, 0, none⟩ = some (.slice (some ⟨ba, oa, none⟩) n ca) ∧ wx.cell? ⟨w.heap.size, 1, none⟩ = some (.bool false) ∧ wx.cell? ⟨w.heap.size + 1, 0, none⟩ = some e.vr ∧ wx.cell? ⟨w.heap.size + 1, 1, none⟩ = some (.int .i64 e.fam) ∧ wx.cell? ⟨w.heap.size + 1, 2, none⟩ = some e.vq ∧ wx.cell? ⟨w.heap.size + 1, 3, none⟩ = some (.int .i64 e.ts) ∧ wx.cell? ⟨w.heap.size + 1, 4, none⟩ = some (.int .i64 e.seq) ∧ wx.cell? ⟨w.heap.size + 1, 5, none⟩ = some (.int .i64 e.kind) ∧ wx.cell? ⟨w.heap.size + 1, 6, none⟩ = some e.vv) ∧ (wx.cell? ⟨ba, oa + t * 7, none⟩ = some x.vr ∧ wx.cell? ⟨ba, oa + t * 7 + 1, none⟩ = some (.int .i64 x.fam) ∧ wx.cell? ⟨ba, oa + t * 7 + 2, none⟩ = some x.vq ∧ wx.cell? ⟨ba, oa + t * 7 + 3, none⟩ = some (.int .i64 x.ts) ∧ wx.cell? ⟨ba, oa + t * 7 + 4, none⟩ = some (.int .i64 x.seq) ∧ wx.cell? ⟨ba, oa + t * 7 + 5, none⟩ = some (.int .i64 x.kind) ∧ wx.cell? ⟨ba, oa + t * 7 + 6, none⟩ = some x.vv)) (first | exact KS2.out _ D1 | exact KS2.out _ E0) ((go_at_call 34; refine Calls.mono (HC2.out _ E0) ?_; rintro e1 w2 ⟨rfl, hb1⟩; have D1 := E0.trans (hb1.mono E0.size); obtain ⟨⟨c0, c1, d0, d1, d2, d3, d4, d5, d6⟩, -⟩ := KS2.out _ D1))
     have HAB0 := Lib.hid (HAB.out _ (HBK2.out.trans (D1.mono HBK2.out.size)))
     clear D1 E0 hb1 KS2 HC2 HBK2
     go_wp2_with fail
     refine (copied8_any (v := e.vr) (bs := e.row) (HE.out.1.later HAB0.out.below) HLr.out.1).mono ?_
     rintro y1 X1 ⟨a1, m1, q1, rfl, own1, hb1⟩
     have HR1 := Lib.hid (RdG.of_own (G := fun i => w.heap.size ≤ i) own1 HE.out.1.1 (by have := own1.1; have := HLr.out.1; omega) (fun i hi => Nat.le_trans HAB0.out.below.size hi))
     have HU1 := Lib.hid (KU.of hb1)
     have HB1 := Lib.hid (HAB0.out.later hb1)
     have HC1 := Lib.hid (HB1.out.e0 (.slice a1 m1 q1) e.row)
     have HW1 := Lib.hid (KU.set HB1.out.e (by decide) 0 (.slice a1 m1 q1))
     obtain ⟨⟨c0, c1⟩, ⟨d0, d1, d2, d3, d4, d5, d6⟩, ⟨z0, z1⟩, f1, f2, f3, f4, f5, f6⟩ := HB1.out.all
     clear own1 hb1
     go_wp2_with fail
     refine (copied8_any (v := e.vq) (bs := e.qual) (HE.out.2.1.later HC1.out.below) HLr.out.2.1).mono ?_
     rintro y2 X2 ⟨a2, m2, q2, rfl, own2, hb2⟩
     have HR2 := Lib.hid (RdG.of_own (G := fun i => w.heap.size ≤ i) own2 HE.out.2.1.1 (by have := own2.1; have := HLr.out.2.1; omega) (fun i hi => Nat.le_trans HC1.out.below.size hi))
     have HU2 := Lib.hid (KU.of hb2)
     have HB2 := Lib.hid (HC1.out.later hb2)
     have HC2 := Lib.hid (HB2.out.e2 (.slice a2 m2 q2) e.qual)
     have HW2 := Lib.hid (KU.set HB2.out.e (by decide) 2 (.slice a2 m2 q2))
     obtain ⟨⟨c0, c1⟩, ⟨d0, d1, d2, d3, d4, d5, d6⟩, ⟨z0, z1⟩, f1, f2, f3, f4, f5, f6⟩ := HB2.out.all
     clear own2 hb2
     go_wp2_with fail
     refine (copied8_any (v := e.vv) (bs := e.val) (HE.out.2.2.later HC2.out.below) HLr.out.2.2).mono ?_
     rintro y3 X3 ⟨a3, m3, q3, rfl, own3, hb3⟩
     have HR3 := Lib.hid (RdG.of_own (G := fun i => w.heap.size ≤ i) own3 HE.out.2.2.1 (by have := own3.1; have := HLr.out.2.2; omega) (fun i hi => Nat.le_trans HC2.out.below.size hi))
     have HU3 := Lib.hid (KU.of hb3)
     have HB3 := Lib.hid (HC2.out.later hb3)
     have HC3 := Lib.hid (HB3.out.e6 (.slice a3 m3 q3) e.val)
     have HW3 := Lib.hid (KU.set HB3.out.e (by decide) 6 (.slice a3 m3 q3))
     obtain ⟨⟨c0, c1⟩, ⟨d0, d1, d2, d3, d4, d5, d6⟩, ⟨z0, z1⟩, f1, f2, f3, f4, f5, f6⟩ := HB3.out.all
     clear own3 hb3
     obtain ⟨d, hd⟩ : ∃ d : EntD, d = ⟨.slice a1 m1 q1, e.fam, .slice a2 m2 q2, e.ts, e.seq, e.kind, .slice a3 m3 q3, e.row, e.qual, e.val⟩ := ⟨_, rfl⟩
     have HOk : Hid (∀ Y, KU (X3.setCell ⟨w.heap.size + 1, 6, none⟩ (.slice a3 m3 q3)) Y → EOk (fun i => w.heap.size ≤ i) Y d) := fun Y ku => by
      rw [hd]
      exact ⟨((((((HR1.out.ku HW1.out).ku HU2.out).ku HW2.out).ku HU3.out).ku HW3.out).ku ku), ((((HR2.out.ku HW2.out).ku HU3.out).ku HW3.out).ku ku), ((HR3.out.ku HW3.out).ku ku)⟩
     have HSm : Hid (EntD.Same d e) := by rw [hd]; exact ⟨rfl, rfl, rfl, rfl, rfl, rfl, rfl⟩
     have HDc : Hid (d.cells = #[.slice a1 m1 q1, .int .i64 e.fam, .slice a2 m2 q2, .int .i64 e.ts, .int .i64 e.seq, .int .i64 e.kind, .slice a3 m3 q3]) := by rw [hd]; rfl
     have HC3s : Hid (w.heap.size + 3 ≤ (X3.setCell ⟨w.heap.size + 1, 6, none⟩ (.slice a3 m3 q3)).heap.size) := HC3.out.size
     clear hd HR1 HR2 HR3 HU1 HU2 HU3 HW1 HW2 HW3
     have HRd : Hid (∀ Z, KU (X3.setCell ⟨w.heap.size + 1, 6, none⟩ (.slice a3 m3 q3)) Z → RdL (Z.alloc (.cells #[.slice a1 m1 q1, .int .i64 e.fam, .slice a2 m2 q2, .int .i64 e.ts, .int .i64 e.seq, .int .i64 e.kind, .slice a3 m3 q3] 38)) (.slice (some ⟨Z.heap.size, 0, none⟩) 1 1) [d]) := fun Z ku => by
      rw [← HDc.out]
      have eb := EBox.new Z d
      refine ⟨_, 1, rfl, Nat.le_refl _, by unfold maxLen; omega, by simp, .inr ⟨_, _, rfl⟩, fun i x hx => ?_⟩
      obtain ⟨rfl, rfl⟩ : i = 0 ∧ x = d := by
       cases i with
       | zero => simp at hx; exact ⟨rfl, hx.symm⟩
       | succ i => simp at hx
      exact ⟨(HOk.out _ (ku.trans (KU.of ((Below.refl Z.heap.size Z).alloc (Nat.le_refl _) _)))).ok, Z.heap.size, 0, rfl, show Cs _ _ 0 x from ⟨eb.vr, eb.fam, eb.vq, eb.ts, eb.seq, eb.kind, eb.vv⟩⟩
     have HDr : Hid (∀ Z, Below w.heap.size w Z → RdL Z (.slice (some ⟨ba, oa + t * 7, none⟩) (n - t) (ca - t)) (L.drop t)) := fun Z b => (HL.out.later b).drop htn
     go_wp2_with (first | (at_builtin; refine wpList_append_ents rfl _ _ rfl (w.heap.size + 3) _ [] rfl (World.ownsRow_nil _ _ _ _) _ (L.take t) rfl ((HL.out.later HC3.out.below).take htn) (by simp only [List.length_take, HN.out, List.length_nil]; omega) HC3s.out ?_; intro ma mn mc Z1 hn1 own1 b1 ku1; have HD1 := Lib.hid (HC3.out.keep b1); obtain ⟨⟨c0, c1⟩, ⟨d0, d1, d2, d3, d4, d5, d6⟩, ⟨z0, z1⟩, f1, f2, f3, f4, f5, f6⟩ := HD1.out.all; have HO1 := Lib.hid own1; have HK1 := Lib.hid ku1; have HN1 := Lib.hid hn1; clear own1 ku1 hn1 b1) | (at_builtin; refine wpList_append_ents rfl _ _ rfl (w.heap.size + 3) _ ([] ++ L.take t) rfl (HO1.out.alloc _) _ [d] rfl (HRd.out Z1 HK1.out) (by simp only [List.length_append, List.length_take, HN.out, List.length_cons, List.length_nil]; omega) (by rw [World.size_alloc]; have := HD1.out.size; omega) ?_; intro mb mo mp Z2 hn2 own2 b2 ku2; have HD2 := Lib.hid (AB.keep (HD1.out.later ((Below.refl Z1.heap.size Z1).alloc (Nat.le_refl _) _)) b2); obtain ⟨⟨c0, c1⟩, ⟨d0, d1, d2, d3, d4, d5, d6⟩, ⟨z0, z1⟩, f1, f2, f3, f4, f5, f6⟩ := HD2.out.all; have HO2 := Lib.hid own2; have HK2 := Lib.hid ((KU.of ((Below.refl Z1.heap.size Z1).alloc (Nat.le_refl _) _)).trans ku2); have HN2 := Lib.hid hn2; clear own2 ku2 hn2 b2) | (at_builtin; refine wpList_append_ents rfl _ _ rfl (w.heap.size + 3) _ (([] ++ L.take t) ++ [d]) rfl HO2.out _ (L.drop t) rfl (HDr.out _ HD2.out.below) (by simp only [List.length_append, List.length_take, List.length_drop, HN.out, List.length_cons, List.length_nil]; omega) HD2.out.size ?_; intro mx my mz Z3 hn3 own3 b3 ku3; have HD3 := Lib.hid (HD2.out.keep b3); obtain ⟨⟨c0, c1⟩, ⟨d0, d1, d2, d3, d4, d5, d6⟩, ⟨z0, z1⟩, f1, f2, f3, f4, f5, f6⟩ := HD3.out.all; have HO3 := Lib.hid own3; have HK3 := Lib.hid ku3; have HN3 := Lib.hid hn3; clear own3 ku3 hn3 b3))
     (try simp only [Exit.inBlock, Exit.then])
     refine bodyPost_ret (v := .tuple #[.agg #[.slice mx my mz, .bool false], .int .i64 0]) ((results_cell_tmp rfl _ _ _).trans ?_) rfl ?_
     ·go_simp
     have hF := ((HD3.out.below.setCell (p := ⟨w.heap.size, 0, none⟩) (Nat.le_refl _) (.slice mx my mz)).setCell (p := ⟨w.heap.size + 1 + 1, 0, none⟩) (by show w.heap.size ≤ w.heap.size + 1 + 1; omega) (.slice mx my mz)).setCell (p := ⟨w.heap.size + 1 + 1, 1, none⟩) (by show w.heap.size ≤ w.heap.size + 1 + 1; omega) (.bool false)
     have kF := ((HK1.out.trans HK2.out).trans HK3.out).trans (((KU.set HD3.out.t (by decide) 0 (.slice mx my mz)).trans (KU.set (HD3.out.t0 (.slice mx my mz)).z (by decide) 0 (.slice mx my mz))).trans (KU.set (RBx.set0 (HD3.out.t0 (.slice mx my mz)).z (.slice mx my mz)) (by decide) 1 (.bool false)))
     have oF := ownsRow_setCell_below (ownsRow_setCell_below (ownsRow_setCell_below HO3.out (a := ⟨w.heap.size, 0, none⟩) (show w.heap.size < w.heap.size + 3 by omega) (.slice mx my mz)) (a := ⟨w.heap.size + 1 + 1, 0, none⟩) (show w.heap.size + 1 + 1 < w.heap.size + 3 by omega) (.slice mx my mz)) (a := ⟨w.heap.size + 1 + 1, 1, none⟩) (show w.heap.size + 1 + 1 < w.heap.size + 3 by omega) (.bool false)
     have eL : [] ++ L.take t ++ [d] ++ L.drop t = L.take t ++ d :: L.drop t := by simp
     rw [eL] at oF
     refine ⟨0, _, _, rfl, RdL.of oF (fun y hy => ?_) (by simp only [List.length_append, List.length_take, List.length_drop, HN.out, List.length_cons]; omega), hF, .inr ⟨HCh.out, t, ⟨by rw [HN.out]; exact htn, HT.out, fun y hy => Int.not_lt.2 (HGe.out hcz y hy)⟩, .inr ⟨rfl, HNe.out hz, d, HSm.out, rfl, HOk.out _ kF, fun b hb => ?_⟩⟩⟩
     rotate_left
     ·have := (own_at oF hb).1
      omega
     simp only [List.mem_append, List.mem_cons] at hy
     rcases hy with hy | rfl | hy
     ·obtain ⟨j, hj⟩ := List.getElem?_of_mem (List.mem_of_mem_take hy)
      exact (HA4.out j y hj).1.later hF
     ·exact (HOk.out _ kF).ok
     ·obtain ⟨j, hj⟩ := List.getElem?_of_mem (List.mem_of_mem_drop hy)
      exact (HA4.out j y hj).1.later hF
  ·have h1' : (n : Int) ≤ (t : Int) := by omega
   have hdd : decide ((t : Int) < (n : Int)) = false := by simp; omega
   have e1 := (HBK.out.trans ((Below.refl wr.heap.size wr).drew.mono HBK.out.size))
   obtain ⟨c0, c1, d0, d1, d2, d3, d4, d5, d6⟩ := KB.out _ e1
   clear hbk hb1 HBK
   go_wp2_with fail
   go_region
   go_wp2_with fail
   have e2 := (e1.trans ((Below.refl wr.drew.heap.size wr.drew).drew.mono e1.size))
   obtain ⟨c0, c1, d0, d1, d2, d3, d4, d5, d6⟩ := KB.out _ e2
   go_region
   have HAB0 := Lib.hid (HAB.out _ e2)
   clear e1 e2
   have HGn : Hid (∀ y, L[t]? = some y → False) := fun y hy => by
    have := (List.getElem?_eq_some_iff.1 hy).1
    rw [HN.out] at this
    omega
   rcases a0 with ⟨rfl, rfl⟩ | ⟨ba, oa, rfl⟩
   ·obtain rfl : n = 0 := by omega
    obtain rfl : t = 0 := by omega
    go_wp2_with fail
    refine (copied8_any (v := e.vr) (bs := e.row) (HE.out.1.later HAB0.out.below) HLr.out.1).mono ?_
    rintro y1 X1 ⟨a1, m1, q1, rfl, own1, hb1⟩
    have HR1 := Lib.hid (RdG.of_own (G := fun i => w.heap.size ≤ i) own1 HE.out.1.1 (by have := own1.1; have := HLr.out.1; omega) (fun i hi => Nat.le_trans HAB0.out.below.size hi))
    have HU1 := Lib.hid (KU.of hb1)
    have HB1 := Lib.hid (HAB0.out.later hb1)
    have HC1 := Lib.hid (HB1.out.e0 (.slice a1 m1 q1) e.row)
    have HW1 := Lib.hid (KU.set HB1.out.e (by decide) 0 (.slice a1 m1 q1))
    obtain ⟨⟨c0, c1⟩, ⟨d0, d1, d2, d3, d4, d5, d6⟩, ⟨z0, z1⟩, f1, f2, f3, f4, f5, f6⟩ := HB1.out.all
    clear own1 hb1
    go_wp2_with fail
    refine (copied8_any (v := e.vq) (bs := e.qual) (HE.out.2.1.later HC1.out.below) HLr.out.2.1).mono ?_
    rintro y2 X2 ⟨a2, m2, q2, rfl, own2, hb2⟩
    have HR2 := Lib.hid (RdG.of_own (G := fun i => w.heap.size ≤ i) own2 HE.out.2.1.1 (by have := own2.1; have := HLr.out.2.1; omega) (fun i hi => Nat.le_trans HC1.out.below.size hi))
    have HU2 := Lib.hid (KU.of hb2)
    have HB2 := Lib.hid (HC1.out.later hb2)
    have HC2 := Lib.hid (HB2.out.e2 (.slice a2 m2 q2) e.qual)
    have HW2 := Lib.hid (KU.set HB2.out.e (by decide) 2 (.slice a2 m2 q2))
    obtain ⟨⟨c0, c1⟩, ⟨d0, d1, d2, d3, d4, d5, d6⟩, ⟨z0, z1⟩, f1, f2, f3, f4, f5, f6⟩ := HB2.out.all
    clear own2 hb2
    go_wp2_with fail
    refine (copied8_any (v := e.vv) (bs := e.val) (HE.out.2.2.later HC2.out.below) HLr.out.2.2).mono ?_
    rintro y3 X3 ⟨a3, m3, q3, rfl, own3, hb3⟩
    have HR3 := Lib.hid (RdG.of_own (G := fun i => w.heap.size ≤ i) own3 HE.out.2.2.1 (by have := own3.1; have := HLr.out.2.2; omega) (fun i hi => Nat.le_trans HC2.out.below.size hi))
    have HU3 := Lib.hid (KU.of hb3)
    have HB3 := Lib.hid (HC2.out.later hb3)
    have HC3 := Lib.hid (HB3.out.e6 (.slice a3 m3 q3) e.val)
    have HW3 := Lib.hid (KU.set HB3.out.e (by decide) 6 (.slice a3 m3 q3))
    obtain ⟨⟨c0, c1⟩, ⟨d0, d1, d2, d3, d4, d5, d6⟩, ⟨z0, z1⟩, f1, f2, f3, f4, f5, f6⟩ := HB3.out.all
    clear own3 hb3
    obtain ⟨d, hd⟩ : ∃ d : EntD, d = ⟨.slice a1 m1 q1, e.fam, .slice a2 m2 q2, e.ts, e.seq, e.kind, .slice a3 m3 q3, e.row, e.qual, e.val⟩ := ⟨_, rfl⟩
    have HOk : Hid (∀ Y, KU (X3.setCell ⟨w.heap.size + 1, 6, none⟩ (.slice a3 m3 q3)) Y → EOk (fun i => w.heap.size ≤ i) Y d) := fun Y ku => by
     rw [hd]
     exact ⟨((((((HR1.out.ku HW1.out).ku HU2.out).ku HW2.out).ku HU3.out).ku HW3.out).ku ku), ((((HR2.out.ku HW2.out).ku HU3.out).ku HW3.out).ku ku), ((HR3.out.ku HW3.out).ku ku)⟩
    have HSm : Hid (EntD.Same d e) := by rw [hd]; exact ⟨rfl, rfl, rfl, rfl, rfl, rfl, rfl⟩
    have HDc : Hid (d.cells = #[.slice a1 m1 q1, .int .i64 e.fam, .slice a2 m2 q2, .int .i64 e.ts, .int .i64 e.seq, .int .i64 e.kind, .slice a3 m3 q3]) := by rw [hd]; rfl
    have HC3s : Hid (w.heap.size + 3 ≤ (X3.setCell ⟨w.heap.size + 1, 6, none⟩ (.slice a3 m3 q3)).heap.size) := HC3.out.size
    clear hd HR1 HR2 HR3 HU1 HU2 HU3 HW1 HW2 HW3
    have HRd : Hid (∀ Z, KU (X3.setCell ⟨w.heap.size + 1, 6, none⟩ (.slice a3 m3 q3)) Z → RdL (Z.alloc (.cells #[.slice a1 m1 q1, .int .i64 e.fam, .slice a2 m2 q2, .int .i64 e.ts, .int .i64 e.seq, .int .i64 e.kind, .slice a3 m3 q3] 38)) (.slice (some ⟨Z.heap.size, 0, none⟩) 1 1) [d]) := fun Z ku => by
     rw [← HDc.out]
     have eb := EBox.new Z d
     refine ⟨_, 1, rfl, Nat.le_refl _, by unfold maxLen; omega, by simp, .inr ⟨_, _, rfl⟩, fun i x hx => ?_⟩
     obtain ⟨rfl, rfl⟩ : i = 0 ∧ x = d := by
      cases i with
      | zero => simp at hx; exact ⟨rfl, hx.symm⟩
      | succ i => simp at hx
     exact ⟨(HOk.out _ (ku.trans (KU.of ((Below.refl Z.heap.size Z).alloc (Nat.le_refl _) _)))).ok, Z.heap.size, 0, rfl, show Cs _ _ 0 x from ⟨eb.vr, eb.fam, eb.vq, eb.ts, eb.seq, eb.kind, eb.vv⟩⟩
    have HDr : Hid (∀ Z, Below w.heap.size w Z → RdL Z (.slice none 0 0) (L.drop 0)) := fun Z b => by have := HL.out.later b; simpa using this
    go_wp2_with (first | (at_builtin; refine wpList_append_ents rfl _ _ rfl (w.heap.size + 3) _ [] rfl (World.ownsRow_nil _ _ _ _) _ (L.take 0) rfl ((HL.out.later HC3.out.below).take htn) (by simp only [List.length_take, HN.out, List.length_nil]; omega) HC3s.out ?_; intro ma mn mc Z1 hn1 own1 b1 ku1; have HD1 := Lib.hid (HC3.out.keep b1); obtain ⟨⟨c0, c1⟩, ⟨d0, d1, d2, d3, d4, d5, d6⟩, ⟨z0, z1⟩, f1, f2, f3, f4, f5, f6⟩ := HD1.out.all; have HO1 := Lib.hid own1; have HK1 := Lib.hid ku1; have HN1 := Lib.hid hn1; clear own1 ku1 hn1 b1) | (at_builtin; refine wpList_append_ents rfl _ _ rfl (w.heap.size + 3) _ ([] ++ L.take 0) rfl (HO1.out.alloc _) _ [d] rfl (HRd.out Z1 HK1.out) (by simp only [List.length_append, List.length_take, HN.out, List.length_cons, List.length_nil]; omega) (by rw [World.size_alloc]; have := HD1.out.size; omega) ?_; intro mb mo mp Z2 hn2 own2 b2 ku2; have HD2 := Lib.hid (AB.keep (HD1.out.later ((Below.refl Z1.heap.size Z1).alloc (Nat.le_refl _) _)) b2); obtain ⟨⟨c0, c1⟩, ⟨d0, d1, d2, d3, d4, d5, d6⟩, ⟨z0, z1⟩, f1, f2, f3, f4, f5, f6⟩ := HD2.out.all; have HO2 := Lib.hid own2; have HK2 := Lib.hid ((KU.of ((Below.refl Z1.heap.size Z1).alloc (Nat.le_refl _) _)).trans ku2); have HN2 := Lib.hid hn2; clear own2 ku2 hn2 b2) | (at_builtin; refine wpList_append_ents rfl _ _ rfl (w.heap.size + 3) _ (([] ++ L.take 0) ++ [d]) rfl HO2.out _ (L.drop 0) rfl (HDr.out _ HD2.out.below) (by simp only [List.length_append, List.length_take, List.length_drop, HN.out, List.length_cons, List.length_nil]; omega) HD2.out.size ?_; intro mx my mz Z3 hn3 own3 b3 ku3; have HD3 := Lib.hid (HD2.out.keep b3); obtain ⟨⟨c0, c1⟩, ⟨d0, d1, d2, d3, d4, d5, d6⟩, ⟨z0, z1⟩, f1, f2, f3, f4, f5, f6⟩ := HD3.out.all; have HO3 := Lib.hid own3; have HK3 := Lib.hid ku3; have HN3 := Lib.hid hn3; clear own3 ku3 hn3 b3))
    (try simp only [Exit.inBlock, Exit.then])
    refine bodyPost_ret (v := .tuple #[.agg #[.slice mx my mz, .bool false], .int .i64 0]) ((results_cell_tmp rfl _ _ _).trans ?_) rfl ?_
    ·go_simp
    have hF := ((HD3.out.below.setCell (p := ⟨w.heap.size, 0, none⟩) (Nat.le_refl _) (.slice mx my mz)).setCell (p := ⟨w.heap.size + 1 + 1, 0, none⟩) (by show w.heap.size ≤ w.heap.size + 1 + 1; omega) (.slice mx my mz)).setCell (p := ⟨w.heap.size + 1 + 1, 1, none⟩) (by show w.heap.size ≤ w.heap.size + 1 + 1; omega) (.bool false)
    have kF := ((HK1.out.trans HK2.out).trans HK3.out).trans (((KU.set HD3.out.t (by decide) 0 (.slice mx my mz)).trans (KU.set (HD3.out.t0 (.slice mx my mz)).z (by decide) 0 (.slice mx my mz))).trans (KU.set (RBx.set0 (HD3.out.t0 (.slice mx my mz)).z (.slice mx my mz)) (by decide) 1 (.bool false)))
    have oF := ownsRow_setCell_below (ownsRow_setCell_below (ownsRow_setCell_below HO3.out (a := ⟨w.heap.size, 0, none⟩) (show w.heap.size < w.heap.size + 3 by omega) (.slice mx my mz)) (a := ⟨w.heap.size + 1 + 1, 0, none⟩) (show w.heap.size + 1 + 1 < w.heap.size + 3 by omega) (.slice mx my mz)) (a := ⟨w.heap.size + 1 + 1, 1, none⟩) (show w.heap.size + 1 + 1 < w.heap.size + 3 by omega) (.bool false)
    have eL : [] ++ L.take 0 ++ [d] ++ L.drop 0 = L.take 0 ++ d :: L.drop 0 := by simp
    rw [eL] at oF
    refine ⟨0, _, _, rfl, RdL.of oF (fun y hy => ?_) (by simp only [List.length_append, List.length_take, List.length_drop, HN.out, List.length_cons]; omega), hF, .inr ⟨HCh.out, 0, ⟨by rw [HN.out]; exact htn, HT.out, fun y hy => (HGn.out y hy).elim⟩, .inr ⟨rfl, fun y hy => (HGn.out y hy).elim, d, HSm.out, rfl, HOk.out _ kF, fun b hb => ?_⟩⟩⟩
    rotate_left
    ·have := (own_at oF hb).1
     omega
    simp only [List.mem_append, List.mem_cons] at hy
    rcases hy with hy | rfl | hy
    ·obtain ⟨j, hj⟩ := List.getElem?_of_mem (List.mem_of_mem_take hy)
     exact (HA4.out j y hj).1.later hF
    ·exact (HOk.out _ kF).ok
    ·obtain ⟨j, hj⟩ := List.getElem?_of_mem (List.mem_of_mem_drop hy)
     exact (HA4.out j y hj).1.later hF
   ·have ht0 : (0 : Int) ≤ (t : Int) := by omega
    have htn' : (t : Int) ≤ (n : Int) := by omega
    have htc' : (t : Int) ≤ (ca : Int) := by omega
    have hnc' : (n : Int) ≤ (ca : Int) := by omega
    by_cases htc : t < ca
    ·have htc2 : (t : Int) < (ca : Int) := by omega
     go_wp2_with fail
     refine (copied8_any (v := e.vr) (bs := e.row) (HE.out.1.later HAB0.out.below) HLr.out.1).mono ?_
     rintro y1 X1 ⟨a1, m1, q1, rfl, own1, hb1⟩
     have HR1 := Lib.hid (RdG.of_own (G := fun i => w.heap.size ≤ i) own1 HE.out.1.1 (by have := own1.1; have := HLr.out.1; omega) (fun i hi => Nat.le_trans HAB0.out.below.size hi))
     have HU1 := Lib.hid (KU.of hb1)
     have HB1 := Lib.hid (HAB0.out.later hb1)
     have HC1 := Lib.hid (HB1.out.e0 (.slice a1 m1 q1) e.row)
     have HW1 := Lib.hid (KU.set HB1.out.e (by decide) 0 (.slice a1 m1 q1))
     obtain ⟨⟨c0, c1⟩, ⟨d0, d1, d2, d3, d4, d5, d6⟩, ⟨z0, z1⟩, f1, f2, f3, f4, f5, f6⟩ := HB1.out.all
     clear own1 hb1
     go_wp2_with fail
     refine (copied8_any (v := e.vq) (bs := e.qual) (HE.out.2.1.later HC1.out.below) HLr.out.2.1).mono ?_
     rintro y2 X2 ⟨a2, m2, q2, rfl, own2, hb2⟩
     have HR2 := Lib.hid (RdG.of_own (G := fun i => w.heap.size ≤ i) own2 HE.out.2.1.1 (by have := own2.1; have := HLr.out.2.1; omega) (fun i hi => Nat.le_trans HC1.out.below.size hi))
     have HU2 := Lib.hid (KU.of hb2)
     have HB2 := Lib.hid (HC1.out.later hb2)
     have HC2 := Lib.hid (HB2.out.e2 (.slice a2 m2 q2) e.qual)
     have HW2 := Lib.hid (KU.set HB2.out.e (by decide) 2 (.slice a2 m2 q2))
     obtain ⟨⟨c0, c1⟩, ⟨d0, d1, d2, d3, d4, d5, d6⟩, ⟨z0, z1⟩, f1, f2, f3, f4, f5, f6⟩ := HB2.out.all
     clear own2 hb2
     go_wp2_with fail
     refine (copied8_any (v := e.vv) (bs := e.val) (HE.out.2.2.later HC2.out.below) HLr.out.2.2).mono ?_
     rintro y3 X3 ⟨a3, m3, q3, rfl, own3, hb3⟩
     have HR3 := Lib.hid (RdG.of_own (G := fun i => w.heap.size ≤ i) own3 HE.out.2.2.1 (by have := own3.1; have := HLr.out.2.2; omega) (fun i hi => Nat.le_trans HC2.out.below.size hi))
     have HU3 := Lib.hid (KU.of hb3)
     have HB3 := Lib.hid (HC2.out.later hb3)
     have HC3 := Lib.hid (HB3.out.e6 (.slice a3 m3 q3) e.val)
     have HW3 := Lib.hid (KU.set HB3.out.e (by decide) 6 (.slice a3 m3 q3))
     obtain ⟨⟨c0, c1⟩, ⟨d0, d1, d2, d3, d4, d5, d6⟩, ⟨z0, z1⟩, f1, f2, f3, f4, f5, f6⟩ := HB3.out.all
     clear own3 hb3
     obtain ⟨d, hd⟩ : ∃ d : EntD, d = ⟨.slice a1 m1 q1, e.fam, .slice a2 m2 q2, e.ts, e.seq, e.kind, .slice a3 m3 q3, e.row, e.qual, e.val⟩ := ⟨_, rfl⟩
     have HOk : Hid (∀ Y, KU (X3.setCell ⟨w.heap.size + 1, 6, none⟩ (.slice a3 m3 q3)) Y → EOk (fun i => w.heap.size ≤ i) Y d) := fun Y ku => by
      rw [hd]
      exact ⟨((((((HR1.out.ku HW1.out).ku HU2.out).ku HW2.out).ku HU3.out).ku HW3.out).ku ku), ((((HR2.out.ku HW2.out).ku HU3.out).ku HW3.out).ku ku), ((HR3.out.ku HW3.out).ku ku)⟩
     have HSm : Hid (EntD.Same d e) := by rw [hd]; exact ⟨rfl, rfl, rfl, rfl, rfl, rfl, rfl⟩
     have HDc : Hid (d.cells = #[.slice a1 m1 q1, .int .i64 e.fam, .slice a2 m2 q2, .int .i64 e.ts, .int .i64 e.seq, .int .i64 e.kind, .slice a3 m3 q3]) := by rw [hd]; rfl
     have HC3s : Hid (w.heap.size + 3 ≤ (X3.setCell ⟨w.heap.size + 1, 6, none⟩ (.slice a3 m3 q3)).heap.size) := HC3.out.size
     clear hd HR1 HR2 HR3 HU1 HU2 HU3 HW1 HW2 HW3
     have HRd : Hid (∀ Z, KU (X3.setCell ⟨w.heap.size + 1, 6, none⟩ (.slice a3 m3 q3)) Z → RdL (Z.alloc (.cells #[.slice a1 m1 q1, .int .i64 e.fam, .slice a2 m2 q2, .int .i64 e.ts, .int .i64 e.seq, .int .i64 e.kind, .slice a3 m3 q3] 38)) (.slice (some ⟨Z.heap.size, 0, none⟩) 1 1) [d]) := fun Z ku => by
      rw [← HDc.out]
      have eb := EBox.new Z d
      refine ⟨_, 1, rfl, Nat.le_refl _, by unfold maxLen; omega, by simp, .inr ⟨_, _, rfl⟩, fun i x hx => ?_⟩
      obtain ⟨rfl, rfl⟩ : i = 0 ∧ x = d := by
       cases i with
       | zero => simp at hx; exact ⟨rfl, hx.symm⟩
       | succ i => simp at hx
      exact ⟨(HOk.out _ (ku.trans (KU.of ((Below.refl Z.heap.size Z).alloc (Nat.le_refl _) _)))).ok, Z.heap.size, 0, rfl, show Cs _ _ 0 x from ⟨eb.vr, eb.fam, eb.vq, eb.ts, eb.seq, eb.kind, eb.vv⟩⟩
     have HDr : Hid (∀ Z, Below w.heap.size w Z → RdL Z (.slice (some ⟨ba, oa + t * 7, none⟩) (n - t) (ca - t)) (L.drop t)) := fun Z b => (HL.out.later b).drop htn
     go_wp2_with (first | (at_builtin; refine wpList_append_ents rfl _ _ rfl (w.heap.size + 3) _ [] rfl (World.ownsRow_nil _ _ _ _) _ (L.take t) rfl ((HL.out.later HC3.out.below).take htn) (by simp only [List.length_take, HN.out, List.length_nil]; omega) HC3s.out ?_; intro ma mn mc Z1 hn1 own1 b1 ku1; have HD1 := Lib.hid (HC3.out.keep b1); obtain ⟨⟨c0, c1⟩, ⟨d0, d1, d2, d3, d4, d5, d6⟩, ⟨z0, z1⟩, f1, f2, f3, f4, f5, f6⟩ := HD1.out.all; have HO1 := Lib.hid own1; have HK1 := Lib.hid ku1; have HN1 := Lib.hid hn1; clear own1 ku1 hn1 b1) | (at_builtin; refine wpList_append_ents rfl _ _ rfl (w.heap.size + 3) _ ([] ++ L.take t) rfl (HO1.out.alloc _) _ [d] rfl (HRd.out Z1 HK1.out) (by simp only [List.length_append, List.length_take, HN.out, List.length_cons, List.length_nil]; omega) (by rw [World.size_alloc]; have := HD1.out.size; omega) ?_; intro mb mo mp Z2 hn2 own2 b2 ku2; have HD2 := Lib.hid (AB.keep (HD1.out.later ((Below.refl Z1.heap.size Z1).alloc (Nat.le_refl _) _)) b2); obtain ⟨⟨c0, c1⟩, ⟨d0, d1, d2, d3, d4, d5, d6⟩, ⟨z0, z1⟩, f1, f2, f3, f4, f5, f6⟩ := HD2.out.all; have HO2 := Lib.hid own2; have HK2 := Lib.hid ((KU.of ((Below.refl Z1.heap.size Z1).alloc (Nat.le_refl _) _)).trans ku2); have HN2 := Lib.hid hn2; clear own2 ku2 hn2 b2) | (at_builtin; refine wpList_append_ents rfl _ _ rfl (w.heap.size + 3) _ (([] ++ L.take t) ++ [d]) rfl HO2.out _ (L.drop t) rfl (HDr.out _ HD2.out.below) (by simp only [List.length_append, List.length_take, List.length_drop, HN.out, List.length_cons, List.length_nil]; omega) HD2.out.size ?_; intro mx my mz Z3 hn3 own3 b3 ku3; have HD3 := Lib.hid (HD2.out.keep b3); obtain ⟨⟨c0, c1⟩, ⟨d0, d1, d2, d3, d4, d5, d6⟩, ⟨z0, z1⟩, f1, f2, f3, f4, f5, f6⟩ := HD3.out.all; have HO3 := Lib.hid own3; have HK3 := Lib.hid ku3; have HN3 := Lib.hid hn3; clear own3 ku3 hn3 b3))
     (try simp only [Exit.inBlock, Exit.then])
     refine bodyPost_ret (v := .tuple #[.agg #[.slice mx my mz, .bool false], .int .i64 0]) ((results_cell_tmp rfl _ _ _).trans ?_) rfl ?_
     ·go_simp
     have hF := ((HD3.out.below.setCell (p := ⟨w.heap.size, 0, none⟩) (Nat.le_refl _) (.slice mx my mz)).setCell (p := ⟨w.heap.size + 1 + 1, 0, none⟩) (by show w.heap.size ≤ w.heap.size + 1 + 1; omega) (.slice mx my mz)).setCell (p := ⟨w.heap.size + 1 + 1, 1, none⟩) (by show w.heap.size ≤ w.heap.size + 1 + 1; omega) (.bool false)
     have kF := ((HK1.out.trans HK2.out).trans HK3.out).trans (((KU.set HD3.out.t (by decide) 0 (.slice mx my mz)).trans (KU.set (HD3.out.t0 (.slice mx my mz)).z (by decide) 0 (.slice mx my mz))).trans (KU.set (RBx.set0 (HD3.out.t0 (.slice mx my mz)).z (.slice mx my mz)) (by decide) 1 (.bool false)))
     have oF := ownsRow_setCell_below (ownsRow_setCell_below (ownsRow_setCell_below HO3.out (a := ⟨w.heap.size, 0, none⟩) (show w.heap.size < w.heap.size + 3 by omega) (.slice mx my mz)) (a := ⟨w.heap.size + 1 + 1, 0, none⟩) (show w.heap.size + 1 + 1 < w.heap.size + 3 by omega) (.slice mx my mz)) (a := ⟨w.heap.size + 1 + 1, 1, none⟩) (show w.heap.size + 1 + 1 < w.heap.size + 3 by omega) (.bool false)
     have eL : [] ++ L.take t ++ [d] ++ L.drop t = L.take t ++ d :: L.drop t := by simp
     rw [eL] at oF
     refine ⟨0, _, _, rfl, RdL.of oF (fun y hy => ?_) (by simp only [List.length_append, List.length_take, List.length_drop, HN.out, List.length_cons]; omega), hF, .inr ⟨HCh.out, t, ⟨by rw [HN.out]; exact htn, HT.out, fun y hy => (HGn.out y hy).elim⟩, .inr ⟨rfl, fun y hy => (HGn.out y hy).elim, d, HSm.out, rfl, HOk.out _ kF, fun b hb => ?_⟩⟩⟩
     rotate_left
     ·have := (own_at oF hb).1
      omega
     simp only [List.mem_append, List.mem_cons] at hy
     rcases hy with hy | rfl | hy
     ·obtain ⟨j, hj⟩ := List.getElem?_of_mem (List.mem_of_mem_take hy)
      exact (HA4.out j y hj).1.later hF
     ·exact (HOk.out _ kF).ok
     ·obtain ⟨j, hj⟩ := List.getElem?_of_mem (List.mem_of_mem_drop hy)
      exact (HA4.out j y hj).1.later hF
    ·have htc2 : (ca : Int) ≤ (t : Int) := by omega
     go_wp2_with fail
     refine (copied8_any (v := e.vr) (bs := e.row) (HE.out.1.later HAB0.out.below) HLr.out.1).mono ?_
     rintro y1 X1 ⟨a1, m1, q1, rfl, own1, hb1⟩
     have HR1 := Lib.hid (RdG.of_own (G := fun i => w.heap.size ≤ i) own1 HE.out.1.1 (by have := own1.1; have := HLr.out.1; omega) (fun i hi => Nat.le_trans HAB0.out.below.size hi))
     have HU1 := Lib.hid (KU.of hb1)
     have HB1 := Lib.hid (HAB0.out.later hb1)
     have HC1 := Lib.hid (HB1.out.e0 (.slice a1 m1 q1) e.row)
     have HW1 := Lib.hid (KU.set HB1.out.e (by decide) 0 (.slice a1 m1 q1))
     obtain ⟨⟨c0, c1⟩, ⟨d0, d1, d2, d3, d4, d5, d6⟩, ⟨z0, z1⟩, f1, f2, f3, f4, f5, f6⟩ := HB1.out.all
     clear own1 hb1
     go_wp2_with fail
     refine (copied8_any (v := e.vq) (bs := e.qual) (HE.out.2.1.later HC1.out.below) HLr.out.2.1).mono ?_
     rintro y2 X2 ⟨a2, m2, q2, rfl, own2, hb2⟩
     have HR2 := Lib.hid (RdG.of_own (G := fun i => w.heap.size ≤ i) own2 HE.out.2.1.1 (by have := own2.1; have := HLr.out.2.1; omega) (fun i hi => Nat.le_trans HC1.out.below.size hi))
     have HU2 := Lib.hid (KU.of hb2)
     have HB2 := Lib.hid (HC1.out.later hb2)
     have HC2 := Lib.hid (HB2.out.e2 (.slice a2 m2 q2) e.qual)
     have HW2 := Lib.hid (KU.set HB2.out.e (by decide) 2 (.slice a2 m2 q2))
     obtain ⟨⟨c0, c1⟩, ⟨d0, d1, d2, d3, d4, d5, d6⟩, ⟨z0, z1⟩, f1, f2, f3, f4, f5, f6⟩ := HB2.out.all
     clear own2 hb2
     go_wp2_with fail
     refine (copied8_any (v := e.vv) (bs := e.val) (HE.out.2.2.later HC2.out.below) HLr.out.2.2).mono ?_
     rintro y3 X3 ⟨a3, m3, q3, rfl, own3, hb3⟩
     have HR3 := Lib.hid (RdG.of_own (G := fun i => w.heap.size ≤ i) own3 HE.out.2.2.1 (by have := own3.1; have := HLr.out.2.2; omega) (fun i hi => Nat.le_trans HC2.out.below.size hi))
     have HU3 := Lib.hid (KU.of hb3)
     have HB3 := Lib.hid (HC2.out.later hb3)
     have HC3 := Lib.hid (HB3.out.e6 (.slice a3 m3 q3) e.val)
     have HW3 := Lib.hid (KU.set HB3.out.e (by decide) 6 (.slice a3 m3 q3))
     obtain ⟨⟨c0, c1⟩, ⟨d0, d1, d2, d3, d4, d5, d6⟩, ⟨z0, z1⟩, f1, f2, f3, f4, f5, f6⟩ := HB3.out.all
     clear own3 hb3
     obtain ⟨d, hd⟩ : ∃ d : EntD, d = ⟨.slice a1 m1 q1, e.fam, .slice a2 m2 q2, e.ts, e.seq, e.kind, .slice a3 m3 q3, e.row, e.qual, e.val⟩ := ⟨_, rfl⟩
     have HOk : Hid (∀ Y, KU (X3.setCell ⟨w.heap.size + 1, 6, none⟩ (.slice a3 m3 q3)) Y → EOk (fun i => w.heap.size ≤ i) Y d) := fun Y ku => by
      rw [hd]
      exact ⟨((((((HR1.out.ku HW1.out).ku HU2.out).ku HW2.out).ku HU3.out).ku HW3.out).ku ku), ((((HR2.out.ku HW2.out).ku HU3.out).ku HW3.out).ku ku), ((HR3.out.ku HW3.out).ku ku)⟩
     have HSm : Hid (EntD.Same d e) := by rw [hd]; exact ⟨rfl, rfl, rfl, rfl, rfl, rfl, rfl⟩
     have HDc : Hid (d.cells = #[.slice a1 m1 q1, .int .i64 e.fam, .slice a2 m2 q2, .int .i64 e.ts, .int .i64 e.seq, .int .i64 e.kind, .slice a3 m3 q3]) := by rw [hd]; rfl
     have HC3s : Hid (w.heap.size + 3 ≤ (X3.setCell ⟨w.heap.size + 1, 6, none⟩ (.slice a3 m3 q3)).heap.size) := HC3.out.size
     clear hd HR1 HR2 HR3 HU1 HU2 HU3 HW1 HW2 HW3
     have HRd : Hid (∀ Z, KU (X3.setCell ⟨w.heap.size + 1, 6, none⟩ (.slice a3 m3 q3)) Z → RdL (Z.alloc (.cells #[.slice a1 m1 q1, .int .i64 e.fam, .slice a2 m2 q2, .int .i64 e.ts, .int .i64 e.seq, .int .i64 e.kind, .slice a3 m3 q3] 38)) (.slice (some ⟨Z.heap.size, 0, none⟩) 1 1) [d]) := fun Z ku => by
      rw [← HDc.out]
      have eb := EBox.new Z d
      refine ⟨_, 1, rfl, Nat.le_refl _, by unfold maxLen; omega, by simp, .inr ⟨_, _, rfl⟩, fun i x hx => ?_⟩
      obtain ⟨rfl, rfl⟩ : i = 0 ∧ x = d := by
       cases i with
       | zero => simp at hx; exact ⟨rfl, hx.symm⟩
       | succ i => simp at hx
      exact ⟨(HOk.out _ (ku.trans (KU.of ((Below.refl Z.heap.size Z).alloc (Nat.le_refl _) _)))).ok, Z.heap.size, 0, rfl, show Cs _ _ 0 x from ⟨eb.vr, eb.fam, eb.vq, eb.ts, eb.seq, eb.kind, eb.vv⟩⟩
     have HDr : Hid (∀ Z, Below w.heap.size w Z → RdL Z (.slice (some ⟨ba, oa, none⟩) (n - t) (ca - t)) (L.drop t)) := fun Z b => by
      have e0 : L.drop t = [] := List.drop_eq_nil_of_le (by rw [HN.out]; omega)
      rw [e0]
      exact ⟨_, ca - t, by rw [show n - t = 0 from by omega]; rfl, Nat.zero_le _, by omega, Nat.zero_le _, .inr ⟨_, _, rfl⟩, fun i x h => by simp at h⟩
     go_wp2_with (first | (at_builtin; refine wpList_append_ents rfl _ _ rfl (w.heap.size + 3) _ [] rfl (World.ownsRow_nil _ _ _ _) _ (L.take t) rfl ((HL.out.later HC3.out.below).take htn) (by simp only [List.length_take, HN.out, List.length_nil]; omega) HC3s.out ?_; intro ma mn mc Z1 hn1 own1 b1 ku1; have HD1 := Lib.hid (HC3.out.keep b1); obtain ⟨⟨c0, c1⟩, ⟨d0, d1, d2, d3, d4, d5, d6⟩, ⟨z0, z1⟩, f1, f2, f3, f4, f5, f6⟩ := HD1.out.all; have HO1 := Lib.hid own1; have HK1 := Lib.hid ku1; have HN1 := Lib.hid hn1; clear own1 ku1 hn1 b1) | (at_builtin; refine wpList_append_ents rfl _ _ rfl (w.heap.size + 3) _ ([] ++ L.take t) rfl (HO1.out.alloc _) _ [d] rfl (HRd.out Z1 HK1.out) (by simp only [List.length_append, List.length_take, HN.out, List.length_cons, List.length_nil]; omega) (by rw [World.size_alloc]; have := HD1.out.size; omega) ?_; intro mb mo mp Z2 hn2 own2 b2 ku2; have HD2 := Lib.hid (AB.keep (HD1.out.later ((Below.refl Z1.heap.size Z1).alloc (Nat.le_refl _) _)) b2); obtain ⟨⟨c0, c1⟩, ⟨d0, d1, d2, d3, d4, d5, d6⟩, ⟨z0, z1⟩, f1, f2, f3, f4, f5, f6⟩ := HD2.out.all; have HO2 := Lib.hid own2; have HK2 := Lib.hid ((KU.of ((Below.refl Z1.heap.size Z1).alloc (Nat.le_refl _) _)).trans ku2); have HN2 := Lib.hid hn2; clear own2 ku2 hn2 b2) | (at_builtin; refine wpList_append_ents rfl _ _ rfl (w.heap.size + 3) _ (([] ++ L.take t) ++ [d]) rfl HO2.out _ (L.drop t) rfl (HDr.out _ HD2.out.below) (by simp only [List.length_append, List.length_take, List.length_drop, HN.out, List.length_cons, List.length_nil]; omega) HD2.out.size ?_; intro mx my mz Z3 hn3 own3 b3 ku3; have HD3 := Lib.hid (HD2.out.keep b3); obtain ⟨⟨c0, c1⟩, ⟨d0, d1, d2, d3, d4, d5, d6⟩, ⟨z0, z1⟩, f1, f2, f3, f4, f5, f6⟩ := HD3.out.all; have HO3 := Lib.hid own3; have HK3 := Lib.hid ku3; have HN3 := Lib.hid hn3; clear own3 ku3 hn3 b3))
     (try simp only [Exit.inBlock, Exit.then])
     refine bodyPost_ret (v := .tuple #[.agg #[.slice mx my mz, .bool false], .int .i64 0]) ((results_cell_tmp rfl _ _ _).trans ?_) rfl ?_
     ·go_simp
     have hF := ((HD3.out.below.setCell (p := ⟨w.heap.size, 0, none⟩) (Nat.le_refl _) (.slice mx my mz)).setCell (p := ⟨w.heap.size + 1 + 1, 0, none⟩) (by show w.heap.size ≤ w.heap.size + 1 + 1; omega) (.slice mx my mz)).setCell (p := ⟨w.heap.size + 1 + 1, 1, none⟩) (by show w.heap.size ≤ w.heap.size + 1 + 1; omega) (.bool false)
     have kF := ((HK1.out.trans HK2.out).trans HK3.out).trans (((KU.set HD3.out.t (by decide) 0 (.slice mx my mz)).trans (KU.set (HD3.out.t0 (.slice mx my mz)).z (by decide) 0 (.slice mx my mz))).trans (KU.set (RBx.set0 (HD3.out.t0 (.slice mx my mz)).z (.slice mx my mz)) (by decide) 1 (.bool false)))
     have oF := ownsRow_setCell_below (ownsRow_setCell_below (ownsRow_setCell_below HO3.out (a := ⟨w.heap.size, 0, none⟩) (show w.heap.size < w.heap.size + 3 by omega) (.slice mx my mz)) (a := ⟨w.heap.size + 1 + 1, 0, none⟩) (show w.heap.size + 1 + 1 < w.heap.size + 3 by omega) (.slice mx my mz)) (a := ⟨w.heap.size + 1 + 1, 1, none⟩) (show w.heap.size + 1 + 1 < w.heap.size + 3 by omega) (.bool false)
     have eL : [] ++ L.take t ++ [d] ++ L.drop t = L.take t ++ d :: L.drop t := by simp
     rw [eL] at oF
     refine ⟨0, _, _, rfl, RdL.of oF (fun y hy => ?_) (by simp only [List.length_append, List.length_take, List.length_drop, HN.out, List.length_cons]; omega), hF, .inr ⟨HCh.out, t, ⟨by rw [HN.out]; exact htn, HT.out, fun y hy => (HGn.out y hy).elim⟩, .inr ⟨rfl, fun y hy => (HGn.out y hy).elim, d, HSm.out, rfl, HOk.out _ kF, fun b hb => ?_⟩⟩⟩
     rotate_left
     ·have := (own_at oF hb).1
      omega
     simp only [List.mem_append, List.mem_cons] at hy
     rcases hy with hy | rfl | hy
     ·obtain ⟨j, hj⟩ := List.getElem?_of_mem (List.mem_of_mem_take hy)
      exact (HA4.out j y hj).1.later hF
     ·exact (HOk.out _ kF).ok
     ·obtain ⟨j, hj⟩ := List.getElem?_of_mem (List.mem_of_mem_drop hy)
      exact (HA4.out j y hj).1.later hF

set_option maxRecDepth 100000 in
set_option maxHeartbeats 4000000 in
theorem refAdd_bad {w : World} {lv : Value} {L : List EntD} {e : EntD} (hl : RdL w lv L) (he : EntD.Ok w e) (hc : checkS e ≠ 0) :
  Calls Tryz.prog 47 #[.agg #[lv, .bool false], .agg e.cells] w (AddP w lv L e) := by
 have HL := Lib.hid hl
 have A1 := (Below.refl w.heap.size w).alloc (Nat.le_refl _) (.cells #[lv, .bool false] 29)
 have A2 := A1.alloc A1.size (.cells e.cells 38)
 have bt := (RBx.new w lv false).later ((Below.refl _ (w.alloc (.cells #[lv, .bool false] 29))).alloc (Nat.le_refl _) (.cells e.cells 38))
 have be := EBox.new (w.alloc (.cells #[lv, .bool false] 29)) e
 rw [World.size_alloc] at be
 have A3 := A2.alloc A2.size (.cells #[.slice none 0 0, .bool false] 29)
 have bz := RBx.new ((w.alloc (.cells #[lv, .bool false] 29)).alloc (.cells e.cells 38)) (.slice none 0 0) false
 rw [World.size_alloc, World.size_alloc] at bz
 have l3 := (Below.refl _ ((w.alloc (.cells #[lv, .bool false] 29)).alloc (.cells e.cells 38))).alloc (Nat.le_refl _) (.cells #[.slice none 0 0, .bool false] 29)
 have bt := bt.later l3
 have be := be.later l3
 clear l3
 obtain ⟨a, n, ca, rfl⟩ : ∃ a n ca, lv = .slice a n ca := by
  obtain ⟨a, c, h⟩ := hl.slice
  exact ⟨_, _, _, h⟩
 obtain ⟨V, hV⟩ : ∃ V, V = ((w.alloc (.cells #[.slice a n ca, .bool false] 29)).alloc (.cells e.cells 38)).alloc (.cells #[.slice none 0 0, .bool false] 29) := ⟨_, rfl⟩
 rw [← hV] at A3 bt be bz
 have HV : Hid (V = _) := hV
 unfold EntD.cells at HV
 have HAB : Hid (∀ wx, Below V.heap.size V wx → AB w (.slice a n ca) e (.slice none 0 0) wx) := fun wx b => ⟨bt.later b, be.later b, bz.later b, A3.trans (b.mono A3.size)⟩
 have HC : Hid (checkS e ≠ 0) := hc
 obtain ⟨C, hC⟩ : ∃ C, C = checkS e := ⟨_, rfl⟩
 have HCe : Hid (C = checkS e) := hC
 have hc0 : ¬ ((C : Int) = 0) := by rw [hC]; omega
 have HCk : Hid (∀ wx, Below V.heap.size V wx → Calls Tryz.prog 51 #[.agg #[e.vr, .int .i64 e.fam, e.vq, .int .i64 e.ts, .int .i64 e.seq, .int .i64 e.kind, e.vv]] wx fun r w' => r = .returned (.int .i64 (C : Int)) ∧ Below wx.heap.size wx w') := fun wx b => by
  have := refCheck_any (he.later (A3.trans (b.mono A3.size)))
  rw [← hC] at this
  exact this
 clear he hV A1 A2 A3 bt be bz hc hC hl
 obtain ⟨⟨c0, c1⟩, ⟨d0, d1, d2, d3, d4, d5, d6⟩, ⟨z0, z1⟩, f1, f2, f3, f4, f5, f6⟩ := (HAB.out V (Below.refl _ _)).all
 unfold EntD.cells
 go_enter Tryz.func47, Tryz.ntmps47
 go_wp2_with fail
 rw [← HV.out]
 go_wp2_with fail
 refine Calls.mono (HCk.out _ (Below.refl _ _)) ?_
 rintro z w1 ⟨rfl, hb1⟩
 obtain ⟨⟨c0, c1⟩, ⟨d0, d1, d2, d3, d4, d5, d6⟩, ⟨z0, z1⟩, f1, f2, f3, f4, f5, f6⟩ := (HAB.out w1 hb1).all
 have HB1 := Lib.hid (HAB.out w1 hb1)
 clear hb1
 go_wp2
 (try simp only [Exit.inBlock, Exit.then])
 refine bodyPost_ret (v := .tuple #[.agg #[.slice a n ca, .bool false], .int .i64 (C : Int)]) ((results_cell_tmp rfl _ _ _).trans ?_) rfl ?_
 ·go_simp
 have k3 := fun u u' => (HB1.out.below.setCell (p := ⟨w.heap.size + 1 + 1, 0, none⟩) (by show w.heap.size ≤ w.heap.size + 1 + 1; omega) u).setCell (p := ⟨w.heap.size + 1 + 1, 1, none⟩) (by show w.heap.size ≤ w.heap.size + 1 + 1; omega) u'
 exact ⟨C, _, L, rfl, HL.out.later (k3 _ _), k3 _ _, .inl ⟨HC.out, HCe.out, rfl, rfl⟩⟩
theorem refAdd_any {w : World} {lv : Value} {L : List EntD} {e : EntD} (hl : RdL w lv L) (he : EntD.Ok w e) (hsz : L.length < 1000000) :
  Calls Tryz.prog 47 #[.agg #[lv, .bool false], .agg e.cells] w (AddP w lv L e) := by
 by_cases hc : checkS e = 0
 ·exact refAdd_ok hl he hc hsz
 ·exact refAdd_bad hl he hc
end Go.Proofs.YtpabbnddeklpdaaGreat

