import Derived.Test.YtchebhafabhabaaGreatDoorK02
namespace Go.Proofs.YtchebhafabhabaaGreatDoor
open Go.RowKit
set_option linter.unusedVariables false

theorem text_at {w : World} {g m c : Nat} {a : Option Addr} {bs L : List Nat} {bad : Bool} {P E : Nat} (k : Nat) (h : RBox w g (.slice a m c) (k : Int) bad) (hr : Rd w (.slice a m c) bs) (hk : k ≤ bs.length) (h47 : bs.length ≤ 140737488355328) (he : ordR bs k = (L, P, E)) :
  Calls Tryz.prog 123 #[.pointer (some ⟨g, 0, none⟩)] w fun e w' => ∃ a' m' c', e = .returned (.slice a' m' c') ∧ Own w' w.heap.size (.slice a' m' c') m' L ∧ RBox w' g (.slice a m c) ((P : Nat) : Int) (bad || decide (E ≠ 0)) ∧ Apart g w w' := by
 have := text_any k h hr hk h47
 rw [he] at this; exact this
theorem fall_at {w : World} {g m c : Nat} {a : Option Addr} {bs : List Nat} {bad : Bool} {V P E : Nat} (k : Nat) (h : RBox w g (.slice a m c) (k : Int) bad) (hr : Rd w (.slice a m c) bs) (hk : k ≤ bs.length) (he : fallR bs k = (V, P, E)) :
  Calls Tryz.prog 125 #[.pointer (some ⟨g, 0, none⟩)] w fun e w' => e = .returned (.int .i64 ((V : Nat) : Int)) ∧ RBox w' g (.slice a m c) ((P : Nat) : Int) (bad || decide (E ≠ 0)) ∧ Apart g w w' := by
 have := kfalling_any k h hr hk
 rw [he] at this; exact this
theorem one_at {w : World} {g m c : Nat} {a : Option Addr} {bs : List Nat} {bad b : Bool} {V P : Nat} (k : Nat) (h : RBox w g (.slice a m c) (k : Int) bad) (hr : Rd w (.slice a m c) bs) (hk : k ≤ bs.length) (he : oneR bs k = (V, P, b)) :
  Calls Tryz.prog 124 #[.pointer (some ⟨g, 0, none⟩)] w fun e w' => e = .returned (.int .u8 ((V : Nat) : Int)) ∧ RBox w' g (.slice a m c) ((P : Nat) : Int) (bad || b) ∧ Apart g w w' := by
 have := one_any k h hr hk
 rw [he] at this; exact this

theorem EBox.fz {w : World} {g : Nat} {e : EntD} (h : EBox w g e) (i : Nat) : w.frozen? ⟨g, i, none⟩ = false := by unfold EBox at h; simp [World.frozen?, h]
theorem EBox.apart {w w' : World} {g ge : Nat} {e : EntD} (h : EBox w ge e) (hw : Apart g w w') (hne : ge ≠ g) : EBox w' ge e := by
 unfold EBox at *
 rw [hw.block ge (Array.getElem?_eq_some_iff.1 h).1 hne]; exact h
theorem EBox.set0 {w : World} {g : Nat} {e : EntD} (h : EBox w g e) (x : Value) (l : List Nat) : EBox (w.setCell ⟨g, 0, none⟩ x) g { e with vr := x, row := l } := by
 unfold EBox EntD.cells at *; simp [World.setCell, Array.getElem?_modify, h]
theorem EBox.set1 {w : World} {g : Nat} {e : EntD} (h : EBox w g e) (x : Int) : EBox (w.setCell ⟨g, 1, none⟩ (.int .i64 x)) g { e with fam := x } := by
 unfold EBox EntD.cells at *; simp [World.setCell, Array.getElem?_modify, h]
theorem EBox.set2 {w : World} {g : Nat} {e : EntD} (h : EBox w g e) (x : Value) (l : List Nat) : EBox (w.setCell ⟨g, 2, none⟩ x) g { e with vq := x, qual := l } := by
 unfold EBox EntD.cells at *; simp [World.setCell, Array.getElem?_modify, h]
theorem EBox.set3 {w : World} {g : Nat} {e : EntD} (h : EBox w g e) (x : Int) : EBox (w.setCell ⟨g, 3, none⟩ (.int .i64 x)) g { e with ts := x } := by
 unfold EBox EntD.cells at *; simp [World.setCell, Array.getElem?_modify, h]
theorem EBox.set4 {w : World} {g : Nat} {e : EntD} (h : EBox w g e) (x : Int) : EBox (w.setCell ⟨g, 4, none⟩ (.int .i64 x)) g { e with seq := x } := by
 unfold EBox EntD.cells at *; simp [World.setCell, Array.getElem?_modify, h]
theorem EBox.set5 {w : World} {g : Nat} {e : EntD} (h : EBox w g e) (x : Int) : EBox (w.setCell ⟨g, 5, none⟩ (.int .i64 x)) g { e with kind := x } := by
 unfold EBox EntD.cells at *; simp [World.setCell, Array.getElem?_modify, h]
theorem EBox.set6 {w : World} {g : Nat} {e : EntD} (h : EBox w g e) (x : Value) (l : List Nat) : EBox (w.setCell ⟨g, 6, none⟩ x) g { e with vv := x, val := l } := by
 unfold EBox EntD.cells at *; simp [World.setCell, Array.getElem?_modify, h]
def filled (w : World) (g : Nat) (e : EntD) : World :=
 ((((((w.setCell ⟨g, 0, none⟩ e.vr).setCell ⟨g, 1, none⟩ (.int .i64 e.fam)).setCell ⟨g, 2, none⟩ e.vq).setCell ⟨g, 3, none⟩ (.int .i64 e.ts)).setCell ⟨g, 4, none⟩ (.int .i64 e.seq)).setCell ⟨g, 5, none⟩ (.int .i64 e.kind)).setCell ⟨g, 6, none⟩ e.vv
theorem filled_box {w : World} {g : Nat} {d : EntD} (h : EBox w g d) (e : EntD) : EBox (filled w g e) g e :=
 (((((((h.set0 e.vr e.row).set1 e.fam).set2 e.vq e.qual).set3 e.ts).set4 e.seq).set5 e.kind).set6 e.vv e.val)
theorem filled_apart (w : World) (g : Nat) (e : EntD) : Apart g w (filled w g e) :=
 ((((((apart_set _ _ _ _).trans (apart_set _ _ _ _)).trans (apart_set _ _ _ _)).trans (apart_set _ _ _ _)).trans (apart_set _ _ _ _)).trans (apart_set _ _ _ _)).trans (apart_set _ _ _ _)
theorem Own.apartE {w w' : World} {g B m0 : Nat} {v : Value} {e : EntD} {xs : List Nat} (h : Own w B v m0 xs) (hr : EBox w g e) (hw : Apart g w w') : Own w' B v m0 xs := by
 refine ⟨h.1, h.2.1, ?_⟩
 rcases h.2.2 with h2 | ⟨g2, cap, cur, h3, h4, h5, h6⟩
 ·exact .inl h2
 ·refine .inr ⟨g2, cap, cur, h3, h4, ?_, h6⟩
  rw [hw.block g2 (Array.getElem?_eq_some_iff.1 h5).1 ?_]
  ·exact h5
  ·rintro rfl
   unfold EBox at hr
   rw [h5] at hr
   have := Option.some.inj hr
   injection this with _ e
   exact absurd e (by decide)

structure St (w wx : World) (g : Nat) (v : Value) (k : Nat) (bad : Bool) (e : EntD) : Prop where
 ap : Apart g w wx
 rb : RBox wx g v (k : Int) bad
 eb : EBox wx (w.heap.size + 1) e
 rs : EBox wx w.heap.size ⟨.slice none 0 0, 0, .slice none 0 0, 0, 0, 0, .slice none 0 0, [], [], []⟩
 gl : g < w.heap.size
theorem St.call {w wx wy : World} {g k k' : Nat} {v : Value} {bad bad' : Bool} {e : EntD} (h : St w wx g v k bad e) (rb : RBox wy g v (k' : Int) bad') (ap : Apart g wx wy) : St w wy g v k' bad' e :=
 ⟨h.ap.trans ap, rb, h.eb.apart ap (by have := h.gl; omega), h.rs.apart ap (by have := h.gl; omega), h.gl⟩
theorem Apart.out {g ge : Nat} {w wx wy : World} (h : Apart g w wx) (k : Apart ge wx wy) (hg : w.heap.size ≤ ge) : Apart g w wy :=
 ⟨k.os.trans h.os, k.tape.trans h.tape, k.output.trans h.output, Nat.le_trans h.size k.size, fun i hi hn => (k.block i (Nat.lt_of_lt_of_le hi h.size) (by omega)).trans (h.block i hi hn)⟩
theorem RBox.apart {w w' : World} {g ge : Nat} {v : Value} {k : Int} {b : Bool} (h : RBox w g v k b) (hw : Apart ge w w') (hne : g ≠ ge) : RBox w' g v k b := by
 unfold RBox at *
 rw [hw.block g (Array.getElem?_eq_some_iff.1 h).1 hne]; exact h
theorem St.put {w wx : World} {g k : Nat} {v : Value} {bad : Bool} {e e' : EntD} (h : St w wx g v k bad e) (i : Nat) (x : Value) (eb : EBox (wx.setCell ⟨w.heap.size + 1, i, none⟩ x) (w.heap.size + 1) e') : St w (wx.setCell ⟨w.heap.size + 1, i, none⟩ x) g v k bad e' :=
 ⟨h.ap.out (apart_set _ _ _ _) (by omega), h.rb.apart (apart_set _ _ _ _) (by have := h.gl; omega), eb, h.rs.apart (apart_set _ _ _ _) (by omega), h.gl⟩
theorem St.new {w : World} {g k : Nat} {v : Value} {bad : Bool} (h : RBox w g v (k : Int) bad) :
  St w ((w.alloc (.cells (EntD.cells ⟨.slice none 0 0, 0, .slice none 0 0, 0, 0, 0, .slice none 0 0, [], [], []⟩) 40)).alloc (.cells (EntD.cells ⟨.slice none 0 0, 0, .slice none 0 0, 0, 0, 0, .slice none 0 0, [], [], []⟩) 40)) g v k bad ⟨.slice none 0 0, 0, .slice none 0 0, 0, 0, 0, .slice none 0 0, [], [], []⟩ := by
 have A1 := (Below.refl w.heap.size w).alloc (Nat.le_refl _) (.cells (EntD.cells ⟨.slice none 0 0, 0, .slice none 0 0, 0, 0, 0, .slice none 0 0, [], [], []⟩) 40)
 have b1 := EBox.new w ⟨.slice none 0 0, 0, .slice none 0 0, 0, 0, 0, .slice none 0 0, [], [], []⟩
 have A2 := (Below.refl (w.alloc (.cells (EntD.cells ⟨.slice none 0 0, 0, .slice none 0 0, 0, 0, 0, .slice none 0 0, [], [], []⟩) 40)).heap.size _).alloc (Nat.le_refl _) (.cells (EntD.cells ⟨.slice none 0 0, 0, .slice none 0 0, 0, 0, 0, .slice none 0 0, [], [], []⟩) 40)
 have b2 := EBox.new (w.alloc (.cells (EntD.cells ⟨.slice none 0 0, 0, .slice none 0 0, 0, 0, 0, .slice none 0 0, [], [], []⟩) 40)) ⟨.slice none 0 0, 0, .slice none 0 0, 0, 0, 0, .slice none 0 0, [], [], []⟩
 have e1 : (w.alloc (.cells (EntD.cells ⟨.slice none 0 0, 0, .slice none 0 0, 0, 0, 0, .slice none 0 0, [], [], []⟩) 40)).heap.size = w.heap.size + 1 := by show (w.heap.push _).size = _; simp
 rw [e1] at b2
 have A3 := A1.trans (A2.mono A1.size)
 exact ⟨Apart.of A3, h.later A3, b2, b1.later A2, h.lt⟩

theorem rord_le (l acc : List Nat) (i : Nat) : (rord l acc i).2.1 ≤ i + l.length := by
 fun_induction rord l acc i <;> simp_all <;> omega
theorem ordR_le (bs : List Nat) (k : Nat) (h : k ≤ bs.length) : (ordR bs k).2.1 ≤ bs.length := by
 have := rord_le (bs.drop k) [] 0
 simp only [List.length_drop] at this
 simp only [ordR]
 split <;> omega
theorem fallR_le (bs : List Nat) (k : Nat) (h : k ≤ bs.length) : (fallR bs k).2.1 ≤ bs.length := by
 unfold fallR riseR
 split <;> simp
 split <;> simp
 omega
theorem oneR_le (bs : List Nat) (k : Nat) (h : k ≤ bs.length) : (oneR bs k).2.1 ≤ bs.length := by
 unfold oneR
 split <;> simp <;> omega
theorem oneR_lt (bs : List Nat) (k : Nat) (h : Bys bs) : (oneR bs k).1 < 256 := by
 unfold oneR
 split
 ·simp
 ·exact h.get k

theorem St.fin {w wx wy : World} {g k : Nat} {v : Value} {bad : Bool} {e : EntD} (h : St w wx g v k bad e) (q : Apart w.heap.size wx wy) : Apart g w wy ∧ RBox wy g v (k : Int) bad :=
 ⟨h.ap.out q (Nat.le_refl _), h.rb.apart q (by have := h.gl; omega)⟩
theorem St.spoil {w wx : World} {g k : Nat} {v : Value} {bad : Bool} {e : EntD} (h : St w wx g v k bad e) : St w (wx.setCell ⟨g, 2, none⟩ (.bool true)) g v k true e :=
 h.call (h.rb.setd true) (apart_set _ _ _ _)
def Read (w w' : World) (g : Nat) (v : Value) (r : Ending) (row qual : List Nat) (fam ts sq kd p : Nat) (ok : Prop) : Prop :=
 ∃ vr vq bad, r = .returned (.agg #[vr, .int .i64 (fam : Int), vq, .int .i64 (ts : Int), .int .i64 (sq : Int), .int .i64 (kd : Int), .slice none 0 0]) ∧ Own w' w.heap.size vr row.length row ∧
  (∃ B, w.heap.size ≤ B ∧ Own w' B vq qual.length qual ∧ ∀ k, vr.ownBlock = some k → k < B) ∧ RBox w' g v (p : Int) bad ∧ (bad = false ↔ ok) ∧ Apart g w w'
theorem St.done {w wx : World} {g k : Nat} {v : Value} {bad : Bool} {e : EntD} (h : St w wx g v k bad e) : EBox (filled wx w.heap.size e) w.heap.size e ∧ Apart g w (filled wx w.heap.size e) ∧ RBox (filled wx w.heap.size e) g v (k : Int) bad ∧ ∀ B u m xs, Own wx B u m xs → Own (filled wx w.heap.size e) B u m xs :=
 ⟨filled_box h.rs e, (h.fin (filled_apart _ _ _)).1, (h.fin (filled_apart _ _ _)).2, fun _ _ _ _ ho => ho.apartE h.rs (filled_apart _ _ _)⟩
theorem own_len {w : World} {B m : Nat} {v : Value} {xs : List Nat} (h : Own w B v m xs) : Own w B v xs.length xs := by
 have e := h.1
 subst e
 exact h

set_option maxRecDepth 100000 in
set_option maxHeartbeats 8000000 in
theorem entry_plain {w : World} {g m c : Nat} {a : Option Addr} {bs row qual : List Nat} {p1 p2 p3 p4 p5 p6 p7 p8 E1 E4 E6 E7 fam fm cm ts sq kd : Nat} {b2 b3 b5 b8 : Bool}
  (h : RBox w g (.slice a m c) ((0 : Nat) : Int) false) (hr : Rd w (.slice a m c) bs) (h47 : bs.length ≤ 140737488355328)
  (q1 : ordR bs 0 = (row, p1, E1)) (q2 : oneR bs p1 = (fam, p2, b2)) (q3 : oneR bs p2 = (fm, p3, b3)) (hfm : fm ≠ 0) (q4 : ordR bs p3 = (qual, p4, E4)) (q5 : oneR bs p4 = (cm, p5, b5))
  (q6 : fallR bs p5 = (ts, p6, E6)) (q7 : fallR bs p6 = (sq, p7, E7)) (q8 : oneR bs p7 = (kd, p8, b8)) :
  Calls Tryz.prog 116 #[.pointer (some ⟨g, 0, none⟩)] w fun e w' => Read w w' g (.slice a m c) e row qual fam ts sq kd p8 (E1 = 0 ∧ b2 = false ∧ b3 = false ∧ E4 = 0 ∧ b5 = false ∧ E6 = 0 ∧ E7 = 0 ∧ b8 = false ∧ fm = mark kd 5 ∧ cm = mark kd 4) := by
 have l1 : p1 ≤ bs.length := by have := ordR_le bs 0 (Nat.zero_le _); rw [q1] at this; exact this
 have l2 : p2 ≤ bs.length := by have := oneR_le bs p1 l1; rw [q2] at this; exact this
 have l3 : p3 ≤ bs.length := by have := oneR_le bs p2 l2; rw [q3] at this; exact this
 have l4 : p4 ≤ bs.length := by have := ordR_le bs p3 l3; rw [q4] at this; exact this
 have l5 : p5 ≤ bs.length := by have := oneR_le bs p4 l4; rw [q5] at this; exact this
 have l6 : p6 ≤ bs.length := by have := fallR_le bs p5 l5; rw [q6] at this; exact this
 have l7 : p7 ≤ bs.length := by have := fallR_le bs p6 l6; rw [q7] at this; exact this
 have u2 : fam < 256 := by have := oneR_lt bs p1 hr.1; rw [q2] at this; exact this
 have u3 : fm < 256 := by have := oneR_lt bs p2 hr.1; rw [q3] at this; exact this
 have u5 : cm < 256 := by have := oneR_lt bs p4 hr.1; rw [q5] at this; exact this
 have u8 : kd < 256 := by have := oneR_lt bs p7 hr.1; rw [q8] at this; exact this
 have QQ : Hid ((ordR bs 0 = (row, p1, E1) ∧ oneR bs p1 = (fam, p2, b2) ∧ oneR bs p2 = (fm, p3, b3) ∧ ordR bs p3 = (qual, p4, E4) ∧ oneR bs p4 = (cm, p5, b5) ∧ fallR bs p5 = (ts, p6, E6) ∧ fallR bs p6 = (sq, p7, E7) ∧ oneR bs p7 = (kd, p8, b8)) ∧ p1 ≤ bs.length ∧ p2 ≤ bs.length ∧ p3 ≤ bs.length ∧ p4 ≤ bs.length ∧ p5 ≤ bs.length ∧ p6 ≤ bs.length ∧ p7 ≤ bs.length ∧ bs.length ≤ 140737488355328) :=
  ⟨⟨q1, q2, q3, q4, q5, q6, q7, q8⟩, l1, l2, l3, l4, l5, l6, l7, h47⟩
 have HB : Hid (RBox w g (.slice a m c) ((0 : Nat) : Int) false ∧ Rd w (.slice a m c) bs) := ⟨h, hr⟩
 have s0 : Hid (St w _ g _ 0 false _) := St.new h
 clear q1 q2 q3 q4 q5 q6 q7 q8 l1 l2 l3 l4 l5 l6 l7 h47 h hr
 have hfm1 : ((fm : Int) != 0) = true := by simp; omega
 have hfm0 : ¬ ((fm : Int) = 0) := by omega
 simp only [EntD.cells] at s0
 obtain ⟨M5, hM5⟩ : ∃ M, M = (if (kd : Int) = 5 then 0 else 1 : Nat) := ⟨_, rfl⟩
 have cM5 := fun w => markOf_any (kd : Int) 5 w
 rw [← hM5] at cM5
 have HCM5 : Hid (∀ w, Calls Tryz.prog 89 #[.int .i64 (kd : Int), .int .i64 5] w fun e w' => e = .returned (.int .u8 ((M5 : Nat) : Int)) ∧ w' = w) := cM5
 have HM5 : Hid (M5 = mark (kd : Int) 5) := hM5
 obtain ⟨M4, hM4⟩ : ∃ M, M = (if (kd : Int) = 4 then 0 else 1 : Nat) := ⟨_, rfl⟩
 have cM4 := fun w => markOf_any (kd : Int) 4 w
 rw [← hM4] at cM4
 have HCM4 : Hid (∀ w, Calls Tryz.prog 89 #[.int .i64 (kd : Int), .int .i64 4] w fun e w' => e = .returned (.int .u8 ((M4 : Nat) : Int)) ∧ w' = w) := cM4
 have HM4 : Hid (M4 = mark (kd : Int) 4) := hM4
 clear hM5 hM4 cM5 cM4
 go_enter Tryz.func116, Tryz.ntmps116
 go_wp2_with fail
 refine (text_at 0 s0.out.rb (HB.out.2.apart HB.out.1 s0.out.ap) (Nat.zero_le _) QQ.out.2.2.2.2.2.2.2.2 QQ.out.1.1).mono ?_
 rintro e1 w1 ⟨a1, m1, c1, rfl, own1, rb1, ap1⟩
 have s1 := s0.out.call rb1 ap1
 have HSZ : Hid (w.heap.size ≤ _) := s0.out.ap.size
 have own1' := own1.apartE s1.eb (apart_set _ _ 0 (.slice a1 m1 c1))
 have s2 := s1.put 0 (.slice a1 m1 c1) (s1.eb.set0 (.slice a1 m1 c1) row)
 have f0 := s1.eb.fz 0
 have x0 := s1.eb.vr
 clear rb1 ap1 own1
 have S1 : Hid (St w w1 g _ _ _ _) := s1
 have S2 : Hid (St w _ g _ _ _ _) := s2
 clear s1 s2 s0
 simp only at x0 f0
 go_wp2_with fail
 generalize w1.setCell ⟨w.heap.size + 1, 0, none⟩ (.slice a1 m1 c1) = w2 at S2 own1' ⊢
 refine (one_at p1 S2.out.rb (HB.out.2.apart HB.out.1 S2.out.ap) QQ.out.2.1 QQ.out.1.2.1).mono ?_
 rintro e2 w3 ⟨rfl, rb3, ap3⟩
 have s1 := S2.out.call rb3 ap3
 have own2 := own1'.apart S2.out.rb ap3
 have own2' := own2.apartE s1.eb (apart_set _ _ 1 (.int .i64 (fam : Int)))
 have s2 := s1.put 1 (.int .i64 (fam : Int)) (s1.eb.set1 (fam : Int))
 have f1 := s1.eb.fz 1
 have x1 := s1.eb.fam
 have S4 : Hid (St w (w3.setCell ⟨w.heap.size + 1, 1, none⟩ (.int .i64 (fam : Int))) g _ _ _ _) := s2
 clear rb3 ap3 own1' s1 s2 S2 x0 f0 S1 own2
 simp only at x1 f1
 go_wp2_with fail
 generalize w3.setCell ⟨w.heap.size + 1, 1, none⟩ (.int .i64 (fam : Int)) = w4 at S4 own2' ⊢
 refine (one_at p2 S4.out.rb (HB.out.2.apart HB.out.1 S4.out.ap) QQ.out.2.2.1 QQ.out.1.2.2.1).mono ?_
 rintro e3 w5 ⟨rfl, rb5, ap5⟩
 have S5 : Hid (St w w5 g _ _ _ _) := S4.out.call rb5 ap5
 have own5 := own2'.apart S4.out.rb ap5
 have HQB : Hid (w.heap.size ≤ w5.heap.size ∧ ∀ k, (Value.slice a1 m1 c1).ownBlock = some k → k < w5.heap.size) := ⟨S5.out.ap.size, fun k hk => (own5.2.lt k hk).2⟩
 clear rb5 ap5 own2' S4 x1 f1
 go_wp2_with fail
 refine (text_at p3 S5.out.rb (HB.out.2.apart HB.out.1 S5.out.ap) QQ.out.2.2.2.1 QQ.out.2.2.2.2.2.2.2.2 QQ.out.1.2.2.2.1).mono ?_
 rintro e4 w6 ⟨a6, m6, c6, rfl, own6, rb6, ap6⟩
 have s1 := S5.out.call rb6 ap6
 have own7 := (own5.apart S5.out.rb ap6).apartE s1.eb (apart_set _ _ 2 (.slice a6 m6 c6))
 have own6' := own6.apartE s1.eb (apart_set _ _ 2 (.slice a6 m6 c6))
 have s2 := s1.put 2 (.slice a6 m6 c6) (s1.eb.set2 (.slice a6 m6 c6) qual)
 have f2 := s1.eb.fz 2
 have x2 := s1.eb.vq
 have S7 : Hid (St w (w6.setCell ⟨w.heap.size + 1, 2, none⟩ (.slice a6 m6 c6)) g _ _ _ _) := s2
 clear rb6 ap6 own5 own6 s1 s2 
 simp only at x2 f2
 go_wp2_with fail
 generalize w6.setCell ⟨w.heap.size + 1, 2, none⟩ (.slice a6 m6 c6) = w7 at S7 own7 own6' ⊢
 refine (one_at p4 S7.out.rb (HB.out.2.apart HB.out.1 S7.out.ap) QQ.out.2.2.2.2.1 QQ.out.1.2.2.2.2.1).mono ?_
 rintro e5 w8 ⟨rfl, rb8, ap8⟩
 have S8 : Hid (St w w8 g _ _ _ _) := S7.out.call rb8 ap8
 have own8 := own7.apart S7.out.rb ap8
 have own8q := own6'.apart S7.out.rb ap8
 clear rb8 ap8 own7 own6' S7 x2 f2 S5
 go_wp2_with fail
 refine (fall_at p5 S8.out.rb (HB.out.2.apart HB.out.1 S8.out.ap) QQ.out.2.2.2.2.2.1 QQ.out.1.2.2.2.2.2.1).mono ?_
 rintro e6 w9 ⟨rfl, rb9, ap9⟩
 have s1 := S8.out.call rb9 ap9
 have own9 := (own8.apart S8.out.rb ap9).apartE s1.eb (apart_set _ _ 3 (.int .i64 (ts : Int)))
 have own9q := (own8q.apart S8.out.rb ap9).apartE s1.eb (apart_set _ _ 3 (.int .i64 (ts : Int)))
 have f3 := s1.eb.fz 3
 have x3 := s1.eb.ts
 have S10 : Hid (St w (w9.setCell ⟨w.heap.size + 1, 3, none⟩ (.int .i64 (ts : Int))) g _ _ _ _) := s1.put 3 (.int .i64 (ts : Int)) (s1.eb.set3 (ts : Int))
 clear rb9 ap9 own8 own8q s1 S8
 simp only at x3 f3
 go_wp2_with fail
 generalize w9.setCell ⟨w.heap.size + 1, 3, none⟩ (.int .i64 (ts : Int)) = w10 at S10 own9 own9q ⊢
 refine (fall_at p6 S10.out.rb (HB.out.2.apart HB.out.1 S10.out.ap) QQ.out.2.2.2.2.2.2.1 QQ.out.1.2.2.2.2.2.2.1).mono ?_
 rintro e7 w11 ⟨rfl, rb11, ap11⟩
 have s1 := S10.out.call rb11 ap11
 have own11 := (own9.apart S10.out.rb ap11).apartE s1.eb (apart_set _ _ 4 (.int .i64 (sq : Int)))
 have own11q := (own9q.apart S10.out.rb ap11).apartE s1.eb (apart_set _ _ 4 (.int .i64 (sq : Int)))
 have f4 := s1.eb.fz 4
 have x4 := s1.eb.seq
 have S12 : Hid (St w (w11.setCell ⟨w.heap.size + 1, 4, none⟩ (.int .i64 (sq : Int))) g _ _ _ _) := s1.put 4 (.int .i64 (sq : Int)) (s1.eb.set4 (sq : Int))
 clear rb11 ap11 own9 own9q s1 S10 x3 f3
 simp only at x4 f4
 go_wp2_with fail
 generalize w11.setCell ⟨w.heap.size + 1, 4, none⟩ (.int .i64 (sq : Int)) = w12 at S12 own11 own11q ⊢
 refine (one_at p7 S12.out.rb (HB.out.2.apart HB.out.1 S12.out.ap) QQ.out.2.2.2.2.2.2.2.1 QQ.out.1.2.2.2.2.2.2.2).mono ?_
 rintro e8 w13 ⟨rfl, rb13, ap13⟩
 have s1 := S12.out.call rb13 ap13
 have own13 := (own11.apart S12.out.rb ap13).apartE s1.eb (apart_set _ _ 5 (.int .i64 (kd : Int)))
 have own13q := (own11q.apart S12.out.rb ap13).apartE s1.eb (apart_set _ _ 5 (.int .i64 (kd : Int)))
 have f5 := s1.eb.fz 5
 have x5 := s1.eb.kind
 have S14 : Hid (St w (w13.setCell ⟨w.heap.size + 1, 5, none⟩ (.int .i64 (kd : Int))) g _ _ _ _) := s1.put 5 (.int .i64 (kd : Int)) (s1.eb.set5 (kd : Int))
 clear rb13 ap13 own11 own11q s1 S12 x4 f4
 simp only at x5 f5
 go_wp2_with fail
 generalize w13.setCell ⟨w.heap.size + 1, 5, none⟩ (.int .i64 (kd : Int)) = w14 at S14 own13 own13q ⊢
 clear x5 f5
 refine (HCM5.out _).mono ?_
 rintro e9 w15 ⟨rfl, rfl⟩
 have x0 := S14.out.eb.vr
 have x1 := S14.out.eb.fam
 have x2 := S14.out.eb.vq
 have x3 := S14.out.eb.ts
 have x4 := S14.out.eb.seq
 have x5 := S14.out.eb.kind
 have x6 := S14.out.eb.vv
 have r0 := S14.out.rs.vr
 have r1 := S14.out.rs.fam
 have r2 := S14.out.rs.vq
 have r3 := S14.out.rs.ts
 have r4 := S14.out.rs.seq
 have r5 := S14.out.rs.kind
 have r6 := S14.out.rs.vv
 have z0 := S14.out.rs.fz 0
 have z1 := S14.out.rs.fz 1
 have z2 := S14.out.rs.fz 2
 have z3 := S14.out.rs.fz 3
 have z4 := S14.out.rs.fz 4
 have z5 := S14.out.rs.fz 5
 have z6 := S14.out.rs.fz 6
 have rbd := S14.out.rb.vd
 have rbz := S14.out.rb.fz 2
 simp only at x0 x1 x2 x3 x4 x5 x6 r0 r1 r2 r3 r4 r5 r6
 have hgl : g < w.heap.size := S14.out.gl
 have hg1 : ¬ (g = w.heap.size) := by omega
 have hg2 : ¬ (g = w.heap.size + 1) := by omega
 have hg3 : ¬ (w.heap.size = g) := by omega
 have hg4 : ¬ (w.heap.size + 1 = g) := by omega
 by_cases h5 : fm = M5
 ·have h51 : ((fm : Int) != (M5 : Int)) = false := by simp; omega
  have h52 : (fm : Int) = (M5 : Int) := by omega
  go_wp2_with fail
  refine (HCM4.out _).mono ?_
  rintro e9 w15 ⟨rfl, rfl⟩
  by_cases h4 : cm = M4
  ·have h41 : ((cm : Int) != (M4 : Int)) = false := by simp; omega
   have h42 : (cm : Int) = (M4 : Int) := by omega
   have ST := S14.out
   have dn := ST.done
   have o1 := dn.2.2.2 _ _ _ _ (own13)
   have o2 := dn.2.2.2 _ _ _ _ (own13q)
   have HDN : Hid (_ ∧ _ ∧ _ ∧ _ ∧ _) := ⟨dn.1, dn.2.1, dn.2.2.1, o1, o2⟩
   clear ST dn o1 o2
   simp only [filled] at HDN
   go_wp2
   obtain ⟨eb, ap, rb, o1, o2⟩ := HDN.out
   clear HDN
   generalize (((((((w15.setCell ⟨w.heap.size, 0, none⟩ (.slice a1 m1 c1)).setCell ⟨w.heap.size, 1, none⟩ (.int .i64 (fam : Int))).setCell ⟨w.heap.size, 2, none⟩ (.slice a6 m6 c6)).setCell ⟨w.heap.size, 3, none⟩ (.int .i64 (ts : Int))).setCell ⟨w.heap.size, 4, none⟩ (.int .i64 (sq : Int))).setCell ⟨w.heap.size, 5, none⟩ (.int .i64 (kd : Int))).setCell ⟨w.heap.size, 6, none⟩ (.slice none 0 0)) = wz at eb ap rb o1 o2 ⊢
   have y0 := eb.vr
   have y1 := eb.fam
   have y2 := eb.vq
   have y3 := eb.ts
   have y4 := eb.seq
   have y5 := eb.kind
   have y6 := eb.vv
   simp only at y0 y1 y2 y3 y4 y5 y6
   refine bodyPost_ret (v := .agg #[.slice a1 m1 c1, .int .i64 (fam : Int), .slice a6 m6 c6, .int .i64 (ts : Int), .int .i64 (sq : Int), .int .i64 (kd : Int), .slice none 0 0]) (by simp [results, Tryz.results116, go_sem, y0, y1, y2, y3, y4, y5, y6]) rfl ?_
   refine ⟨_, _, _, rfl, (own_len o1).mono HSZ.out, ⟨_, HQB.out.1, own_len o2, HQB.out.2⟩, rb, ?_, ap⟩
   rw [← HM5.out, ← HM4.out]
   simp [h5, h4, and_assoc]
  ·have h41 : ((cm : Int) != (M4 : Int)) = true := by simp; omega
   have h42 : ¬ ((cm : Int) = (M4 : Int)) := by omega
   have ST := S14.out.spoil
   have dn := ST.done
   have o1 := dn.2.2.2 _ _ _ _ (own13.apart S14.out.rb (apart_set _ _ 2 (.bool true)))
   have o2 := dn.2.2.2 _ _ _ _ (own13q.apart S14.out.rb (apart_set _ _ 2 (.bool true)))
   have HDN : Hid (_ ∧ _ ∧ _ ∧ _ ∧ _) := ⟨dn.1, dn.2.1, dn.2.2.1, o1, o2⟩
   clear ST dn o1 o2
   simp only [filled] at HDN
   go_wp2
   obtain ⟨eb, ap, rb, o1, o2⟩ := HDN.out
   clear HDN
   generalize ((((((((w15.setCell ⟨g, 2, none⟩ (.bool true)).setCell ⟨w.heap.size, 0, none⟩ (.slice a1 m1 c1)).setCell ⟨w.heap.size, 1, none⟩ (.int .i64 (fam : Int))).setCell ⟨w.heap.size, 2, none⟩ (.slice a6 m6 c6)).setCell ⟨w.heap.size, 3, none⟩ (.int .i64 (ts : Int))).setCell ⟨w.heap.size, 4, none⟩ (.int .i64 (sq : Int))).setCell ⟨w.heap.size, 5, none⟩ (.int .i64 (kd : Int))).setCell ⟨w.heap.size, 6, none⟩ (.slice none 0 0)) = wz at eb ap rb o1 o2 ⊢
   have y0 := eb.vr
   have y1 := eb.fam
   have y2 := eb.vq
   have y3 := eb.ts
   have y4 := eb.seq
   have y5 := eb.kind
   have y6 := eb.vv
   simp only at y0 y1 y2 y3 y4 y5 y6
   refine bodyPost_ret (v := .agg #[.slice a1 m1 c1, .int .i64 (fam : Int), .slice a6 m6 c6, .int .i64 (ts : Int), .int .i64 (sq : Int), .int .i64 (kd : Int), .slice none 0 0]) (by simp [results, Tryz.results116, go_sem, y0, y1, y2, y3, y4, y5, y6]) rfl ?_
   refine ⟨_, _, _, rfl, (own_len o1).mono HSZ.out, ⟨_, HQB.out.1, own_len o2, HQB.out.2⟩, rb, ?_, ap⟩
   rw [← HM5.out, ← HM4.out]
   simp [h4]
 ·have h51 : ((fm : Int) != (M5 : Int)) = true := by simp; omega
  have h52 : ¬ ((fm : Int) = (M5 : Int)) := by omega
  have ST := S14.out.spoil
  have dn := ST.done
  have o1 := dn.2.2.2 _ _ _ _ (own13.apart S14.out.rb (apart_set _ _ 2 (.bool true)))
  have o2 := dn.2.2.2 _ _ _ _ (own13q.apart S14.out.rb (apart_set _ _ 2 (.bool true)))
  have HDN : Hid (_ ∧ _ ∧ _ ∧ _ ∧ _) := ⟨dn.1, dn.2.1, dn.2.2.1, o1, o2⟩
  clear ST dn o1 o2
  simp only [filled] at HDN
  go_wp2
  obtain ⟨eb, ap, rb, o1, o2⟩ := HDN.out
  clear HDN
  generalize ((((((((w15.setCell ⟨g, 2, none⟩ (.bool true)).setCell ⟨w.heap.size, 0, none⟩ (.slice a1 m1 c1)).setCell ⟨w.heap.size, 1, none⟩ (.int .i64 (fam : Int))).setCell ⟨w.heap.size, 2, none⟩ (.slice a6 m6 c6)).setCell ⟨w.heap.size, 3, none⟩ (.int .i64 (ts : Int))).setCell ⟨w.heap.size, 4, none⟩ (.int .i64 (sq : Int))).setCell ⟨w.heap.size, 5, none⟩ (.int .i64 (kd : Int))).setCell ⟨w.heap.size, 6, none⟩ (.slice none 0 0)) = wz at eb ap rb o1 o2 ⊢
  have y0 := eb.vr
  have y1 := eb.fam
  have y2 := eb.vq
  have y3 := eb.ts
  have y4 := eb.seq
  have y5 := eb.kind
  have y6 := eb.vv
  simp only at y0 y1 y2 y3 y4 y5 y6
  refine bodyPost_ret (v := .agg #[.slice a1 m1 c1, .int .i64 (fam : Int), .slice a6 m6 c6, .int .i64 (ts : Int), .int .i64 (sq : Int), .int .i64 (kd : Int), .slice none 0 0]) (by simp [results, Tryz.results116, go_sem, y0, y1, y2, y3, y4, y5, y6]) rfl ?_
  refine ⟨_, _, _, rfl, (own_len o1).mono HSZ.out, ⟨_, HQB.out.1, own_len o2, HQB.out.2⟩, rb, ?_, ap⟩
  rw [← HM5.out, ← HM4.out]
  simp [h5]
end Go.Proofs.YtchebhafabhabaaGreatDoor

namespace Go.Proofs.YtchebhafabhabaaGreatDoor
open Go.RowKit
set_option linter.unusedVariables false

theorem own_nil (w : World) (B : Nat) : Own w B (.slice none 0 0) ([] : List Nat).length [] := ⟨rfl, rfl, .inl ⟨rfl, rfl⟩⟩

set_option maxRecDepth 100000 in
set_option maxHeartbeats 8000000 in
theorem entry_fam {w : World} {g m c : Nat} {a : Option Addr} {bs row : List Nat} {p1 p2 p3 p6 p7 p8 E1 E6 E7 fam ts sq kd : Nat} {b2 b3 b8 : Bool}
  (h : RBox w g (.slice a m c) ((0 : Nat) : Int) false) (hr : Rd w (.slice a m c) bs) (h47 : bs.length ≤ 140737488355328)
  (q1 : ordR bs 0 = (row, p1, E1)) (q2 : oneR bs p1 = (fam, p2, b2)) (q3 : oneR bs p2 = (0, p3, b3))
  (q6 : fallR bs p3 = (ts, p6, E6)) (q7 : fallR bs p6 = (sq, p7, E7)) (q8 : oneR bs p7 = (kd, p8, b8)) :
  Calls Tryz.prog 116 #[.pointer (some ⟨g, 0, none⟩)] w fun e w' => Read w w' g (.slice a m c) e row [] fam ts sq kd p8 (E1 = 0 ∧ b2 = false ∧ b3 = false ∧ E6 = 0 ∧ E7 = 0 ∧ b8 = false ∧ 0 = mark kd 5 ∧ 1 = mark kd 4) := by
 have l1 : p1 ≤ bs.length := by have := ordR_le bs 0 (Nat.zero_le _); rw [q1] at this; exact this
 have l2 : p2 ≤ bs.length := by have := oneR_le bs p1 l1; rw [q2] at this; exact this
 have l3 : p3 ≤ bs.length := by have := oneR_le bs p2 l2; rw [q3] at this; exact this
 have l6 : p6 ≤ bs.length := by have := fallR_le bs p3 l3; rw [q6] at this; exact this
 have l7 : p7 ≤ bs.length := by have := fallR_le bs p6 l6; rw [q7] at this; exact this
 have u2 : fam < 256 := by have := oneR_lt bs p1 hr.1; rw [q2] at this; exact this
 have u8 : kd < 256 := by have := oneR_lt bs p7 hr.1; rw [q8] at this; exact this
 have QQ : Hid ((ordR bs 0 = (row, p1, E1) ∧ oneR bs p1 = (fam, p2, b2) ∧ oneR bs p2 = (0, p3, b3) ∧ fallR bs p3 = (ts, p6, E6) ∧ fallR bs p6 = (sq, p7, E7) ∧ oneR bs p7 = (kd, p8, b8)) ∧ p1 ≤ bs.length ∧ p2 ≤ bs.length ∧ p3 ≤ bs.length ∧ p6 ≤ bs.length ∧ p7 ≤ bs.length ∧ bs.length ≤ 140737488355328) :=
  ⟨⟨q1, q2, q3, q6, q7, q8⟩, l1, l2, l3, l6, l7, h47⟩
 have HB : Hid (RBox w g (.slice a m c) ((0 : Nat) : Int) false ∧ Rd w (.slice a m c) bs) := ⟨h, hr⟩
 have s0 : Hid (St w _ g _ 0 false _) := St.new h
 clear q1 q2 q3 q6 q7 q8 l1 l2 l3 l6 l7 h47 h hr
 simp only [EntD.cells] at s0
 obtain ⟨M5, hM5⟩ : ∃ M, M = (if (kd : Int) = 5 then 0 else 1 : Nat) := ⟨_, rfl⟩
 have cM5 := fun w => markOf_any (kd : Int) 5 w
 rw [← hM5] at cM5
 have HCM5 : Hid (∀ w, Calls Tryz.prog 89 #[.int .i64 (kd : Int), .int .i64 5] w fun e w' => e = .returned (.int .u8 ((M5 : Nat) : Int)) ∧ w' = w) := cM5
 have HM5 : Hid (M5 = mark (kd : Int) 5) := hM5
 obtain ⟨M4, hM4⟩ : ∃ M, M = (if (kd : Int) = 4 then 0 else 1 : Nat) := ⟨_, rfl⟩
 have cM4 := fun w => markOf_any (kd : Int) 4 w
 rw [← hM4] at cM4
 have HCM4 : Hid (∀ w, Calls Tryz.prog 89 #[.int .i64 (kd : Int), .int .i64 4] w fun e w' => e = .returned (.int .u8 ((M4 : Nat) : Int)) ∧ w' = w) := cM4
 have HM4 : Hid (M4 = mark (kd : Int) 4) := hM4
 clear hM5 hM4 cM5 cM4
 go_enter Tryz.func116, Tryz.ntmps116
 go_wp2_with fail
 refine (text_at 0 s0.out.rb (HB.out.2.apart HB.out.1 s0.out.ap) (Nat.zero_le _) QQ.out.2.2.2.2.2.2 QQ.out.1.1).mono ?_
 rintro e1 w1 ⟨a1, m1, c1, rfl, own1, rb1, ap1⟩
 have s1 := s0.out.call rb1 ap1
 have HSZ : Hid (w.heap.size ≤ _) := s0.out.ap.size
 have own1' := own1.apartE s1.eb (apart_set _ _ 0 (.slice a1 m1 c1))
 have s2 := s1.put 0 (.slice a1 m1 c1) (s1.eb.set0 (.slice a1 m1 c1) row)
 have f0 := s1.eb.fz 0
 have x0 := s1.eb.vr
 clear rb1 ap1 own1
 have S1 : Hid (St w w1 g _ _ _ _) := s1
 have S2 : Hid (St w _ g _ _ _ _) := s2
 clear s1 s2 s0
 simp only at x0 f0
 go_wp2_with fail
 generalize w1.setCell ⟨w.heap.size + 1, 0, none⟩ (.slice a1 m1 c1) = w2 at S2 own1' ⊢
 refine (one_at p1 S2.out.rb (HB.out.2.apart HB.out.1 S2.out.ap) QQ.out.2.1 QQ.out.1.2.1).mono ?_
 rintro e2 w3 ⟨rfl, rb3, ap3⟩
 have s1 := S2.out.call rb3 ap3
 have own2 := own1'.apart S2.out.rb ap3
 have own2' := own2.apartE s1.eb (apart_set _ _ 1 (.int .i64 (fam : Int)))
 have s2 := s1.put 1 (.int .i64 (fam : Int)) (s1.eb.set1 (fam : Int))
 have f1 := s1.eb.fz 1
 have x1 := s1.eb.fam
 have S4 : Hid (St w (w3.setCell ⟨w.heap.size + 1, 1, none⟩ (.int .i64 (fam : Int))) g _ _ _ _) := s2
 clear rb3 ap3 own1' s1 s2 S2 x0 f0 S1 own2
 simp only at x1 f1
 go_wp2_with fail
 generalize w3.setCell ⟨w.heap.size + 1, 1, none⟩ (.int .i64 (fam : Int)) = w4 at S4 own2' ⊢
 refine (one_at p2 S4.out.rb (HB.out.2.apart HB.out.1 S4.out.ap) QQ.out.2.2.1 QQ.out.1.2.2.1).mono ?_
 rintro e3 w5 ⟨rfl, rb5, ap5⟩
 have S5 : Hid (St w w5 g _ _ _ _) := S4.out.call rb5 ap5
 have own5 := own2'.apart S4.out.rb ap5
 have HQB : Hid (w.heap.size ≤ w5.heap.size ∧ ∀ k, (Value.slice a1 m1 c1).ownBlock = some k → k < w5.heap.size) := ⟨S5.out.ap.size, fun k hk => (own5.2.lt k hk).2⟩
 clear rb5 ap5 own2' S4 x1 f1
 go_wp2_with fail
 refine (fall_at p3 S5.out.rb (HB.out.2.apart HB.out.1 S5.out.ap) QQ.out.2.2.2.1 QQ.out.1.2.2.2.1).mono ?_
 rintro e6 w9 ⟨rfl, rb9, ap9⟩
 have s1 := S5.out.call rb9 ap9
 have own9 := (own5.apart S5.out.rb ap9).apartE s1.eb (apart_set _ _ 3 (.int .i64 (ts : Int)))
 have f3 := s1.eb.fz 3
 have x3 := s1.eb.ts
 have S10 : Hid (St w (w9.setCell ⟨w.heap.size + 1, 3, none⟩ (.int .i64 (ts : Int))) g _ _ _ _) := s1.put 3 (.int .i64 (ts : Int)) (s1.eb.set3 (ts : Int))
 clear rb9 ap9 own5 s1 S5
 simp only at x3 f3
 go_wp2_with fail
 generalize w9.setCell ⟨w.heap.size + 1, 3, none⟩ (.int .i64 (ts : Int)) = w10 at S10 own9  ⊢
 refine (fall_at p6 S10.out.rb (HB.out.2.apart HB.out.1 S10.out.ap) QQ.out.2.2.2.2.1 QQ.out.1.2.2.2.2.1).mono ?_
 rintro e7 w11 ⟨rfl, rb11, ap11⟩
 have s1 := S10.out.call rb11 ap11
 have own11 := (own9.apart S10.out.rb ap11).apartE s1.eb (apart_set _ _ 4 (.int .i64 (sq : Int)))
 have f4 := s1.eb.fz 4
 have x4 := s1.eb.seq
 have S12 : Hid (St w (w11.setCell ⟨w.heap.size + 1, 4, none⟩ (.int .i64 (sq : Int))) g _ _ _ _) := s1.put 4 (.int .i64 (sq : Int)) (s1.eb.set4 (sq : Int))
 clear rb11 ap11 own9  s1 S10 x3 f3
 simp only at x4 f4
 go_wp2_with fail
 generalize w11.setCell ⟨w.heap.size + 1, 4, none⟩ (.int .i64 (sq : Int)) = w12 at S12 own11  ⊢
 refine (one_at p7 S12.out.rb (HB.out.2.apart HB.out.1 S12.out.ap) QQ.out.2.2.2.2.2.1 QQ.out.1.2.2.2.2.2).mono ?_
 rintro e8 w13 ⟨rfl, rb13, ap13⟩
 have s1 := S12.out.call rb13 ap13
 have own13 := (own11.apart S12.out.rb ap13).apartE s1.eb (apart_set _ _ 5 (.int .i64 (kd : Int)))
 have f5 := s1.eb.fz 5
 have x5 := s1.eb.kind
 have S14 : Hid (St w (w13.setCell ⟨w.heap.size + 1, 5, none⟩ (.int .i64 (kd : Int))) g _ _ _ _) := s1.put 5 (.int .i64 (kd : Int)) (s1.eb.set5 (kd : Int))
 clear rb13 ap13 own11  s1 S12 x4 f4
 simp only at x5 f5
 go_wp2_with fail
 generalize w13.setCell ⟨w.heap.size + 1, 5, none⟩ (.int .i64 (kd : Int)) = w14 at S14 own13 ⊢
 clear x5 f5
 refine (HCM5.out _).mono ?_
 rintro e9 w15 ⟨rfl, rfl⟩
 have x0 := S14.out.eb.vr
 have x1 := S14.out.eb.fam
 have x2 := S14.out.eb.vq
 have x3 := S14.out.eb.ts
 have x4 := S14.out.eb.seq
 have x5 := S14.out.eb.kind
 have x6 := S14.out.eb.vv
 have r0 := S14.out.rs.vr
 have r1 := S14.out.rs.fam
 have r2 := S14.out.rs.vq
 have r3 := S14.out.rs.ts
 have r4 := S14.out.rs.seq
 have r5 := S14.out.rs.kind
 have r6 := S14.out.rs.vv
 have z0 := S14.out.rs.fz 0
 have z1 := S14.out.rs.fz 1
 have z2 := S14.out.rs.fz 2
 have z3 := S14.out.rs.fz 3
 have z4 := S14.out.rs.fz 4
 have z5 := S14.out.rs.fz 5
 have z6 := S14.out.rs.fz 6
 have rbd := S14.out.rb.vd
 have rbz := S14.out.rb.fz 2
 simp only at x0 x1 x2 x3 x4 x5 x6 r0 r1 r2 r3 r4 r5 r6
 have hgl : g < w.heap.size := S14.out.gl
 have hg1 : ¬ (g = w.heap.size) := by omega
 have hg2 : ¬ (g = w.heap.size + 1) := by omega
 have hg3 : ¬ (w.heap.size = g) := by omega
 have hg4 : ¬ (w.heap.size + 1 = g) := by omega
 by_cases h5x : M5 = 0
 ·have h5 : Hid (M5 = 0) := h5x
  have h52 : (M5 : Int) = 0 := by omega
  clear h5x
  have h51 : ((0 : Int) != (M5 : Int)) = false := by simp; omega
  go_wp2_with fail
  refine (HCM4.out _).mono ?_
  rintro e9 w15 ⟨rfl, rfl⟩
  by_cases h4x : M4 = 1
  ·have h4 : Hid (M4 = 1) := h4x
   have h42 : (M4 : Int) = 1 := by omega
   clear h4x
   have h41 : ((1 : Int) != (M4 : Int)) = false := by simp; omega
   have ST := S14.out
   have dn := ST.done
   have o1 := dn.2.2.2 _ _ _ _ (own13)
   have HDN : Hid (_ ∧ _ ∧ _ ∧ _) := ⟨dn.1, dn.2.1, dn.2.2.1, o1⟩
   clear ST dn o1
   simp only [filled] at HDN
   go_wp2
   obtain ⟨eb, ap, rb, o1⟩ := HDN.out
   clear HDN
   generalize (((((((w15.setCell ⟨w.heap.size, 0, none⟩ (.slice a1 m1 c1)).setCell ⟨w.heap.size, 1, none⟩ (.int .i64 (fam : Int))).setCell ⟨w.heap.size, 2, none⟩ (.slice none 0 0)).setCell ⟨w.heap.size, 3, none⟩ (.int .i64 (ts : Int))).setCell ⟨w.heap.size, 4, none⟩ (.int .i64 (sq : Int))).setCell ⟨w.heap.size, 5, none⟩ (.int .i64 (kd : Int))).setCell ⟨w.heap.size, 6, none⟩ (.slice none 0 0)) = wz at eb ap rb o1 ⊢
   have y0 := eb.vr
   have y1 := eb.fam
   have y2 := eb.vq
   have y3 := eb.ts
   have y4 := eb.seq
   have y5 := eb.kind
   have y6 := eb.vv
   simp only at y0 y1 y2 y3 y4 y5 y6
   refine bodyPost_ret (v := .agg #[.slice a1 m1 c1, .int .i64 (fam : Int), .slice none 0 0, .int .i64 (ts : Int), .int .i64 (sq : Int), .int .i64 (kd : Int), .slice none 0 0]) (by simp [results, Tryz.results116, go_sem, y0, y1, y2, y3, y4, y5, y6]) rfl ?_
   refine ⟨_, _, _, rfl, (own_len o1).mono HSZ.out, ⟨_, HQB.out.1, own_nil _ _, HQB.out.2⟩, rb, ?_, ap⟩
   rw [← HM5.out, ← HM4.out]
   simp [h5.out, h4.out, and_assoc]
  ·have h41 : ((1 : Int) != (M4 : Int)) = true := by simp; omega
   have h42 : ¬ ((1 : Int) = (M4 : Int)) := by omega
   have ST := S14.out.spoil
   have dn := ST.done
   have o1 := dn.2.2.2 _ _ _ _ (own13.apart S14.out.rb (apart_set _ _ 2 (.bool true)))
   have HDN : Hid (_ ∧ _ ∧ _ ∧ _) := ⟨dn.1, dn.2.1, dn.2.2.1, o1⟩
   clear ST dn o1
   simp only [filled] at HDN
   go_wp2
   obtain ⟨eb, ap, rb, o1⟩ := HDN.out
   clear HDN
   generalize ((((((((w15.setCell ⟨g, 2, none⟩ (.bool true)).setCell ⟨w.heap.size, 0, none⟩ (.slice a1 m1 c1)).setCell ⟨w.heap.size, 1, none⟩ (.int .i64 (fam : Int))).setCell ⟨w.heap.size, 2, none⟩ (.slice none 0 0)).setCell ⟨w.heap.size, 3, none⟩ (.int .i64 (ts : Int))).setCell ⟨w.heap.size, 4, none⟩ (.int .i64 (sq : Int))).setCell ⟨w.heap.size, 5, none⟩ (.int .i64 (kd : Int))).setCell ⟨w.heap.size, 6, none⟩ (.slice none 0 0)) = wz at eb ap rb o1 ⊢
   have y0 := eb.vr
   have y1 := eb.fam
   have y2 := eb.vq
   have y3 := eb.ts
   have y4 := eb.seq
   have y5 := eb.kind
   have y6 := eb.vv
   simp only at y0 y1 y2 y3 y4 y5 y6
   refine bodyPost_ret (v := .agg #[.slice a1 m1 c1, .int .i64 (fam : Int), .slice none 0 0, .int .i64 (ts : Int), .int .i64 (sq : Int), .int .i64 (kd : Int), .slice none 0 0]) (by simp [results, Tryz.results116, go_sem, y0, y1, y2, y3, y4, y5, y6]) rfl ?_
   refine ⟨_, _, _, rfl, (own_len o1).mono HSZ.out, ⟨_, HQB.out.1, own_nil _ _, HQB.out.2⟩, rb, ?_, ap⟩
   rw [← HM5.out, ← HM4.out]
   simp [Ne.symm h4x]
 ·have h51 : ((0 : Int) != (M5 : Int)) = true := by simp; omega
  have h52 : ¬ ((0 : Int) = (M5 : Int)) := by omega
  have ST := S14.out.spoil
  have dn := ST.done
  have o1 := dn.2.2.2 _ _ _ _ (own13.apart S14.out.rb (apart_set _ _ 2 (.bool true)))
  have HDN : Hid (_ ∧ _ ∧ _ ∧ _) := ⟨dn.1, dn.2.1, dn.2.2.1, o1⟩
  clear ST dn o1
  simp only [filled] at HDN
  go_wp2
  obtain ⟨eb, ap, rb, o1⟩ := HDN.out
  clear HDN
  generalize ((((((((w15.setCell ⟨g, 2, none⟩ (.bool true)).setCell ⟨w.heap.size, 0, none⟩ (.slice a1 m1 c1)).setCell ⟨w.heap.size, 1, none⟩ (.int .i64 (fam : Int))).setCell ⟨w.heap.size, 2, none⟩ (.slice none 0 0)).setCell ⟨w.heap.size, 3, none⟩ (.int .i64 (ts : Int))).setCell ⟨w.heap.size, 4, none⟩ (.int .i64 (sq : Int))).setCell ⟨w.heap.size, 5, none⟩ (.int .i64 (kd : Int))).setCell ⟨w.heap.size, 6, none⟩ (.slice none 0 0)) = wz at eb ap rb o1 ⊢
  have y0 := eb.vr
  have y1 := eb.fam
  have y2 := eb.vq
  have y3 := eb.ts
  have y4 := eb.seq
  have y5 := eb.kind
  have y6 := eb.vv
  simp only at y0 y1 y2 y3 y4 y5 y6
  refine bodyPost_ret (v := .agg #[.slice a1 m1 c1, .int .i64 (fam : Int), .slice none 0 0, .int .i64 (ts : Int), .int .i64 (sq : Int), .int .i64 (kd : Int), .slice none 0 0]) (by simp [results, Tryz.results116, go_sem, y0, y1, y2, y3, y4, y5, y6]) rfl ?_
  refine ⟨_, _, _, rfl, (own_len o1).mono HSZ.out, ⟨_, HQB.out.1, own_nil _ _, HQB.out.2⟩, rb, ?_, ap⟩
  rw [← HM5.out, ← HM4.out]
  simp [Ne.symm h5x]
end Go.Proofs.YtchebhafabhabaaGreatDoor

namespace Go.Proofs.YtchebhafabhabaaGreatDoor
open Go.RowKit
set_option linter.unusedVariables false

def Parsed (w w' : World) (r : Ending) (row qual : List Nat) (fam ts sq kd : Nat) (good : Prop) : Prop :=
 (¬ good → r = .returned (.tuple #[.agg #[.slice none 0 0, .int .i64 0, .slice none 0 0, .int .i64 0, .int .i64 0, .int .i64 0, .slice none 0 0], .int .i64 27])) ∧
 (good → ∃ vr vq, r = .returned (.tuple #[.agg #[vr, .int .i64 (fam : Int), vq, .int .i64 (ts : Int), .int .i64 (sq : Int), .int .i64 (kd : Int), .slice none 0 0], .int .i64 0]) ∧ Own w' w.heap.size vr row.length row ∧ ∃ B, w.heap.size ≤ B ∧ Own w' B vq qual.length qual ∧ ∀ k, vr.ownBlock = some k → k < B) ∧
 Below w.heap.size w w'

set_option maxRecDepth 100000 in
set_option maxHeartbeats 8000000 in
theorem parse_read {w : World} {m c : Nat} {a : Option Addr} {bs row qual : List Nat} {fam ts sq kd p : Nat} {ok : Prop} (hr : Rd w (.slice a m c) bs) (hbr : Bys row ∧ row.length ≤ 281474976710656) (hbq : Bys qual ∧ qual.length ≤ 281474976710656)
  (hc : ∀ W g, RBox W g (.slice a m c) ((0 : Nat) : Int) false → Rd W (.slice a m c) bs → Calls Tryz.prog 116 #[.pointer (some ⟨g, 0, none⟩)] W fun e w' => Read W w' g (.slice a m c) e row qual fam ts sq kd p ok) :
  Calls Tryz.prog 104 #[.slice a m c] w fun e w' => Parsed w w' e row qual fam ts sq kd (ok ∧ p = m ∧ checkS ⟨.slice none 0 0, fam, .slice none 0 0, ts, sq, kd, .slice none 0 0, row, qual, []⟩ = 0) := by
 have A1 := (Below.refl w.heap.size w).alloc (Nat.le_refl _) (.cells (EntD.cells ⟨.slice none 0 0, 0, .slice none 0 0, 0, 0, 0, .slice none 0 0, [], [], []⟩) 40)
 have b1 := EBox.new w ⟨.slice none 0 0, 0, .slice none 0 0, 0, 0, 0, .slice none 0 0, [], [], []⟩
 obtain ⟨w1, hw1⟩ : ∃ w1, w1 = w.alloc (.cells (EntD.cells ⟨.slice none 0 0, 0, .slice none 0 0, 0, 0, 0, .slice none 0 0, [], [], []⟩) 40) := ⟨_, rfl⟩
 have e1 : w1.heap.size = w.heap.size + 1 := by rw [hw1]; show (w.heap.push _).size = _; simp
 rw [← hw1] at A1 b1
 have A2 := (Below.refl w1.heap.size w1).alloc (Nat.le_refl _) (.cells (rcells (.slice a m c) ((0 : Nat) : Int) false) 151)
 have b2 := RBox.new w1 (.slice a m c) ((0 : Nat) : Int) false
 have A3 := A1.trans (A2.mono A1.size)
 have c1 := hc _ _ b2 (hr.later A3)
 have b1' := b1.later A2
 rw [e1] at c1 b2
 rw [hw1] at A3 c1 b1' b2
 have HX : Hid (EBox _ w.heap.size _ ∧ Below w.heap.size w _ ∧ RBox _ _ _ _ _ ∧ Rd w (.slice a m c) bs) := ⟨b1', A3, b2, hr⟩
 have HC : Hid (Calls _ _ _ _ _) := c1
 clear c1 hc A3 A2 A1 b1 b2 b1' e1 hw1 w1 hr
 simp only [rcells, EntD.cells] at HC HX
 go_enter Tryz.func104, Tryz.ntmps104
 go_wp2_with fail
 refine HC.out.mono ?_
 rintro e1 w2 ⟨vr, vq, bad, rfl, own1, ⟨B2, hB2, own2, hlt⟩, rb, hbad, ap⟩
 obtain ⟨a1, c1, rfl⟩ := own_form own1.2
 obtain ⟨a6, c6, rfl⟩ := own_form own2.2
 have eb := HX.out.1.apart ap (by omega)
 have HR : Hid (RBox w2 _ _ _ _) := rb
 obtain ⟨D, hD⟩ : ∃ D : EntD, D = ⟨.slice a1 row.length c1, fam, .slice a6 qual.length c6, ts, sq, kd, .slice none 0 0, row, qual, []⟩ := ⟨_, rfl⟩
 have A4 := (Below.refl w2.heap.size w2).alloc (Nat.le_refl _) (.cells D.cells 40)
 have ed := EBox.new w2 D
 have eb3 := eb.later A4
 have rb3 := HR.out.later A4
 have BW : Below w.heap.size w (w2.alloc (.cells D.cells 40)) := (HX.out.2.1.trans (ap.below (by omega) HX.out.2.1.size)).trans (A4.mono (Nat.le_trans HX.out.2.1.size ap.size))
 have ok3 : EntD.Ok (w2.alloc (.cells D.cells 40)) D := by
  subst hD
  exact ⟨(own1.rd hbr.1 hbr.2).later A4, (own2.rd hbq.1 hbq.2).later A4, Rd.nil _⟩
 have ck := check_any ok3
 subst hD
 simp only [EntD.cells] at ed eb3 rb3 ck BW
 have z1 := rb3.vb
 have z2 := rb3.vk
 have z3 := rb3.vd
 have y0 := eb3.vr
 have y1 := eb3.fam
 have y2 := eb3.vq
 have y3 := eb3.ts
 have y4 := eb3.seq
 have y5 := eb3.kind
 have y6 := eb3.vv
 have v0 := eb3.fz 0
 have v1 := eb3.fz 1
 have v2 := eb3.fz 2
 have v3 := eb3.fz 3
 have v4 := eb3.fz 4
 have v5 := eb3.fz 5
 have v6 := eb3.fz 6
 have u0 := ed.vr
 have u1 := ed.fam
 have u2 := ed.vq
 have u3 := ed.ts
 have u4 := ed.seq
 have u5 := ed.kind
 have u6 := ed.vv
 have HCK : Hid (Calls _ _ _ _ _) := ck
 clear HC rb ck eb ok3
 simp only at y0 y1 y2 y3 y4 y5 y6 u0 u1 u2 u3 u4 u5 u6 z1 z2 z3
 have HE3 : Hid (EBox _ w.heap.size _) := eb3
 have HBW : Hid (Below w.heap.size w _) := BW
 clear eb3 BW
 cases bad with
 | true =>
  have HN : Hid (¬ ok) := fun h => by have := hbad.2 h; cases this
  clear hbad
  have fa := filled_apart (w2.alloc (.cells #[.slice a1 row.length c1, .int .i64 (fam : Int), .slice a6 qual.length c6, .int .i64 (ts : Int), .int .i64 (sq : Int), .int .i64 (kd : Int), .slice none 0 0] 40)) w.heap.size ⟨.slice none 0 0, 0, .slice none 0 0, 0, 0, 0, .slice none 0 0, [], [], []⟩
  have fb := filled_box (HE3.out) ⟨.slice none 0 0, 0, .slice none 0 0, 0, 0, 0, .slice none 0 0, [], [], []⟩
  have bw : Below w.heap.size w (filled (w2.alloc (.cells #[.slice a1 row.length c1, .int .i64 (fam : Int), .slice a6 qual.length c6, .int .i64 (ts : Int), .int .i64 (sq : Int), .int .i64 (kd : Int), .slice none 0 0] 40)) w.heap.size ⟨.slice none 0 0, 0, .slice none 0 0, 0, 0, 0, .slice none 0 0, [], [], []⟩) := (HBW.out).trans (fa.below (Nat.le_refl _) (HBW.out).size)
  have HDN : Hid (_ ∧ _) := ⟨fb, bw⟩
  clear fa fb bw
  simp only [filled] at HDN
  go_wp2
  obtain ⟨fb, bw⟩ := HDN.out
  clear HDN
  generalize ((((((((w2.alloc (.cells #[.slice a1 row.length c1, .int .i64 (fam : Int), .slice a6 qual.length c6, .int .i64 (ts : Int), .int .i64 (sq : Int), .int .i64 (kd : Int), .slice none 0 0] 40)).setCell ⟨w.heap.size, 0, none⟩ (.slice none 0 0)).setCell ⟨w.heap.size, 1, none⟩ (.int .i64 0)).setCell ⟨w.heap.size, 2, none⟩ (.slice none 0 0)).setCell ⟨w.heap.size, 3, none⟩ (.int .i64 0)).setCell ⟨w.heap.size, 4, none⟩ (.int .i64 0)).setCell ⟨w.heap.size, 5, none⟩ (.int .i64 0)).setCell ⟨w.heap.size, 6, none⟩ (.slice none 0 0)) = wz at fb bw ⊢
  have t0 := fb.vr
  have t1 := fb.fam
  have t2 := fb.vq
  have t3 := fb.ts
  have t4 := fb.seq
  have t5 := fb.kind
  have t6 := fb.vv
  simp only at t0 t1 t2 t3 t4 t5 t6
  (try simp only [Exit.inBlock, Exit.then])
  refine bodyPost_ret (v := .tuple #[.agg #[.slice none 0 0, .int .i64 0, .slice none 0 0, .int .i64 0, .int .i64 0, .int .i64 0, .slice none 0 0], .int .i64 27]) ?hres rfl ?_
  case hres => simp [results, Tryz.results104, go_sem, t0, t1, t2, t3, t4, t5, t6]
  exact ⟨fun _ => rfl, fun h => absurd h (fun h => HN.out h.1), bw⟩
 | false =>
  have HOK : Hid ok := hbad.1 rfl
  clear hbad
  have hml := rd_lens HX.out.2.2.2
  have hml2 := hml.2.2.2
  clear hml
  by_cases hp : p = m
  ·have hp1 : ((p : Int) != (m : Int)) = false := by simp; omega
   have hp2 : (p : Int) = (m : Int) := by omega
   go_wp2_with fail
   refine HCK.out.mono ?_
   rintro e4 w4 ⟨rfl, hb4⟩
   have E4 : EBox w4 w.heap.size _ := HE3.out.later hb4
   have D4 : EBox w4 w2.heap.size _ := ed.later hb4
   have HB4 : Hid (Below w.heap.size w w4) := HBW.out.trans (hb4.mono HBW.out.size)
   have HO : Hid (Own w4 _ (.slice a1 row.length c1) row.length row ∧ Own w4 B2 (.slice a6 qual.length c6) qual.length qual) := ⟨(own1.later A4).later hb4, (own2.later A4).later hb4⟩
   obtain ⟨C, hC⟩ : ∃ C, C = checkS ⟨.slice a1 row.length c1, fam, .slice a6 qual.length c6, ts, sq, kd, .slice none 0 0, row, qual, []⟩ := ⟨_, rfl⟩
   rw [← hC]
   have HCC : Hid (C = checkS ⟨.slice none 0 0, fam, .slice none 0 0, ts, sq, kd, .slice none 0 0, row, qual, []⟩) := hC
   have y0 := E4.vr
   have y1 := E4.fam
   have y2 := E4.vq
   have y3 := E4.ts
   have y4 := E4.seq
   have y5 := E4.kind
   have y6 := E4.vv
   have v0 := E4.fz 0
   have v1 := E4.fz 1
   have v2 := E4.fz 2
   have v3 := E4.fz 3
   have v4 := E4.fz 4
   have v5 := E4.fz 5
   have v6 := E4.fz 6
   have u0 := D4.vr
   have u1 := D4.fam
   have u2 := D4.vq
   have u3 := D4.ts
   have u4 := D4.seq
   have u5 := D4.kind
   have u6 := D4.vv
   simp only at y0 y1 y2 y3 y4 y5 y6 u0 u1 u2 u3 u4 u5 u6
   have HE4 : Hid (EBox w4 w.heap.size _) := E4
   clear E4 D4 hb4 hC HCK ed own1 own2 ap A4 HBW HE3
   dsimp only
   by_cases hz : C = 0
   ·have hz1 : ((C : Int) != 0) = false := by simp; omega
    have hz2 : (C : Int) = 0 := by omega
    have fa := filled_apart w4 w.heap.size ⟨.slice a1 row.length c1, fam, .slice a6 qual.length c6, ts, sq, kd, .slice none 0 0, row, qual, []⟩
    have fb := filled_box (HE4.out) ⟨.slice a1 row.length c1, fam, .slice a6 qual.length c6, ts, sq, kd, .slice none 0 0, row, qual, []⟩
    have bw : Below w.heap.size w (filled w4 w.heap.size ⟨.slice a1 row.length c1, fam, .slice a6 qual.length c6, ts, sq, kd, .slice none 0 0, row, qual, []⟩) := (HB4.out).trans (fa.below (Nat.le_refl _) (HB4.out).size)
    have o1 := (HO.out.1.apartE (HE4.out) fa)
    have o2 := (HO.out.2.apartE (HE4.out) fa)
    have HDN : Hid (_ ∧ _ ∧ _ ∧ _) := ⟨fb, bw, o1, o2⟩
    clear fa fb bw o1 o2
    simp only [filled] at HDN
    go_wp2
    obtain ⟨fb, bw, o1, o2⟩ := HDN.out
    clear HDN
    generalize (((((((w4.setCell ⟨w.heap.size, 0, none⟩ (.slice a1 row.length c1)).setCell ⟨w.heap.size, 1, none⟩ (.int .i64 (fam : Int))).setCell ⟨w.heap.size, 2, none⟩ (.slice a6 qual.length c6)).setCell ⟨w.heap.size, 3, none⟩ (.int .i64 (ts : Int))).setCell ⟨w.heap.size, 4, none⟩ (.int .i64 (sq : Int))).setCell ⟨w.heap.size, 5, none⟩ (.int .i64 (kd : Int))).setCell ⟨w.heap.size, 6, none⟩ (.slice none 0 0)) = wz at fb bw o1 o2 ⊢
    have t0 := fb.vr
    have t1 := fb.fam
    have t2 := fb.vq
    have t3 := fb.ts
    have t4 := fb.seq
    have t5 := fb.kind
    have t6 := fb.vv
    simp only at t0 t1 t2 t3 t4 t5 t6
    (try simp only [Exit.inBlock, Exit.then])
    refine bodyPost_ret (v := .tuple #[.agg #[.slice a1 row.length c1, .int .i64 (fam : Int), .slice a6 qual.length c6, .int .i64 (ts : Int), .int .i64 (sq : Int), .int .i64 (kd : Int), .slice none 0 0], .int .i64 0]) ?hres rfl ?_
    case hres => simp [results, Tryz.results104, go_sem, t0, t1, t2, t3, t4, t5, t6]
    exact ⟨fun h => absurd ⟨HOK.out, hp, HCC.out.symm.trans hz⟩ h, fun _ => ⟨_, _, rfl, o1.mono HX.out.2.1.size, B2, Nat.le_trans HX.out.2.1.size hB2, o2, hlt⟩, bw⟩
   ·have hz1 : ((C : Int) != 0) = true := by simp; omega
    have hz2 : ¬ ((C : Int) = 0) := by omega
    have fa := filled_apart w4 w.heap.size ⟨.slice none 0 0, 0, .slice none 0 0, 0, 0, 0, .slice none 0 0, [], [], []⟩
    have fb := filled_box (HE4.out) ⟨.slice none 0 0, 0, .slice none 0 0, 0, 0, 0, .slice none 0 0, [], [], []⟩
    have bw : Below w.heap.size w (filled w4 w.heap.size ⟨.slice none 0 0, 0, .slice none 0 0, 0, 0, 0, .slice none 0 0, [], [], []⟩) := (HB4.out).trans (fa.below (Nat.le_refl _) (HB4.out).size)
    have HDN : Hid (_ ∧ _) := ⟨fb, bw⟩
    clear fa fb bw
    simp only [filled] at HDN
    go_wp2
    obtain ⟨fb, bw⟩ := HDN.out
    clear HDN
    generalize (((((((w4.setCell ⟨w.heap.size, 0, none⟩ (.slice none 0 0)).setCell ⟨w.heap.size, 1, none⟩ (.int .i64 0)).setCell ⟨w.heap.size, 2, none⟩ (.slice none 0 0)).setCell ⟨w.heap.size, 3, none⟩ (.int .i64 0)).setCell ⟨w.heap.size, 4, none⟩ (.int .i64 0)).setCell ⟨w.heap.size, 5, none⟩ (.int .i64 0)).setCell ⟨w.heap.size, 6, none⟩ (.slice none 0 0)) = wz at fb bw ⊢
    have t0 := fb.vr
    have t1 := fb.fam
    have t2 := fb.vq
    have t3 := fb.ts
    have t4 := fb.seq
    have t5 := fb.kind
    have t6 := fb.vv
    simp only at t0 t1 t2 t3 t4 t5 t6
    (try simp only [Exit.inBlock, Exit.then])
    refine bodyPost_ret (v := .tuple #[.agg #[.slice none 0 0, .int .i64 0, .slice none 0 0, .int .i64 0, .int .i64 0, .int .i64 0, .slice none 0 0], .int .i64 27]) ?hres rfl ?_
    case hres => simp [results, Tryz.results104, go_sem, t0, t1, t2, t3, t4, t5, t6]
    exact ⟨fun _ => rfl, fun h => absurd h (fun h => hz (HCC.out.trans h.2.2)), bw⟩
  ·have hp1 : ((p : Int) != (m : Int)) = true := by simp; omega
   have hp2 : ¬ ((p : Int) = (m : Int)) := by omega
   have fa := filled_apart (w2.alloc (.cells #[.slice a1 row.length c1, .int .i64 (fam : Int), .slice a6 qual.length c6, .int .i64 (ts : Int), .int .i64 (sq : Int), .int .i64 (kd : Int), .slice none 0 0] 40)) w.heap.size ⟨.slice none 0 0, 0, .slice none 0 0, 0, 0, 0, .slice none 0 0, [], [], []⟩
   have fb := filled_box (HE3.out) ⟨.slice none 0 0, 0, .slice none 0 0, 0, 0, 0, .slice none 0 0, [], [], []⟩
   have bw : Below w.heap.size w (filled (w2.alloc (.cells #[.slice a1 row.length c1, .int .i64 (fam : Int), .slice a6 qual.length c6, .int .i64 (ts : Int), .int .i64 (sq : Int), .int .i64 (kd : Int), .slice none 0 0] 40)) w.heap.size ⟨.slice none 0 0, 0, .slice none 0 0, 0, 0, 0, .slice none 0 0, [], [], []⟩) := (HBW.out).trans (fa.below (Nat.le_refl _) (HBW.out).size)
   have HDN : Hid (_ ∧ _) := ⟨fb, bw⟩
   clear fa fb bw
   simp only [filled] at HDN
   go_wp2
   obtain ⟨fb, bw⟩ := HDN.out
   clear HDN
   generalize ((((((((w2.alloc (.cells #[.slice a1 row.length c1, .int .i64 (fam : Int), .slice a6 qual.length c6, .int .i64 (ts : Int), .int .i64 (sq : Int), .int .i64 (kd : Int), .slice none 0 0] 40)).setCell ⟨w.heap.size, 0, none⟩ (.slice none 0 0)).setCell ⟨w.heap.size, 1, none⟩ (.int .i64 0)).setCell ⟨w.heap.size, 2, none⟩ (.slice none 0 0)).setCell ⟨w.heap.size, 3, none⟩ (.int .i64 0)).setCell ⟨w.heap.size, 4, none⟩ (.int .i64 0)).setCell ⟨w.heap.size, 5, none⟩ (.int .i64 0)).setCell ⟨w.heap.size, 6, none⟩ (.slice none 0 0)) = wz at fb bw ⊢
   have t0 := fb.vr
   have t1 := fb.fam
   have t2 := fb.vq
   have t3 := fb.ts
   have t4 := fb.seq
   have t5 := fb.kind
   have t6 := fb.vv
   simp only at t0 t1 t2 t3 t4 t5 t6
   (try simp only [Exit.inBlock, Exit.then])
   refine bodyPost_ret (v := .tuple #[.agg #[.slice none 0 0, .int .i64 0, .slice none 0 0, .int .i64 0, .int .i64 0, .int .i64 0, .slice none 0 0], .int .i64 27]) ?hres rfl ?_
   case hres => simp [results, Tryz.results104, go_sem, t0, t1, t2, t3, t4, t5, t6]
   exact ⟨fun _ => rfl, fun h => absurd h (fun h => hp h.2.1), bw⟩
end Go.Proofs.YtchebhafabhabaaGreatDoor

namespace Go.Proofs.YtchebhafabhabaaGreatDoor
open Go.RowKit
set_option linter.unusedVariables false

set_option maxRecDepth 100000 in
set_option maxHeartbeats 1000000 in
theorem refOrdered_any {v : Value} {bs : List Nat} {w : World} (hr : Rd w v bs) (hl : (ordL bs).length ≤ 140737488355328) :
  Calls Tryz.prog 105 #[v] w fun e w' => ∃ a m c, e = .returned (.slice a m c) ∧ Own w' w.heap.size (.slice a m c) m (ordL bs) ∧ Below w.heap.size w w' := by
 obtain ⟨a, n, cap, rfl⟩ := rd_slice hr
 obtain ⟨hn, hle, hm, hl48⟩ := rd_lens hr
 have HN : Hid (n = bs.length) := hn
 have hol := ordL_len bs
 rw [← hn] at hol
 obtain ⟨C, hC⟩ : ∃ C, C = bs.count 0 := ⟨_, rfl⟩
 rw [← hC] at hol
 have hsum : n + C + 2 ≤ 140737488355328 := by omega
 have HOL : Hid ((ordL bs).length = n + C + 2) := hol
 clear hn hC hm hol hl
 go_enter Tryz.func105, Tryz.ntmps105
 go_wp2
 go_loopw [3, 4] (fun s i wr => ∃ t a m c, t ≤ n ∧ i = .int .i64 ((t : Nat) : Int) ∧ s = .slice a m c ∧ Own wr w.heap.size (.slice a m c) m (escL (bs.take t)) ∧ Below w.heap.size w wr) (fun _ i _ => n - (intOf i).toNat)
 case atStart => exact ⟨0, _, _, _, Nat.zero_le _, rfl, rfl, ⟨rfl, World.ownsRow_nil _ _ _ _⟩, Below.refl _ _⟩
 case round =>
  obtain ⟨t, a1, m1, c1, htl, rfl, rfl, own1, hb1⟩ := hrel
  have hs1 := hb1.size
  have hme := escL_le bs t
  have hm1 : m1 ≤ n + C := by
   rw [own1.1]
   have := HOL.out
   unfold ordL at this
   rw [List.length_append] at this
   simp at this
   omega
  clear hme
  by_cases hlt : t < n
  ·have hlt2 : (t : Int) < (n : Int) := by omega
   rcases rd_some hr with ⟨_, h0, _⟩ | ⟨b, off, rfl⟩
   ·omega
   obtain ⟨hcell0, hcl⟩ := rd_cell hr t hlt
   have hcell : wr.cell? ⟨b, off + t, none⟩ = some (.int .u8 ((bs.getD t 0 : Nat) : Int)) := by
    rw [hb1.cell (p := ⟨b, off + t, none⟩) (World.block_lt_of_cell? w _ hcell0)]; exact hcell0
   have htk := take_succ_getD bs t (by rw [← HN.out]; exact hlt)
   obtain ⟨c, hcd⟩ : ∃ c, c = bs.getD t 0 := ⟨_, rfl⟩
   rw [← hcd] at hcell hcl htk
   have hbc := World.block_lt_of_cell? wr _ hcell
   have HTK : Hid (bs.take (t + 1) = bs.take t ++ [c]) := htk
   clear hcd htk
   by_cases hc0 : c = 0
   ·subst hc0
    have HE : Hid (escL (bs.take (t + 1)) = (escL (bs.take t) ++ [0]) ++ [255]) := by
     unfold Hid; rw [HTK.out, escL_append]; simp [escL]
    go_wp2_with (first
     | (at_builtin; refine wpList_append_new rfl (.tmp 11) _ rfl w.heap.size a1 m1 c1 _ rfl own1 [_] 1 rfl [0] rfl rfl (by omega) hs1 ?_; intro a3 m3 c3 w3 own3 hb3; have hcell3 : w3.cell? ⟨b, off + t, none⟩ = some (.int .u8 ((0 : Nat) : Int)) := by (rw [(hb1.trans hb3).cell (p := ⟨b, off + t, none⟩) (World.block_lt_of_cell? w _ hcell0), ← hb1.cell (p := ⟨b, off + t, none⟩) (World.block_lt_of_cell? w _ hcell0)]; exact hcell))
     | (at_builtin; refine wpList_append_new rfl (.tmp 23) _ rfl w.heap.size a3 m3 c3 _ rfl own3 [_] 1 rfl [255] rfl rfl (own_room own3 hm1 hsum own1.1) (hb1.trans hb3).size ?_; intro a4 m4 c4 w4 own4 hb4))
    go_roundw
    case rel => exact ⟨t + 1, a4, m4, c4, by omega, by go_num, rfl, by rw [HE.out]; exact own4, (hb1.trans hb3).trans hb4⟩
    case measure => simp [intOf]; omega
   ·have HE : Hid (escL (bs.take (t + 1)) = escL (bs.take t) ++ [c]) := by
     unfold Hid; rw [HTK.out, escL_append]; simp [escL, hc0]
    have hcb : ((c : Int) == 0) = false := by simp; omega
    clear hc0
    go_wp2_with (at_builtin; refine wpList_append_new rfl (.tmp 11) _ rfl w.heap.size a1 m1 c1 _ rfl own1 [_] 1 rfl [c] rfl rfl (by omega) hs1 ?_; intro a3 m3 c3 w3 own3 hb3; have hcell3 : w3.cell? ⟨b, off + t, none⟩ = some (.int .u8 ((c : Nat) : Int)) := by (rw [(hb1.trans hb3).cell (p := ⟨b, off + t, none⟩) (World.block_lt_of_cell? w _ hcell0), ← hb1.cell (p := ⟨b, off + t, none⟩) (World.block_lt_of_cell? w _ hcell0)]; exact hcell))
    go_roundw
    case rel => exact ⟨t + 1, a3, m3, c3, by omega, by go_num, rfl, by rw [HE.out]; exact own3, hb1.trans hb3⟩
    case measure => simp [intOf]; omega
  ·have hge : (n : Int) ≤ (t : Int) := by omega
   have HE : Hid (escL (bs.take t) = escL bs) := by unfold Hid; rw [List.take_of_length_le (by rw [← HN.out]; omega)]
   go_wp2_with (at_builtin; refine wpList_append_new rfl (.tmp 26) _ rfl w.heap.size a1 m1 c1 _ rfl own1 [_, _] 2 rfl [0, 1] rfl rfl (by omega) hs1 ?_; intro a3 m3 c3 w3 own3 hb3)
   go_ret
   refine ⟨a3, m3, c3, rfl, ?_, hb1.trans hb3⟩
   unfold ordL
   rw [← HE.out]
   exact own3

theorem rord_step (c : Nat) (r acc : List Nat) (i : Nat) (hc : c ≠ 0) : rord (c :: r) acc i = rord r (acc ++ [c]) (i + 1) := by
 cases r with
 | nil => rfl
 | cons d r => rw [rord, if_pos hc]
theorem rord_nil (acc : List Nat) (i : Nat) : rord [] acc i = ([], 0, 10) := by rw [rord]
theorem rord_zero (d : Nat) (r acc : List Nat) (i : Nat) : rord (0 :: d :: r) acc i = if d = 1 then (acc, i + 2, 0) else if d = 255 then rord r (acc ++ [0]) (i + 2) else ([], 0, 11) := by
 conv => lhs; rw [rord]
 exact if_neg (by simp)

end Go.Proofs.YtchebhafabhabaaGreatDoor
