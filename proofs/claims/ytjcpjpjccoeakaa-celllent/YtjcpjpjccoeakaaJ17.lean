import Derived.Test.YtjcpjpjccoeakaaCell18
namespace Go.Proofs.Ytjcpjpjccoeakaa
open Go.RowKit
set_option linter.unusedVariables false

theorem EBox.fz7 {w : World} {g : Nat} {e : EntD} (h : EBox w g e) : w.frozen? ⟨g, 0, none⟩ = false ∧ w.frozen? ⟨g, 1, none⟩ = false ∧ w.frozen? ⟨g, 2, none⟩ = false ∧ w.frozen? ⟨g, 3, none⟩ = false ∧ w.frozen? ⟨g, 4, none⟩ = false ∧ w.frozen? ⟨g, 5, none⟩ = false ∧ w.frozen? ⟨g, 6, none⟩ = false := ⟨h.fz 0, h.fz 1, h.fz 2, h.fz 3, h.fz 4, h.fz 5, h.fz 6⟩
theorem bytesR_ok (bs : List Nat) (k most : Nat) (hb : Bys bs) : Bys (bytesR bs k most).1 ∧ (bytesR bs k most).1.length ≤ most ∧ (bytesR bs k most).2.1 ≤ bs.length := by
  unfold bytesR
  split
  · exact ⟨by intro x hx; simp at hx, by simp, by simp⟩
  · split
    · exact ⟨by intro x hx; simp at hx, by simp, by simp⟩
    · split
      · exact ⟨by intro x hx; simp at hx, by simp, by simp⟩
      · refine ⟨fun x hx => hb x (List.mem_of_mem_drop (List.mem_of_mem_take hx)), by simp; omega, by simp only; omega⟩
theorem readBytes_at {v : Value} {bs : List Nat} {w : World} (hr : Rd w v bs) (k most : Nat) (hk : k ≤ bs.length) (hmost : most < 9223372036854775808) (h47 : bs.length ≤ 140737488355328) {L : List Nat} {P E : Nat} (q : bytesR bs k most = (L, P, E)) :
    Calls Try.prog 65 #[v, .int .i64 (k : Int), .int .i64 (most : Int)] w fun e w' => ∃ a m c, e = .returned (.tuple #[.slice a m c, .int .i64 (P : Int), .int .i64 (E : Int)]) ∧ Own w' w.heap.size (.slice a m c) m L ∧ Below w.heap.size w w' := by
  have h := readBytes_in hr k most hk hmost h47
  rw [q] at h
  exact h

/-- What Unpack answers. -/
def UnpackedAs (w w' : World) (r : Ending) (K V : List Nat) (E1 P2 E2 : Nat) : Prop :=
  Below w.heap.size w w' ∧
  ((∃ D : EntD, E1 = 0 ∧ E2 = 0 ∧ checkS D = 0 ∧ D.val = V ∧ keyL D = K ∧ Bys D.row ∧ Bys D.qual ∧ r = .returned (.tuple #[.agg D.cells, .int .i64 (P2 : Int), .int .i64 0]) ∧ EntD.Ok w' D) ∨
   (∃ E : Nat, E ≠ 0 ∧ r = .returned (.tuple #[.agg #[.slice none 0 0, .int .i64 0, .slice none 0 0, .int .i64 0, .int .i64 0, .int .i64 0, .slice none 0 0], .int .i64 0, .int .i64 (E : Int)]) ∧ ¬ (E1 = 0 ∧ E2 = 0 ∧ ∃ D : EntD, checkS D = 0 ∧ D.val = V ∧ keyL D = K)))

theorem check_drop {D : EntD} (h : checkS D = 0) (a b c : Value) : checkS ⟨a, D.fam, b, D.ts, D.seq, D.kind, c, D.row, D.qual, []⟩ = 0 := by
  obtain ⟨f1, f2, f3, f4, f5, f6, f7, _, _⟩ := check_facts h
  unfold checkS
  simp only
  rw [if_neg (by omega), if_neg (by omega), if_neg, if_neg (by omega), if_neg (by omega), if_neg (by omega), if_neg (by simp)]
  rintro (h | ⟨h1, h2⟩)
  · omega
  · rw [f4 h2] at h1; simp at h1
theorem check_put {D : EntD} (h : checkS D = 0) {V : List Nat} (hV : V.length ≤ 4096) (hk : V = [] ∨ D.kind = 1) (a b c : Value) : checkS ⟨a, D.fam, b, D.ts, D.seq, D.kind, c, D.row, D.qual, V⟩ = 0 := by
  obtain ⟨f1, f2, f3, f4, f5, f6, f7, _, _⟩ := check_facts h
  unfold checkS
  simp only
  rw [if_neg (by omega), if_neg (by omega), if_neg, if_neg (by omega), if_neg (by omega), if_neg (by omega), if_neg]
  · rintro (h | ⟨h1, h2⟩)
    · omega
    · rcases hk with rfl | hk
      · simp at h1
      · exact h2 hk
  · rintro (h | ⟨h1, h2⟩)
    · omega
    · rw [f4 h2] at h1; simp at h1
theorem keyL_val (D : EntD) (a b c : Value) (V : List Nat) : keyL ⟨a, D.fam, b, D.ts, D.seq, D.kind, c, D.row, D.qual, V⟩ = keyL D := rfl
theorem kind_of_key {D E : EntD} (hd : checkS D = 0) (he : checkS E = 0) (h : keyL D = keyL E) : D.kind = E.kind := by
  have h8 : (keyL D).getLast? = (keyL E).getLast? := by rw [h]
  obtain ⟨_, _, _, _, _, _, kd, _⟩ := check_facts hd
  obtain ⟨_, _, _, _, _, _, ke, _⟩ := check_facts he
  simp only [keyL, List.getLast?_append, List.getLast?_singleton, Option.some_or, Option.some.injEq] at h8
  omega

set_option maxRecDepth 100000 in
set_option maxHeartbeats 8000000 in
theorem unpack_any {w : World} {m c : Nat} {a : Option Addr} {bs K V : List Nat} {k P1 E1 P2 E2 : Nat} (hr : Rd w (.slice a m c) bs) (hk : k ≤ bs.length) (h47 : bs.length ≤ 140737488355328) (q1 : bytesR bs k 1048 = (K, P1, E1)) (q2 : bytesR bs P1 4096 = (V, P2, E2)) :
    Calls Try.prog 28 #[.slice a m c, .int .i64 (k : Int)] w fun r w' => UnpackedAs w w' r K V E1 P2 E2 := by
  have o1 := bytesR_ok bs k 1048 hr.1
  rw [q1] at o1
  have o2 := bytesR_ok bs P1 4096 hr.1
  rw [q2] at o2
  simp only at o1 o2
  have HO1 : Hid (Bys K ∧ K.length ≤ 1048 ∧ P1 ≤ bs.length) := o1
  have HO2 : Hid (Bys V ∧ V.length ≤ 4096 ∧ P2 ≤ bs.length) := o2
  have HQ : Hid (bytesR bs k 1048 = (K, P1, E1) ∧ bytesR bs P1 4096 = (V, P2, E2) ∧ k ≤ bs.length ∧ bs.length ≤ 140737488355328) := ⟨q1, q2, hk, h47⟩
  have HR : Hid (Rd w (.slice a m c) bs) := hr
  have A1 := (Below.refl w.heap.size w).alloc (Nat.le_refl _) (.cells (EntD.cells ⟨.slice none 0 0, 0, .slice none 0 0, 0, 0, 0, .slice none 0 0, [], [], []⟩) 35)
  have b1 := EBox.new w ⟨.slice none 0 0, 0, .slice none 0 0, 0, 0, 0, .slice none 0 0, [], [], []⟩
  have HX : Hid (_ ∧ _) := ⟨b1, A1⟩
  clear o1 o2 q1 q2 hk h47 hr b1 A1
  simp only [EntD.cells] at HX
  go_enter Try.func28, Try.ntmps28
  go_wp2_with fail
  refine (readBytes_at (HR.out.later HX.out.2) k 1048 HQ.out.2.2.1 (by decide) HQ.out.2.2.2 HQ.out.1).mono ?_
  rintro e1 w1 ⟨a1, m1, c1, rfl, own1, hb1⟩
  have HB1 : Hid (Below w.heap.size w w1) := HX.out.2.trans (hb1.mono HX.out.2.size)
  have bx1 : Hid (EBox w1 w.heap.size ⟨.slice none 0 0, 0, .slice none 0 0, 0, 0, 0, .slice none 0 0, [], [], []⟩) := HX.out.1.later hb1
  clear HX hb1
  by_cases hE1 : E1 = 0
  · subst hE1
    have r1 := own1.rd HO1.out.1 (by rw [own1.1]; have := HO1.out.2.1; omega)
    clear own1
    go_wp2_with fail
    refine (parse_any r1 (by have := HO1.out.2.1; omega)).mono ?_
    rintro e2 w2 ⟨hb2, hp⟩
    have HB2 : Hid (Below w.heap.size w w2) := HB1.out.trans (hb2.mono HB1.out.size)
    have bx2 : Hid (EBox w2 w.heap.size ⟨.slice none 0 0, 0, .slice none 0 0, 0, 0, 0, .slice none 0 0, [], [], []⟩) := bx1.out.later hb2
    have hlt : w.heap.size < w2.heap.size := World.block_lt_of_cell? w2 ⟨w.heap.size, 0, none⟩ bx2.out.vr
    clear bx1 HB1 hb2 r1
    rcases hp with ⟨D, hc, hv, hkk, hbr, hbq, hvv, rfl, o1, B, hB, o2, _⟩ | ⟨hno, rfl⟩
    · obtain ⟨vr, fam, vq, ts, sq, kd, vv, row, qual, val⟩ := D
      simp only at hv hbr hbq hvv o1 o2
      subst hv hvv
      obtain ⟨ar, cr, rfl⟩ := own_form o1.2
      obtain ⟨aq, cq, rfl⟩ := own_form o2.2
      have HC : Hid (checkS ⟨.slice ar row.length cr, fam, .slice aq qual.length cq, ts, sq, kd, .slice none 0 0, row, qual, []⟩ = 0 ∧ keyL ⟨.slice ar row.length cr, fam, .slice aq qual.length cq, ts, sq, kd, .slice none 0 0, row, qual, []⟩ = K ∧ Bys row ∧ Bys qual) := ⟨hc, hkk, hbr, hbq⟩
      have HO : Hid (∃ B1 B2, Own w2 B1 (.slice ar row.length cr) row.length row ∧ Own w2 B2 (.slice aq qual.length cq) qual.length qual) := ⟨_, _, o1, o2⟩
      have A3 := (Below.refl w2.heap.size w2).alloc (Nat.le_refl _) (.cells (EntD.cells ⟨.slice ar row.length cr, fam, .slice aq qual.length cq, ts, sq, kd, .slice none 0 0, row, qual, []⟩) 35)
      have b3 := EBox.new w2 ⟨.slice ar row.length cr, fam, .slice aq qual.length cq, ts, sq, kd, .slice none 0 0, row, qual, []⟩
      have HX : Hid (_ ∧ _) := ⟨b3, A3⟩
      clear hc hkk hbr hbq o1 o2 hB A3 b3
      simp only [EntD.cells] at HX ⊢
      go_wp2_with fail
      refine (readBytes_at ((HR.out.later HB2.out).later HX.out.2) P1 4096 HO1.out.2.2 (by decide) HQ.out.2.2.2 HQ.out.2.1).mono ?_
      rintro e3 w3 ⟨a3, m3, c3, rfl, own3, hb3⟩
      have hb23 := HX.out.2.trans (hb3.mono HX.out.2.size)
      have B3 : Hid (Below w.heap.size w w3) := HB2.out.trans (hb23.mono HB2.out.size)
      have bg : EBox w3 w.heap.size ⟨.slice none 0 0, 0, .slice none 0 0, 0, 0, 0, .slice none 0 0, [], [], []⟩ := bx2.out.later hb23
      have be : EBox w3 w2.heap.size _ := HX.out.1.later hb3
      have HO3 : Hid (∃ B1 B2, Own w3 B1 (.slice ar row.length cr) row.length row ∧ Own w3 B2 (.slice aq qual.length cq) qual.length qual) := by
        obtain ⟨B1, B2, x, y⟩ := HO.out
        exact ⟨B1, B2, x.later hb23, y.later hb23⟩
      have hm3 : m3 = V.length := own3.1
      have hV := HO2.out.2.1
      clear HX HO bx2 HB2 hb23 hb3
      have n1 : ¬ (w2.heap.size = w.heap.size) := by omega
      have n2 : ¬ (w.heap.size = w2.heap.size) := by omega
      by_cases hE2 : E2 = 0
      · subst hE2
        by_cases hgo : V = [] ∨ kd = 1
        · have HGO : Hid (V = [] ∨ kd = 1) := hgo
          have ap1 := apart_set w3 w2.heap.size 6 (.slice a3 m3 c3)
          have be2 := be.set6 (.slice a3 m3 c3) V
          have bg2 := bg.apart ap1 n2
          have fa := filled_apart (w3.setCell ⟨w2.heap.size, 6, none⟩ (.slice a3 m3 c3)) w.heap.size ⟨.slice ar row.length cr, fam, .slice aq qual.length cq, ts, sq, kd, .slice a3 m3 c3, row, qual, V⟩
          have fb := filled_box bg2 ⟨.slice ar row.length cr, fam, .slice aq qual.length cq, ts, sq, kd, .slice a3 m3 c3, row, qual, V⟩
          have bw := (B3.out.trans (ap1.below (Nat.le_of_lt hlt) B3.out.size)).trans (fa.below (Nat.le_refl _) (B3.out.trans (ap1.below (Nat.le_of_lt hlt) B3.out.size)).size)
          obtain ⟨B1, B2, x1, x2⟩ := HO3.out
          have y1 := (x1.apartE be ap1).apartE bg2 fa
          have y2 := (x2.apartE be ap1).apartE bg2 fa
          have y3 := (own3.apartE be ap1).apartE bg2 fa
          have HDN : Hid (_ ∧ _ ∧ _ ∧ _ ∧ _) := ⟨fb, bw, y1, y2, y3⟩
          clear fa fb bw y1 y2 y3 x1 x2 ap1 be2 bg2 hgo
          simp only [filled] at HDN
          obtain ⟨g0, g1, g2, g3, g4, g5, g6⟩ := bg.cells7
          obtain ⟨gf0, gf1, gf2, gf3, gf4, gf5, gf6⟩ := bg.fz7
          simp only at g0 g1 g2 g3 g4 g5 g6
          obtain ⟨e0, e1, e2, e3, e4, e5, e6⟩ := be.cells7
          obtain ⟨ef0, ef1, ef2, ef3, ef4, ef5, ef6⟩ := be.fz7
          simp only at e0 e1 e2 e3 e4 e5 e6
          have W : (0 < V.length ∧ kd = 1) ∨ V.length = 0 := by
            rcases HGO.out with rfl | h
            · exact .inr rfl
            · rcases Nat.eq_zero_or_pos V.length with h0 | h0
              · exact .inr h0
              · exact .inl ⟨h0, h⟩
          have FIN : Hid (∀ wz, (EBox wz w.heap.size ⟨.slice ar row.length cr, fam, .slice aq qual.length cq, ts, sq, kd, .slice a3 m3 c3, row, qual, V⟩ ∧ Below w.heap.size w wz ∧ Own wz B1 (.slice ar row.length cr) row.length row ∧ Own wz B2 (.slice aq qual.length cq) qual.length qual ∧ Own wz (w2.alloc (.cells (EntD.cells ⟨.slice ar row.length cr, fam, .slice aq qual.length cq, ts, sq, kd, .slice none 0 0, row, qual, []⟩) 35)).heap.size (.slice a3 m3 c3) m3 V) → UnpackedAs w wz (.returned (.tuple #[.agg #[.slice ar row.length cr, .int .i64 fam, .slice aq qual.length cq, .int .i64 ts, .int .i64 sq, .int .i64 kd, .slice a3 m3 c3], .int .i64 (P2 : Int), .int .i64 0])) K V 0 P2 0) := by
            rintro wz ⟨_, bw, y1, y2, y3⟩
            refine ⟨bw, .inl ⟨⟨.slice ar row.length cr, fam, .slice aq qual.length cq, ts, sq, kd, .slice a3 m3 c3, row, qual, V⟩, rfl, rfl, check_put HC.out.1 HO2.out.2.1 HGO.out _ _ _, rfl, HC.out.2.1, HC.out.2.2.1, HC.out.2.2.2, rfl, ?_⟩⟩
            exact ⟨y1.rd HC.out.2.2.1 (by have := (check_facts HC.out.1).1.2; simp only at this; omega), y2.rd HC.out.2.2.2 (by have := (check_facts HC.out.1).2.2.1; simp only at this; omega), y3.rd HO2.out.1 (by omega)⟩
          rcases W with ⟨hp, rfl⟩ | hz
          · have d0 : (0 : Int) < (m3 : Int) := by omega
            have dd : decide ((0 : Int) < (m3 : Int)) = true := decide_eq_true d0
            clear hm3 hV hp
            go_wp2
            have HH := FIN.out _ HDN.out
            obtain ⟨fb, _, _, _, _⟩ := HDN.out
            clear HDN FIN
            generalize ((((((((w3.setCell ⟨w2.heap.size, 6, none⟩ (.slice a3 m3 c3)).setCell ⟨w.heap.size, 0, none⟩ (.slice ar row.length cr)).setCell ⟨w.heap.size, 1, none⟩ (.int .i64 fam)).setCell ⟨w.heap.size, 2, none⟩ (.slice aq qual.length cq)).setCell ⟨w.heap.size, 3, none⟩ (.int .i64 ts)).setCell ⟨w.heap.size, 4, none⟩ (.int .i64 sq)).setCell ⟨w.heap.size, 5, none⟩ (.int .i64 1)).setCell ⟨w.heap.size, 6, none⟩ (.slice a3 m3 c3)) = wz at fb HH ⊢
            obtain ⟨t0, t1, t2, t3, t4, t5, t6⟩ := fb.cells7
            simp only at t0 t1 t2 t3 t4 t5 t6
            (try simp only [Exit.inBlock, Exit.then])
            refine bodyPost_ret (v := .tuple #[.agg #[.slice ar row.length cr, .int .i64 fam, .slice aq qual.length cq, .int .i64 ts, .int .i64 sq, .int .i64 1, .slice a3 m3 c3], .int .i64 (P2 : Int), .int .i64 0]) ?hres rfl HH
            case hres => simp [results, Try.results28, go_sem, t0, t1, t2, t3, t4, t5, t6]
          · obtain rfl : m3 = 0 := by omega
            clear hm3 hV hz
            go_wp2
            have HH := FIN.out _ HDN.out
            obtain ⟨fb, _, _, _, _⟩ := HDN.out
            clear HDN FIN
            generalize ((((((((w3.setCell ⟨w2.heap.size, 6, none⟩ (.slice a3 0 c3)).setCell ⟨w.heap.size, 0, none⟩ (.slice ar row.length cr)).setCell ⟨w.heap.size, 1, none⟩ (.int .i64 fam)).setCell ⟨w.heap.size, 2, none⟩ (.slice aq qual.length cq)).setCell ⟨w.heap.size, 3, none⟩ (.int .i64 ts)).setCell ⟨w.heap.size, 4, none⟩ (.int .i64 sq)).setCell ⟨w.heap.size, 5, none⟩ (.int .i64 kd)).setCell ⟨w.heap.size, 6, none⟩ (.slice a3 0 c3)) = wz at fb HH ⊢
            obtain ⟨t0, t1, t2, t3, t4, t5, t6⟩ := fb.cells7
            simp only at t0 t1 t2 t3 t4 t5 t6
            (try simp only [Exit.inBlock, Exit.then])
            refine bodyPost_ret (v := .tuple #[.agg #[.slice ar row.length cr, .int .i64 fam, .slice aq qual.length cq, .int .i64 ts, .int .i64 sq, .int .i64 kd, .slice a3 0 c3], .int .i64 (P2 : Int), .int .i64 0]) ?hres rfl HH
            case hres => simp [results, Try.results28, go_sem, t0, t1, t2, t3, t4, t5, t6]
        · have hp : 0 < V.length := by
            rcases Nat.eq_zero_or_pos V.length with h | h
            · exact absurd (.inl (List.eq_nil_of_length_eq_zero h)) hgo
            · exact h
          have hk1 : ¬ (kd = 1) := fun h => hgo (.inr h)
          have hk2 : (kd != 1) = true := by simpa using hk1
          have HNO : Hid (¬ ∃ D : EntD, checkS D = 0 ∧ D.val = V ∧ keyL D = K) := by
            rintro ⟨D, h1, h2, h3⟩
            have e := kind_of_key h1 HC.out.1 (h3.trans HC.out.2.1.symm)
            simp only at e
            have := (check_facts h1).2.2.2.2.2.2.2.2 (by rw [e]; exact hk1)
            rw [← h2, this] at hp
            simp at hp
          have d0 : (0 : Int) < (m3 : Int) := by omega
          have dd : decide ((0 : Int) < (m3 : Int)) = true := decide_eq_true d0
          clear hgo
          obtain ⟨g0, g1, g2, g3, g4, g5, g6⟩ := bg.cells7
          obtain ⟨gf0, gf1, gf2, gf3, gf4, gf5, gf6⟩ := bg.fz7
          simp only at g0 g1 g2 g3 g4 g5 g6
          obtain ⟨e0, e1, e2, e3, e4, e5, e6⟩ := be.cells7
          simp only at e0 e1 e2 e3 e4 e5 e6
          have fa := filled_apart w3 w.heap.size ⟨.slice none 0 0, 0, .slice none 0 0, 0, 0, 0, .slice none 0 0, [], [], []⟩
          have fb := filled_box bg ⟨.slice none 0 0, 0, .slice none 0 0, 0, 0, 0, .slice none 0 0, [], [], []⟩
          have bw := B3.out.trans (fa.below (Nat.le_refl _) B3.out.size)
          have HDN : Hid (_ ∧ _) := ⟨fb, bw⟩
          clear fa fb bw
          simp only [filled] at HDN
          go_wp2
          obtain ⟨fb, bw⟩ := HDN.out
          clear HDN
          generalize (((((((w3.setCell ⟨w.heap.size, 0, none⟩ (.slice none 0 0)).setCell ⟨w.heap.size, 1, none⟩ (.int .i64 0)).setCell ⟨w.heap.size, 2, none⟩ (.slice none 0 0)).setCell ⟨w.heap.size, 3, none⟩ (.int .i64 0)).setCell ⟨w.heap.size, 4, none⟩ (.int .i64 0)).setCell ⟨w.heap.size, 5, none⟩ (.int .i64 0)).setCell ⟨w.heap.size, 6, none⟩ (.slice none 0 0)) = wz at fb bw ⊢
          obtain ⟨t0, t1, t2, t3, t4, t5, t6⟩ := fb.cells7
          simp only at t0 t1 t2 t3 t4 t5 t6
          (try simp only [Exit.inBlock, Exit.then])
          refine bodyPost_ret (v := .tuple #[.agg #[.slice none 0 0, .int .i64 0, .slice none 0 0, .int .i64 0, .int .i64 0, .int .i64 0, .slice none 0 0], .int .i64 0, .int .i64 (29)]) ?hres rfl ?_
          case hres => simp [results, Try.results28, go_sem, t0, t1, t2, t3, t4, t5, t6]
          exact ⟨bw, .inr ⟨29, by decide, rfl, fun h => HNO.out h.2.2⟩⟩
      · have hE2' : ¬ ((E2 : Int) = 0) := by omega
        have hE2b : ((E2 : Int) != 0) = true := by simp; omega
        obtain ⟨g0, g1, g2, g3, g4, g5, g6⟩ := bg.cells7
        obtain ⟨gf0, gf1, gf2, gf3, gf4, gf5, gf6⟩ := bg.fz7
        simp only at g0 g1 g2 g3 g4 g5 g6
        have fa := filled_apart w3 w.heap.size ⟨.slice none 0 0, 0, .slice none 0 0, 0, 0, 0, .slice none 0 0, [], [], []⟩
        have fb := filled_box bg ⟨.slice none 0 0, 0, .slice none 0 0, 0, 0, 0, .slice none 0 0, [], [], []⟩
        have bw := B3.out.trans (fa.below (Nat.le_refl _) B3.out.size)
        have HDN : Hid (_ ∧ _) := ⟨fb, bw⟩
        clear fa fb bw
        simp only [filled] at HDN
        go_wp2
        obtain ⟨fb, bw⟩ := HDN.out
        clear HDN
        generalize (((((((w3.setCell ⟨w.heap.size, 0, none⟩ (.slice none 0 0)).setCell ⟨w.heap.size, 1, none⟩ (.int .i64 0)).setCell ⟨w.heap.size, 2, none⟩ (.slice none 0 0)).setCell ⟨w.heap.size, 3, none⟩ (.int .i64 0)).setCell ⟨w.heap.size, 4, none⟩ (.int .i64 0)).setCell ⟨w.heap.size, 5, none⟩ (.int .i64 0)).setCell ⟨w.heap.size, 6, none⟩ (.slice none 0 0)) = wz at fb bw ⊢
        obtain ⟨t0, t1, t2, t3, t4, t5, t6⟩ := fb.cells7
        simp only at t0 t1 t2 t3 t4 t5 t6
        (try simp only [Exit.inBlock, Exit.then])
        refine bodyPost_ret (v := .tuple #[.agg #[.slice none 0 0, .int .i64 0, .slice none 0 0, .int .i64 0, .int .i64 0, .int .i64 0, .slice none 0 0], .int .i64 0, .int .i64 ((E2 : Int))]) ?hres rfl ?_
        case hres => simp [results, Try.results28, go_sem, t0, t1, t2, t3, t4, t5, t6]
        exact ⟨bw, .inr ⟨E2, hE2, rfl, fun h => hE2 h.2.1⟩⟩
    · have A3 := (Below.refl w2.heap.size w2).alloc (Nat.le_refl _) (.cells (EntD.cells ⟨.slice none 0 0, 0, .slice none 0 0, 0, 0, 0, .slice none 0 0, [], [], []⟩) 35)
      have B3 := HB2.out.trans (A3.mono HB2.out.size)
      have bg := bx2.out.later A3
      have HNO : Hid (¬ ∃ D : EntD, checkS D = 0 ∧ D.val = V ∧ keyL D = K) := by
        rintro ⟨D, h1, h2, h3⟩
        exact hno ⟨⟨.slice none 0 0, D.fam, .slice none 0 0, D.ts, D.seq, D.kind, .slice none 0 0, D.row, D.qual, []⟩, check_drop h1 _ _ _, rfl, by rw [keyL_val]; exact h3⟩
      clear hno HB2 A3 bx2 hlt
      simp only [EntD.cells] at B3 bg
      obtain ⟨g0, g1, g2, g3, g4, g5, g6⟩ := bg.cells7
      obtain ⟨gf0, gf1, gf2, gf3, gf4, gf5, gf6⟩ := bg.fz7
      simp only at g0 g1 g2 g3 g4 g5 g6
      have fa := filled_apart (w2.alloc (.cells #[.slice none 0 0, .int .i64 0, .slice none 0 0, .int .i64 0, .int .i64 0, .int .i64 0, .slice none 0 0] 35)) w.heap.size ⟨.slice none 0 0, 0, .slice none 0 0, 0, 0, 0, .slice none 0 0, [], [], []⟩
      have fb := filled_box bg ⟨.slice none 0 0, 0, .slice none 0 0, 0, 0, 0, .slice none 0 0, [], [], []⟩
      have bw := B3.trans (fa.below (Nat.le_refl _) B3.size)
      have HDN : Hid (_ ∧ _) := ⟨fb, bw⟩
      clear fa fb bw
      simp only [filled] at HDN
      go_wp2
      obtain ⟨fb, bw⟩ := HDN.out
      clear HDN
      generalize ((((((((w2.alloc (.cells #[.slice none 0 0, .int .i64 0, .slice none 0 0, .int .i64 0, .int .i64 0, .int .i64 0, .slice none 0 0] 35)).setCell ⟨w.heap.size, 0, none⟩ (.slice none 0 0)).setCell ⟨w.heap.size, 1, none⟩ (.int .i64 0)).setCell ⟨w.heap.size, 2, none⟩ (.slice none 0 0)).setCell ⟨w.heap.size, 3, none⟩ (.int .i64 0)).setCell ⟨w.heap.size, 4, none⟩ (.int .i64 0)).setCell ⟨w.heap.size, 5, none⟩ (.int .i64 0)).setCell ⟨w.heap.size, 6, none⟩ (.slice none 0 0)) = wz at fb bw ⊢
      obtain ⟨t0, t1, t2, t3, t4, t5, t6⟩ := fb.cells7
      simp only at t0 t1 t2 t3 t4 t5 t6
      (try simp only [Exit.inBlock, Exit.then])
      refine bodyPost_ret (v := .tuple #[.agg #[.slice none 0 0, .int .i64 0, .slice none 0 0, .int .i64 0, .int .i64 0, .int .i64 0, .slice none 0 0], .int .i64 0, .int .i64 (29)]) ?hres rfl ?_
      case hres => simp [results, Try.results28, go_sem, t0, t1, t2, t3, t4, t5, t6]
      exact ⟨bw, .inr ⟨29, by decide, rfl, fun h => HNO.out h.2.2⟩⟩
  · have hE1' : ¬ ((E1 : Int) = 0) := by omega
    have hE1b : ((E1 : Int) != 0) = true := by simp; omega
    have bg := bx1.out
    obtain ⟨g0, g1, g2, g3, g4, g5, g6⟩ := bg.cells7
    obtain ⟨gf0, gf1, gf2, gf3, gf4, gf5, gf6⟩ := bg.fz7
    simp only at g0 g1 g2 g3 g4 g5 g6
    have fa := filled_apart w1 w.heap.size ⟨.slice none 0 0, 0, .slice none 0 0, 0, 0, 0, .slice none 0 0, [], [], []⟩
    have fb := filled_box bg ⟨.slice none 0 0, 0, .slice none 0 0, 0, 0, 0, .slice none 0 0, [], [], []⟩
    have bw := HB1.out.trans (fa.below (Nat.le_refl _) HB1.out.size)
    have HDN : Hid (_ ∧ _) := ⟨fb, bw⟩
    clear fa fb bw
    simp only [filled] at HDN
    go_wp2
    obtain ⟨fb, bw⟩ := HDN.out
    clear HDN
    generalize (((((((w1.setCell ⟨w.heap.size, 0, none⟩ (.slice none 0 0)).setCell ⟨w.heap.size, 1, none⟩ (.int .i64 0)).setCell ⟨w.heap.size, 2, none⟩ (.slice none 0 0)).setCell ⟨w.heap.size, 3, none⟩ (.int .i64 0)).setCell ⟨w.heap.size, 4, none⟩ (.int .i64 0)).setCell ⟨w.heap.size, 5, none⟩ (.int .i64 0)).setCell ⟨w.heap.size, 6, none⟩ (.slice none 0 0)) = wz at fb bw ⊢
    obtain ⟨t0, t1, t2, t3, t4, t5, t6⟩ := fb.cells7
    simp only at t0 t1 t2 t3 t4 t5 t6
    (try simp only [Exit.inBlock, Exit.then])
    refine bodyPost_ret (v := .tuple #[.agg #[.slice none 0 0, .int .i64 0, .slice none 0 0, .int .i64 0, .int .i64 0, .int .i64 0, .slice none 0 0], .int .i64 0, .int .i64 ((E1 : Int))]) ?hres rfl ?_
    case hres => simp [results, Try.results28, go_sem, t0, t1, t2, t3, t4, t5, t6]
    exact ⟨bw, .inr ⟨E1, hE1, rfl, fun h => hE1 h.1⟩⟩

end Go.Proofs.Ytjcpjpjccoeakaa

namespace Go.Proofs.Ytjcpjpjccoeakaa
open Go.RowKit
set_option linter.unusedVariables false

theorem firstNZ_zero : ∀ (l : List Int), firstNZ l = 0 → ∀ x ∈ l, x = 0
  | [], _ => fun x hx => by simp at hx
  | y :: r, h => fun x hx => by
    unfold firstNZ at h
    by_cases hy : y = 0
    · rw [if_pos hy] at h
      rcases List.mem_cons.1 hx with rfl | hx
      · exact hy
      · exact firstNZ_zero r h x hx
    · rw [if_neg hy] at h
      exact absurd h hy
theorem cmpI_zero {a b : Int} (h : cmpI a b = 0) : a = b := by
  unfold cmpI at h
  split at h
  · cases h
  · split at h
    · cases h
    · omega
theorem dif_self {xs : List Nat} {c : Int} (h : Dif xs xs c) : c = 0 := by
  rcases h with ⟨h, _⟩ | ⟨_, p, x, y, r, s, e1, e2, hx⟩ | ⟨_, p, x, y, r, s, e1, e2, hx⟩
  · exact h
  · rw [e1] at e2
    have := List.append_cancel_left e2
    simp at this
    omega
  · rw [e1] at e2
    have := List.append_cancel_left e2
    simp at this
    omega
theorem key_same {a b : EntD} (ha : checkS a = 0) (hb : checkS b = 0) (h : keyL a = keyL b) : a.fam = b.fam ∧ a.ts = b.ts ∧ a.seq = b.seq ∧ a.kind = b.kind ∧ a.row = b.row ∧ a.qual = b.qual := by
  have d := key_dif ha hb
  rw [h] at d
  have z := firstNZ_zero _ (dif_self d)
  refine ⟨cmpI_zero (z _ ?_), (cmpI_zero (z (cmpI b.ts a.ts) ?_)).symm, (cmpI_zero (z (cmpI b.seq a.seq) ?_)).symm, cmpI_zero (z _ ?_), ordC_eq _ _ (z _ ?_), ordC_eq _ _ (z _ ?_)⟩ <;> simp [cmpsS]
theorem keyL_len2 {e : EntD} (hc : checkS e = 0) : (keyL e).length ≤ 1048 := by
  obtain ⟨f1, f, f3, _, t, s, k, _⟩ := check_facts hc
  rw [keyL_parts]
  have l1 := ordL_len e.row
  have l2 := ordL_len e.qual
  have c1 : e.row.count 0 ≤ e.row.length := List.count_le_length
  have c2 : e.qual.count 0 ≤ e.qual.length := List.count_le_length
  split <;> simp [be8] <;> omega
theorem pack_trip {e : EntD} (hc : checkS e = 0) (A H : List Nat) : bytesR ((A ++ packL e) ++ H) A.length 1048 = (keyL e, A.length + (bytesL (keyL e)).length, 0) ∧ bytesR ((A ++ packL e) ++ H) (A.length + (bytesL (keyL e)).length) 4096 = (e.val, A.length + (packL e).length, 0) := by
  have l1 := keyL_len2 hc
  have l2 := (check_facts hc).2.2.2.2.2.2.2.1
  constructor
  · have := bytes_trip (keyL e) (by omega) 1048 l1 A (bytesL e.val ++ H)
    have e1 : (A ++ packL e) ++ H = A ++ (bytesL (keyL e) ++ (bytesL e.val ++ H)) := by simp [packL]
    rw [e1]; exact this
  · have := bytes_trip e.val (by omega) 4096 l2 (A ++ bytesL (keyL e)) H
    have e1 : (A ++ packL e) ++ H = (A ++ bytesL (keyL e)) ++ (bytesL e.val ++ H) := by simp [packL]
    rw [e1]
    simp only [List.length_append] at this ⊢
    rw [this]
    simp [packL]
    omega
theorem packL_len {e : EntD} (hc : checkS e = 0) : (packL e).length ≤ 6000 := by
  have l1 := keyL_len2 hc
  have l2 := (check_facts hc).2.2.2.2.2.2.2.1
  have := bytesL_le (keyL e)
  have := bytesL_le e.val
  simp only [packL, List.length_append]
  omega
theorem packL_bys {e : EntD} (hr : Bys e.row) (hq : Bys e.qual) (hv : Bys e.val) (hc : checkS e = 0) : Bys (packL e) := by
  have l1 := keyL_len2 hc
  have l2 := (check_facts hc).2.2.2.2.2.2.2.1
  exact Bys.app (bytesL_bys (keyL_bys hr hq hc) (by omega)) (bytesL_bys hv (by omega))

set_option maxRecDepth 100000 in
set_option maxHeartbeats 8000000 in
theorem back_bad {e : EntD} {w : World} {an aa ah : Option Addr} {mn cn ma ca mh ch : Nat} {ns : List Nat} (hok : EntD.Ok w e) (hn : Rd w (.slice an mn cn) ns) (hl : ns.length ≤ 140737488351232) (hc : checkS e ≠ 0) :
    Calls Try.prog 6 #[.agg e.cells, .slice aa ma ca, .slice ah mh ch, .slice an mn cn] w fun r w' => r = .returned (.bool true) ∧ Below w.heap.size w w' := by
  obtain ⟨⟨K, Q1, F1⟩, k1⟩ : ∃ x, bytesR ns 0 1048 = x := ⟨_, rfl⟩
  obtain ⟨⟨V, Q2, F2⟩, k2⟩ : ∃ x, bytesR ns Q1 4096 = x := ⟨_, rfl⟩
  have HQ : Hid (bytesR ns 0 1048 = (K, Q1, F1) ∧ bytesR ns Q1 4096 = (V, Q2, F2)) := ⟨k1, k2⟩
  have HN : Hid (Rd w (.slice an mn cn) ns) := hn
  have HL : Hid (ns.length ≤ 140737488351232) := hl
  have HE : Hid (EntD.Ok w e ∧ checkS e ≠ 0) := ⟨hok, hc⟩
  have A1 := (Below.refl w.heap.size w).alloc (Nat.le_refl _) (.cells e.cells 35)
  have b1 := EBox.new w e
  have HX : Hid (_ ∧ _) := ⟨b1, A1⟩
  clear k1 k2 hn hl hok hc A1 b1
  simp only [EntD.cells] at HX ⊢
  go_enter Try.func6, Try.ntmps6
  go_wp2_with fail
  refine (told_any _).mono ?_
  rintro r w1 ⟨rfl, hb1⟩
  have B1 := HX.out.2.trans (hb1.mono HX.out.2.size)
  have bx1 : Hid (EBox w1 w.heap.size e) := HX.out.1.later hb1
  clear HX hb1
  obtain ⟨z0, z1, z2, z3, z4, z5, z6⟩ := bx1.out.cells7
  obtain ⟨C, hC⟩ : ∃ C, C = checkS e := ⟨_, rfl⟩
  have c2 := key_bad (HE.out.1.later B1) HE.out.2
  rw [← hC] at c2
  have HC2 : Hid (Calls _ _ _ _ _) := c2
  have HCC : Hid (C = checkS e) := hC
  have hC0 : ¬ ((C : Int) = 0) := by have := HE.out.2; rw [← hC] at this; omega
  have hCb : ((C : Int) == 0) = false := by simpa using hC0
  clear c2 hC
  simp only [EntD.cells] at HC2
  go_wp2_with fail
  refine HC2.out.mono ?_
  rintro r w2 ⟨rfl, hb2⟩
  have B2 := B1.trans (hb2.mono B1.size)
  have bx2 : Hid (EBox w2 w.heap.size e) := bx1.out.later hb2
  clear HC2 hb2 B1 bx1 z0 z1 z2 z3 z4 z5 z6
  obtain ⟨z0, z1, z2, z3, z4, z5, z6⟩ := bx2.out.cells7
  have c3 := check_any (HE.out.1.later B2)
  rw [← HCC.out] at c3
  have HC3 : Hid (Calls _ _ _ _ _) := c3
  clear c3
  simp only [EntD.cells] at HC3
  go_wp2_with fail
  refine HC3.out.mono ?_
  rintro r w3 ⟨rfl, hb3⟩
  have BT := B2.trans (hb3.mono B2.size)
  clear HC3 hb3 B2 z0 z1 z2 z3 z4 z5 z6 bx2 HE HCC
  go_wp2_with fail
  refine (parse_any (HN.out.later BT) (by have := HL.out; omega)).mono ?_
  rintro e wa ⟨hba, hp⟩
  have BA := BT.trans (hba.mono BT.size)
  clear hba BT
  rcases hp with ⟨D, hc, hv, hk, hbr, hbq, hvv, rfl, o1, B, hB, o2, _⟩ | ⟨hno, rfl⟩
  · obtain ⟨vr, fam, vq, ts, sq, kd, vv, row, qual, val⟩ := D
    simp only at hv hbr hbq hvv o1 o2
    subst hv hvv
    obtain ⟨ar, cr, rfl⟩ := own_form o1.2
    obtain ⟨aq, cq, rfl⟩ := own_form o2.2
    have okD : EntD.Ok wa ⟨.slice ar row.length cr, fam, .slice aq qual.length cq, ts, sq, kd, .slice none 0 0, row, qual, []⟩ := ⟨o1.rd hbr (by have := (check_facts hc).1.2; simp only at this; omega), o2.rd hbq (by have := (check_facts hc).2.2.1; simp only at this; omega), Rd.nil _⟩
    have A2 := (Below.refl wa.heap.size wa).alloc (Nat.le_refl _) (.cells (EntD.cells ⟨.slice ar row.length cr, fam, .slice aq qual.length cq, ts, sq, kd, .slice none 0 0, row, qual, []⟩) 35)
    have b2 := EBox.new wa ⟨.slice ar row.length cr, fam, .slice aq qual.length cq, ts, sq, kd, .slice none 0 0, row, qual, []⟩
    have c2 := key_ok (okD.later A2) hc
    rw [hk] at c2
    have HX2 : Hid (_ ∧ _ ∧ Calls _ _ _ _ _) := ⟨b2, A2, c2⟩
    clear hc hk hbr hbq o1 o2 hB A2 b2 c2 okD
    simp only [EntD.cells] at HX2 ⊢
    go_wp2_with fail
    refine HX2.out.2.2.mono ?_
    rintro e wb ⟨ab, mb, cb, rfl, ownb, hbb⟩
    have hbab := HX2.out.2.1.trans (hbb.mono HX2.out.2.1.size)
    have BB := BA.trans (hbab.mono BA.size)
    have rb := ownb.rd HN.out.1 (by rw [ownb.1]; have := HL.out; omega)
    have xb := (HX2.out.1.later hbb)
    have HXB : Hid (EBox wb wa.heap.size _) := xb
    clear HX2 hbb hbab ownb xb BA
    go_wp2_with fail
    refine (alike_same rb (HN.out.later BB)).mono ?_
    rintro e wb2 ⟨rfl, hb3⟩
    have xv := (HXB.out.later hb3).vv
    simp only at xv
    have BB3 := BB.trans (hb3.mono BB.size)
    clear BB hb3 rb HXB
    have BB := BB3
    clear BB3
    go_wp2_with fail
    refine (unpack_any (k := 0) (HN.out.later BB) (Nat.zero_le _) (by have := HL.out; omega) HQ.out.1 HQ.out.2).mono ?_
    rintro e wc ⟨hbc, hu⟩
    have BC := BB.trans (hbc.mono BB.size)
    clear hbc BB
    rcases hu with ⟨D2, h1, h2, h3, h4, h5, h6, h7, rfl, ok2⟩ | ⟨E, hE, rfl, _⟩
    · have HBK : Hid (packL D2 = ns.take Q2 ∧ 1 ≤ Q2 ∧ Q2 ≤ ns.length) := by
        have k1 := HQ.out.1
        have k2 := HQ.out.2
        rw [h1] at k1
        rw [h2] at k2
        obtain ⟨b1, b2, b3, _⟩ := bytes_back HN.out.1 (Nat.zero_le _) k1
        obtain ⟨b4, b5, b6, _⟩ := bytes_back HN.out.1 b3 k2
        refine ⟨?_, by omega, b6⟩
        unfold packL
        rw [h5, h4, b1, b4, seg_join (Nat.zero_le _) (Nat.le_of_lt b5) b6, List.drop_zero]
      have HOK : Hid (EntD.Ok wc D2 ∧ checkS D2 = 0) := ⟨ok2, h3⟩
      obtain ⟨ar, mr, cr, e1⟩ := rd_slice ok2.1
      obtain ⟨aq, mq, cq, e2⟩ := rd_slice ok2.2.1
      obtain ⟨av, mv, cv, e3⟩ := rd_slice ok2.2.2
      clear h1 h2 h3 h4 h5 h6 h7 ok2
      obtain ⟨vr, fam, vq, ts, sq, kd, vv, row, qual, val⟩ := D2
      simp only at e1 e2 e3
      subst e1 e2 e3
      have A3 := (Below.refl wc.heap.size wc).alloc (Nat.le_refl _) (.cells (EntD.cells ⟨.slice ar mr cr, fam, .slice aq mq cq, ts, sq, kd, .slice av mv cv, row, qual, val⟩) 35)
      have c3 := pack_ok (HOK.out.1.later A3) HOK.out.2
      have HC3 : Hid (_ ∧ Calls _ _ _ _ _) := ⟨A3, c3⟩
      clear A3 c3 HOK
      simp only [EntD.cells] at HC3 ⊢
      go_wp2_with fail
      refine HC3.out.2.mono ?_
      rintro e wd ⟨ad, md, cd, rfl, ownd, hbd⟩
      have hbcd := HC3.out.1.trans (hbd.mono HC3.out.1.size)
      have BD := BC.trans (hbcd.mono BC.size)
      rw [HBK.out.1] at ownd
      obtain rfl : md = Q2 := by rw [ownd.1, List.length_take]; have := HBK.out.2.2; omega
      have rd := ownd.rd (fun x hx => HN.out.1 x (List.mem_of_mem_take hx)) (by have := HBK.out.2.2; have := HL.out; omega)
      have hmn : mn = ns.length := (rd_lens HN.out).1
      have hcn := (rd_lens HN.out).2.1
      rcases rd_some HN.out with ⟨_, h0, _⟩ | ⟨bn, fn, en⟩
      · have := HBK.out.2; omega
      subst en
      have ra := (HN.out.later BD).upto md (by have := HBK.out.2.2; omega)
      have i1 : (md : Int) ≤ (mn : Int) := by have := HBK.out.2.2; omega
      have i2 : (md : Int) ≤ (cn : Int) := by omega
      have i3 : (0 : Int) ≤ (md : Int) := by omega
      clear HC3 hbd hbcd BC ownd hmn HQ
      go_wp2_with fail
      refine (alike_same rd ra).mono ?_
      rintro e we ⟨rfl, hbe⟩
      go_wp2
      go_ret
      exact ⟨by simp, BD.trans (hbe.mono BD.size)⟩
    · have hE' : ¬ ((E : Int) = 0) := by omega
      have hEb : ((E : Int) != 0) = true := by simp; omega
      have A3 := (Below.refl wc.heap.size wc).alloc (Nat.le_refl _) (.cells #[.slice none 0 0, .int .i64 0, .slice none 0 0, .int .i64 0, .int .i64 0, .int .i64 0, .slice none 0 0] 35)
      go_wp2
      go_ret
      exact ⟨rfl, BC.trans (A3.mono BC.size)⟩
  · have BB0 := BA.trans (((Below.refl wa.heap.size wa).alloc (Nat.le_refl _) (.cells #[.slice none 0 0, .int .i64 0, .slice none 0 0, .int .i64 0, .int .i64 0, .int .i64 0, .slice none 0 0] 35)).mono BA.size)
    have BB := BB0
    clear BB0 BA hno
    go_wp2_with fail
    refine (unpack_any (k := 0) (HN.out.later BB) (Nat.zero_le _) (by have := HL.out; omega) HQ.out.1 HQ.out.2).mono ?_
    rintro e wc ⟨hbc, hu⟩
    have BC := BB.trans (hbc.mono BB.size)
    clear hbc BB
    rcases hu with ⟨D2, h1, h2, h3, h4, h5, h6, h7, rfl, ok2⟩ | ⟨E, hE, rfl, _⟩
    · have HBK : Hid (packL D2 = ns.take Q2 ∧ 1 ≤ Q2 ∧ Q2 ≤ ns.length) := by
        have k1 := HQ.out.1
        have k2 := HQ.out.2
        rw [h1] at k1
        rw [h2] at k2
        obtain ⟨b1, b2, b3, _⟩ := bytes_back HN.out.1 (Nat.zero_le _) k1
        obtain ⟨b4, b5, b6, _⟩ := bytes_back HN.out.1 b3 k2
        refine ⟨?_, by omega, b6⟩
        unfold packL
        rw [h5, h4, b1, b4, seg_join (Nat.zero_le _) (Nat.le_of_lt b5) b6, List.drop_zero]
      have HOK : Hid (EntD.Ok wc D2 ∧ checkS D2 = 0) := ⟨ok2, h3⟩
      obtain ⟨ar, mr, cr, e1⟩ := rd_slice ok2.1
      obtain ⟨aq, mq, cq, e2⟩ := rd_slice ok2.2.1
      obtain ⟨av, mv, cv, e3⟩ := rd_slice ok2.2.2
      clear h1 h2 h3 h4 h5 h6 h7 ok2
      obtain ⟨vr, fam, vq, ts, sq, kd, vv, row, qual, val⟩ := D2
      simp only at e1 e2 e3
      subst e1 e2 e3
      have A3 := (Below.refl wc.heap.size wc).alloc (Nat.le_refl _) (.cells (EntD.cells ⟨.slice ar mr cr, fam, .slice aq mq cq, ts, sq, kd, .slice av mv cv, row, qual, val⟩) 35)
      have c3 := pack_ok (HOK.out.1.later A3) HOK.out.2
      have HC3 : Hid (_ ∧ Calls _ _ _ _ _) := ⟨A3, c3⟩
      clear A3 c3 HOK
      simp only [EntD.cells] at HC3 ⊢
      go_wp2_with fail
      refine HC3.out.2.mono ?_
      rintro e wd ⟨ad, md, cd, rfl, ownd, hbd⟩
      have hbcd := HC3.out.1.trans (hbd.mono HC3.out.1.size)
      have BD := BC.trans (hbcd.mono BC.size)
      rw [HBK.out.1] at ownd
      obtain rfl : md = Q2 := by rw [ownd.1, List.length_take]; have := HBK.out.2.2; omega
      have rd := ownd.rd (fun x hx => HN.out.1 x (List.mem_of_mem_take hx)) (by have := HBK.out.2.2; have := HL.out; omega)
      have hmn : mn = ns.length := (rd_lens HN.out).1
      have hcn := (rd_lens HN.out).2.1
      rcases rd_some HN.out with ⟨_, h0, _⟩ | ⟨bn, fn, en⟩
      · have := HBK.out.2; omega
      subst en
      have ra := (HN.out.later BD).upto md (by have := HBK.out.2.2; omega)
      have i1 : (md : Int) ≤ (mn : Int) := by have := HBK.out.2.2; omega
      have i2 : (md : Int) ≤ (cn : Int) := by omega
      have i3 : (0 : Int) ≤ (md : Int) := by omega
      clear HC3 hbd hbcd BC ownd hmn HQ
      go_wp2_with fail
      refine (alike_same rd ra).mono ?_
      rintro e we ⟨rfl, hbe⟩
      go_wp2
      go_ret
      exact ⟨by simp, BD.trans (hbe.mono BD.size)⟩
    · have hE' : ¬ ((E : Int) = 0) := by omega
      have hEb : ((E : Int) != 0) = true := by simp; omega
      have A3 := (Below.refl wc.heap.size wc).alloc (Nat.le_refl _) (.cells #[.slice none 0 0, .int .i64 0, .slice none 0 0, .int .i64 0, .int .i64 0, .int .i64 0, .slice none 0 0] 35)
      go_wp2
      go_ret
      exact ⟨rfl, BC.trans (A3.mono BC.size)⟩

end Go.Proofs.Ytjcpjpjccoeakaa
