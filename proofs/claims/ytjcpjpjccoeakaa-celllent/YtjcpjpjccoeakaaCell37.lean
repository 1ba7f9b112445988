import Derived.Test.YtjcpjpjccoeakaaCell36
import Derived.Test.YtjcpjpjccoeakaaJ17
namespace Go.Proofs.Ytjcpjpjccoeakaa
open Go.RowKit
set_option linter.unusedVariables false

/-- What Unpack answers, told exactly. -/
def UnpackedU (w w' : World) (r : Ending) (K V : List Nat) (E1 P2 E2 : Nat) : Prop :=
  Below w.heap.size w w' ∧
  ((∃ D : EntD, E1 = 0 ∧ E2 = 0 ∧ checkS D = 0 ∧ D.val = V ∧ keyL D = K ∧ Bys D.row ∧ Bys D.qual ∧ r = .returned (.tuple #[.agg D.cells, .int .i64 (P2 : Int), .int .i64 0]) ∧ Own w' w.heap.size D.vr D.row.length D.row ∧ ∃ Ba Bb, w.heap.size ≤ Ba ∧ w.heap.size ≤ Bb ∧ Own w' Ba D.vq D.qual.length D.qual ∧ Own w' Bb D.vv V.length V ∧ (∀ k, D.vr.ownBlock = some k → k < Ba) ∧ (∀ k, D.vq.ownBlock = some k → k < Bb) ∧ (∀ k, D.vr.ownBlock = some k → k < Bb)) ∨
   (∃ E : Nat, r = .returned (.tuple #[.agg #[.slice none 0 0, .int .i64 0, .slice none 0 0, .int .i64 0, .int .i64 0, .int .i64 0, .slice none 0 0], .int .i64 0, .int .i64 (E : Int)]) ∧
    ((E1 ≠ 0 ∧ E = E1) ∨ (E1 = 0 ∧ ¬ IsKey K ∧ E = 29) ∨ (E1 = 0 ∧ IsKey K ∧ E2 ≠ 0 ∧ E = E2) ∨ (E1 = 0 ∧ IsKey K ∧ E2 = 0 ∧ (¬ ∃ D : EntD, checkS D = 0 ∧ D.val = V ∧ keyL D = K) ∧ E = 29))))

set_option maxRecDepth 100000 in
set_option maxHeartbeats 8000000 in
theorem unpack_exact {w : World} {m c : Nat} {a : Option Addr} {bs K V : List Nat} {k P1 E1 P2 E2 : Nat} (hr : Rd w (.slice a m c) bs) (hk : k ≤ bs.length) (h47 : bs.length ≤ 140737488355328) (q1 : bytesR bs k 1048 = (K, P1, E1)) (q2 : bytesR bs P1 4096 = (V, P2, E2)) :
    Calls Try.prog 28 #[.slice a m c, .int .i64 (k : Int)] w fun r w' => UnpackedU w w' r K V E1 P2 E2 := by
  have o1 := bytesR_ok bs k 1048 hr.1
  rw [q1] at o1
  have o2 := bytesR_ok bs P1 4096 hr.1
  rw [q2] at o2
  simp only at o1 o2
  have HO1 : Hid (Bys K ∧ K.length ≤ 1048 ∧ P1 ≤ bs.length) := o1
  have HO2 : Hid (Bys V ∧ V.length ≤ 4096 ∧ P2 ≤ bs.length) := o2
  have HQ : Hid (bytesR bs k 1048 = (K, P1, E1) ∧ bytesR bs P1 4096 = (V, P2, E2) ∧ k ≤ bs.length ∧ bs.length ≤ 140737488355328) := ⟨q1, q2, hk, h47⟩
  have HR : Hid (Rd w (.slice a m c) bs) := hr
  have A1 := (Below.refl w.heap.size w).alloc (Nat.le_refl _) (.cells (EntD.cells ⟨.slice none 0 0, 0, .slice none 0 0, 0, 0, 0, .slice none 0 0, [], [], []⟩) 35)
  have b1 := EBox.new w ⟨.slice none 0 0, 0, .slice none 0 0, 0, 0, 0, .slice none 0 0, [], [], []⟩
  have HX : Hid (_ ∧ _) := ⟨b1, A1⟩
  clear o1 o2 q1 q2 hk h47 hr b1 A1
  simp only [EntD.cells] at HX
  go_enter Try.func28, Try.ntmps28
  go_wp2_with fail
  refine (readBytes_at (HR.out.later HX.out.2) k 1048 HQ.out.2.2.1 (by decide) HQ.out.2.2.2 HQ.out.1).mono ?_
  rintro e1 w1 ⟨a1, m1, c1, rfl, own1, hb1⟩
  have HB1 : Hid (Below w.heap.size w w1) := HX.out.2.trans (hb1.mono HX.out.2.size)
  have bx1 : Hid (EBox w1 w.heap.size ⟨.slice none 0 0, 0, .slice none 0 0, 0, 0, 0, .slice none 0 0, [], [], []⟩) := HX.out.1.later hb1
  have HS1 : Hid (w.heap.size ≤ w1.heap.size) := HB1.out.size
  clear HX hb1
  by_cases hE1 : E1 = 0
  · subst hE1
    have r1 := own1.rd HO1.out.1 (by rw [own1.1]; have := HO1.out.2.1; omega)
    clear own1
    go_wp2_with fail
    refine (parse_any r1 (by have := HO1.out.2.1; omega)).mono ?_
    rintro e2 w2 ⟨hb2, hp⟩
    have HB2 : Hid (Below w.heap.size w w2) := HB1.out.trans (hb2.mono HB1.out.size)
    have bx2 : Hid (EBox w2 w.heap.size ⟨.slice none 0 0, 0, .slice none 0 0, 0, 0, 0, .slice none 0 0, [], [], []⟩) := bx1.out.later hb2
    have hlt : w.heap.size < w2.heap.size := World.block_lt_of_cell? w2 ⟨w.heap.size, 0, none⟩ bx2.out.vr
    clear bx1 HB1 hb2 r1
    rcases hp with ⟨D, hc, hv, hkk, hbr, hbq, hvv, rfl, o1, B, hB, o2, hap⟩ | ⟨hno, rfl⟩
    · obtain ⟨vr, fam, vq, ts, sq, kd, vv, row, qual, val⟩ := D
      simp only at hv hbr hbq hvv o1 o2 hap
      subst hv hvv
      obtain ⟨ar, cr, rfl⟩ := own_form o1.2
      obtain ⟨aq, cq, rfl⟩ := own_form o2.2
      have HC : Hid (checkS ⟨.slice ar row.length cr, fam, .slice aq qual.length cq, ts, sq, kd, .slice none 0 0, row, qual, []⟩ = 0 ∧ keyL ⟨.slice ar row.length cr, fam, .slice aq qual.length cq, ts, sq, kd, .slice none 0 0, row, qual, []⟩ = K ∧ Bys row ∧ Bys qual) := ⟨hc, hkk, hbr, hbq⟩
      have HIK : Hid (IsKey K) := ⟨_, hc, rfl, hkk⟩
      have HO : Hid (Own w2 w1.heap.size (.slice ar row.length cr) row.length row ∧ Own w2 B (.slice aq qual.length cq) qual.length qual) := ⟨o1, o2⟩
      have HAP : Hid (w1.heap.size ≤ B ∧ (∀ k, (Value.slice ar row.length cr).ownBlock = some k → k < B) ∧ (∀ k, (Value.slice aq qual.length cq).ownBlock = some k → k < w2.heap.size) ∧ w.heap.size ≤ w1.heap.size ∧ (∀ k, (Value.slice aq qual.length cq).ownBlock = some k → B ≤ k) ∧ (∀ k, (Value.slice ar row.length cr).ownBlock = some k → k < w2.heap.size)) := ⟨hB, hap, fun k hk => (o2.2.lt k hk).2, HS1.out, fun k hk => (o2.2.lt k hk).1, fun k hk => (o1.2.lt k hk).2⟩
      have A3 := (Below.refl w2.heap.size w2).alloc (Nat.le_refl _) (.cells (EntD.cells ⟨.slice ar row.length cr, fam, .slice aq qual.length cq, ts, sq, kd, .slice none 0 0, row, qual, []⟩) 35)
      have b3 := EBox.new w2 ⟨.slice ar row.length cr, fam, .slice aq qual.length cq, ts, sq, kd, .slice none 0 0, row, qual, []⟩
      have HX : Hid (_ ∧ _) := ⟨b3, A3⟩
      clear hc hkk hbr hbq o1 o2 hB hap A3 b3
      simp only [EntD.cells] at HX ⊢
      go_wp2_with fail
      refine (readBytes_at ((HR.out.later HB2.out).later HX.out.2) P1 4096 HO1.out.2.2 (by decide) HQ.out.2.2.2 HQ.out.2.1).mono ?_
      rintro e3 w3 ⟨a3, m3, c3, rfl, own3, hb3⟩
      have hb23 := HX.out.2.trans (hb3.mono HX.out.2.size)
      have B3 : Hid (Below w.heap.size w w3) := HB2.out.trans (hb23.mono HB2.out.size)
      have bg : EBox w3 w.heap.size ⟨.slice none 0 0, 0, .slice none 0 0, 0, 0, 0, .slice none 0 0, [], [], []⟩ := bx2.out.later hb23
      have be : EBox w3 w2.heap.size _ := HX.out.1.later hb3
      have HO3 : Hid (Own w3 w1.heap.size (.slice ar row.length cr) row.length row ∧ Own w3 B (.slice aq qual.length cq) qual.length qual) := by
        obtain ⟨x, y⟩ := HO.out
        exact ⟨x.later hb23, y.later hb23⟩
      have hm3 : m3 = V.length := own3.1
      have hV := HO2.out.2.1
      clear HX HO bx2 HB2 hb23 hb3
      have n1 : ¬ (w2.heap.size = w.heap.size) := by omega
      have n2 : ¬ (w.heap.size = w2.heap.size) := by omega
      by_cases hE2 : E2 = 0
      · subst hE2
        by_cases hgo : V = [] ∨ kd = 1
        · have HGO : Hid (V = [] ∨ kd = 1) := hgo
          have ap1 := apart_set w3 w2.heap.size 6 (.slice a3 m3 c3)
          have be2 := be.set6 (.slice a3 m3 c3) V
          have bg2 := bg.apart ap1 n2
          have fa := filled_apart (w3.setCell ⟨w2.heap.size, 6, none⟩ (.slice a3 m3 c3)) w.heap.size ⟨.slice ar row.length cr, fam, .slice aq qual.length cq, ts, sq, kd, .slice a3 m3 c3, row, qual, V⟩
          have fb := filled_box bg2 ⟨.slice ar row.length cr, fam, .slice aq qual.length cq, ts, sq, kd, .slice a3 m3 c3, row, qual, V⟩
          have bw := (B3.out.trans (ap1.below (Nat.le_of_lt hlt) B3.out.size)).trans (fa.below (Nat.le_refl _) (B3.out.trans (ap1.below (Nat.le_of_lt hlt) B3.out.size)).size)
          obtain ⟨x1, x2⟩ := HO3.out
          have y1 := (x1.apartE be ap1).apartE bg2 fa
          have y2 := (x2.apartE be ap1).apartE bg2 fa
          have y3 := (own3.apartE be ap1).apartE bg2 fa
          have HDN : Hid (_ ∧ _ ∧ _ ∧ _ ∧ _) := ⟨fb, bw, y1, y2, y3⟩
          clear fa fb bw y1 y2 y3 x1 x2 ap1 be2 bg2 hgo
          simp only [filled] at HDN
          obtain ⟨g0, g1, g2, g3, g4, g5, g6⟩ := bg.cells7
          obtain ⟨gf0, gf1, gf2, gf3, gf4, gf5, gf6⟩ := bg.fz7
          simp only at g0 g1 g2 g3 g4 g5 g6
          obtain ⟨e0, e1, e2, e3, e4, e5, e6⟩ := be.cells7
          obtain ⟨ef0, ef1, ef2, ef3, ef4, ef5, ef6⟩ := be.fz7
          simp only at e0 e1 e2 e3 e4 e5 e6
          have W : (0 < V.length ∧ kd = 1) ∨ V.length = 0 := by
            rcases HGO.out with rfl | h
            · exact .inr rfl
            · rcases Nat.eq_zero_or_pos V.length with h0 | h0
              · exact .inr h0
              · exact .inl ⟨h0, h⟩
          have FIN : Hid (∀ wz, (EBox wz w.heap.size ⟨.slice ar row.length cr, fam, .slice aq qual.length cq, ts, sq, kd, .slice a3 m3 c3, row, qual, V⟩ ∧ Below w.heap.size w wz ∧ Own wz w1.heap.size (.slice ar row.length cr) row.length row ∧ Own wz B (.slice aq qual.length cq) qual.length qual ∧ Own wz (w2.alloc (.cells (EntD.cells ⟨.slice ar row.length cr, fam, .slice aq qual.length cq, ts, sq, kd, .slice none 0 0, row, qual, []⟩) 35)).heap.size (.slice a3 m3 c3) m3 V) → UnpackedU w wz (.returned (.tuple #[.agg #[.slice ar row.length cr, .int .i64 fam, .slice aq qual.length cq, .int .i64 ts, .int .i64 sq, .int .i64 kd, .slice a3 m3 c3], .int .i64 (P2 : Int), .int .i64 0])) K V 0 P2 0) := by
            rintro wz ⟨_, bw, y1, y2, y3⟩
            refine ⟨bw, .inl ⟨⟨.slice ar row.length cr, fam, .slice aq qual.length cq, ts, sq, kd, .slice a3 m3 c3, row, qual, V⟩, rfl, rfl, check_put HC.out.1 HO2.out.2.1 HGO.out _ _ _, rfl, HC.out.2.1, HC.out.2.2.1, HC.out.2.2.2, rfl, y1.mono HAP.out.2.2.2.1, B, w2.heap.size, Nat.le_trans HAP.out.2.2.2.1 HAP.out.1, Nat.le_of_lt hlt, y2, ?_, HAP.out.2.1, HAP.out.2.2.1, HAP.out.2.2.2.2.2⟩⟩
            have y4 := own_len y3
            exact y4.mono (by simp)
          rcases W with ⟨hp, rfl⟩ | hz
          · have d0 : (0 : Int) < (m3 : Int) := by omega
            have dd : decide ((0 : Int) < (m3 : Int)) = true := decide_eq_true d0
            clear hm3 hV hp
            go_wp2
            have HH := FIN.out _ HDN.out
            obtain ⟨fb, _, _, _, _⟩ := HDN.out
            clear HDN FIN
            generalize ((((((((w3.setCell ⟨w2.heap.size, 6, none⟩ (.slice a3 m3 c3)).setCell ⟨w.heap.size, 0, none⟩ (.slice ar row.length cr)).setCell ⟨w.heap.size, 1, none⟩ (.int .i64 fam)).setCell ⟨w.heap.size, 2, none⟩ (.slice aq qual.length cq)).setCell ⟨w.heap.size, 3, none⟩ (.int .i64 ts)).setCell ⟨w.heap.size, 4, none⟩ (.int .i64 sq)).setCell ⟨w.heap.size, 5, none⟩ (.int .i64 1)).setCell ⟨w.heap.size, 6, none⟩ (.slice a3 m3 c3)) = wz at fb HH ⊢
            obtain ⟨t0, t1, t2, t3, t4, t5, t6⟩ := fb.cells7
            simp only at t0 t1 t2 t3 t4 t5 t6
            (try simp only [Exit.inBlock, Exit.then])
            refine bodyPost_ret (v := .tuple #[.agg #[.slice ar row.length cr, .int .i64 fam, .slice aq qual.length cq, .int .i64 ts, .int .i64 sq, .int .i64 1, .slice a3 m3 c3], .int .i64 (P2 : Int), .int .i64 0]) ?hres rfl HH
            case hres => simp [results, Try.results28, go_sem, t0, t1, t2, t3, t4, t5, t6]
          · obtain rfl : m3 = 0 := by omega
            clear hm3 hV hz
            go_wp2
            have HH := FIN.out _ HDN.out
            obtain ⟨fb, _, _, _, _⟩ := HDN.out
            clear HDN FIN
            generalize ((((((((w3.setCell ⟨w2.heap.size, 6, none⟩ (.slice a3 0 c3)).setCell ⟨w.heap.size, 0, none⟩ (.slice ar row.length cr)).setCell ⟨w.heap.size, 1, none⟩ (.int .i64 fam)).setCell ⟨w.heap.size, 2, none⟩ (.slice aq qual.length cq)).setCell ⟨w.heap.size, 3, none⟩ (.int .i64 ts)).setCell ⟨w.heap.size, 4, none⟩ (.int .i64 sq)).setCell ⟨w.heap.size, 5, none⟩ (.int .i64 kd)).setCell ⟨w.heap.size, 6, none⟩ (.slice a3 0 c3)) = wz at fb HH ⊢
            obtain ⟨t0, t1, t2, t3, t4, t5, t6⟩ := fb.cells7
            simp only at t0 t1 t2 t3 t4 t5 t6
            (try simp only [Exit.inBlock, Exit.then])
            refine bodyPost_ret (v := .tuple #[.agg #[.slice ar row.length cr, .int .i64 fam, .slice aq qual.length cq, .int .i64 ts, .int .i64 sq, .int .i64 kd, .slice a3 0 c3], .int .i64 (P2 : Int), .int .i64 0]) ?hres rfl HH
            case hres => simp [results, Try.results28, go_sem, t0, t1, t2, t3, t4, t5, t6]
        · have hp : 0 < V.length := by
            rcases Nat.eq_zero_or_pos V.length with h | h
            · exact absurd (.inl (List.eq_nil_of_length_eq_zero h)) hgo
            · exact h
          have hk1 : ¬ (kd = 1) := fun h => hgo (.inr h)
          have hk2 : (kd != 1) = true := by simpa using hk1
          have HNO : Hid (¬ ∃ D : EntD, checkS D = 0 ∧ D.val = V ∧ keyL D = K) := by
            rintro ⟨D, h1, h2, h3⟩
            have e := kind_of_key h1 HC.out.1 (h3.trans HC.out.2.1.symm)
            simp only at e
            have := (check_facts h1).2.2.2.2.2.2.2.2 (by rw [e]; exact hk1)
            rw [← h2, this] at hp
            simp at hp
          have d0 : (0 : Int) < (m3 : Int) := by omega
          have dd : decide ((0 : Int) < (m3 : Int)) = true := decide_eq_true d0
          clear hgo
          obtain ⟨g0, g1, g2, g3, g4, g5, g6⟩ := bg.cells7
          obtain ⟨gf0, gf1, gf2, gf3, gf4, gf5, gf6⟩ := bg.fz7
          simp only at g0 g1 g2 g3 g4 g5 g6
          obtain ⟨e0, e1, e2, e3, e4, e5, e6⟩ := be.cells7
          simp only at e0 e1 e2 e3 e4 e5 e6
          have fa := filled_apart w3 w.heap.size ⟨.slice none 0 0, 0, .slice none 0 0, 0, 0, 0, .slice none 0 0, [], [], []⟩
          have fb := filled_box bg ⟨.slice none 0 0, 0, .slice none 0 0, 0, 0, 0, .slice none 0 0, [], [], []⟩
          have bw := B3.out.trans (fa.below (Nat.le_refl _) B3.out.size)
          have HDN : Hid (_ ∧ _) := ⟨fb, bw⟩
          clear fa fb bw
          simp only [filled] at HDN
          go_wp2
          obtain ⟨fb, bw⟩ := HDN.out
          clear HDN
          generalize (((((((w3.setCell ⟨w.heap.size, 0, none⟩ (.slice none 0 0)).setCell ⟨w.heap.size, 1, none⟩ (.int .i64 0)).setCell ⟨w.heap.size, 2, none⟩ (.slice none 0 0)).setCell ⟨w.heap.size, 3, none⟩ (.int .i64 0)).setCell ⟨w.heap.size, 4, none⟩ (.int .i64 0)).setCell ⟨w.heap.size, 5, none⟩ (.int .i64 0)).setCell ⟨w.heap.size, 6, none⟩ (.slice none 0 0)) = wz at fb bw ⊢
          obtain ⟨t0, t1, t2, t3, t4, t5, t6⟩ := fb.cells7
          simp only at t0 t1 t2 t3 t4 t5 t6
          (try simp only [Exit.inBlock, Exit.then])
          refine bodyPost_ret (v := .tuple #[.agg #[.slice none 0 0, .int .i64 0, .slice none 0 0, .int .i64 0, .int .i64 0, .int .i64 0, .slice none 0 0], .int .i64 0, .int .i64 (29)]) ?hres rfl ?_
          case hres => simp [results, Try.results28, go_sem, t0, t1, t2, t3, t4, t5, t6]
          exact ⟨bw, .inr ⟨29, rfl, .inr (.inr (.inr ⟨rfl, HIK.out, rfl, HNO.out, rfl⟩))⟩⟩
      · have hE2' : ¬ ((E2 : Int) = 0) := by omega
        have hE2b : ((E2 : Int) != 0) = true := by simp; omega
        obtain ⟨g0, g1, g2, g3, g4, g5, g6⟩ := bg.cells7
        obtain ⟨gf0, gf1, gf2, gf3, gf4, gf5, gf6⟩ := bg.fz7
        simp only at g0 g1 g2 g3 g4 g5 g6
        have fa := filled_apart w3 w.heap.size ⟨.slice none 0 0, 0, .slice none 0 0, 0, 0, 0, .slice none 0 0, [], [], []⟩
        have fb := filled_box bg ⟨.slice none 0 0, 0, .slice none 0 0, 0, 0, 0, .slice none 0 0, [], [], []⟩
        have bw := B3.out.trans (fa.below (Nat.le_refl _) B3.out.size)
        have HDN : Hid (_ ∧ _) := ⟨fb, bw⟩
        clear fa fb bw
        simp only [filled] at HDN
        go_wp2
        obtain ⟨fb, bw⟩ := HDN.out
        clear HDN
        generalize (((((((w3.setCell ⟨w.heap.size, 0, none⟩ (.slice none 0 0)).setCell ⟨w.heap.size, 1, none⟩ (.int .i64 0)).setCell ⟨w.heap.size, 2, none⟩ (.slice none 0 0)).setCell ⟨w.heap.size, 3, none⟩ (.int .i64 0)).setCell ⟨w.heap.size, 4, none⟩ (.int .i64 0)).setCell ⟨w.heap.size, 5, none⟩ (.int .i64 0)).setCell ⟨w.heap.size, 6, none⟩ (.slice none 0 0)) = wz at fb bw ⊢
        obtain ⟨t0, t1, t2, t3, t4, t5, t6⟩ := fb.cells7
        simp only at t0 t1 t2 t3 t4 t5 t6
        (try simp only [Exit.inBlock, Exit.then])
        refine bodyPost_ret (v := .tuple #[.agg #[.slice none 0 0, .int .i64 0, .slice none 0 0, .int .i64 0, .int .i64 0, .int .i64 0, .slice none 0 0], .int .i64 0, .int .i64 ((E2 : Int))]) ?hres rfl ?_
        case hres => simp [results, Try.results28, go_sem, t0, t1, t2, t3, t4, t5, t6]
        exact ⟨bw, .inr ⟨E2, rfl, .inr (.inr (.inl ⟨rfl, HIK.out, hE2, rfl⟩))⟩⟩
    · have A3 := (Below.refl w2.heap.size w2).alloc (Nat.le_refl _) (.cells (EntD.cells ⟨.slice none 0 0, 0, .slice none 0 0, 0, 0, 0, .slice none 0 0, [], [], []⟩) 35)
      have B3 := HB2.out.trans (A3.mono HB2.out.size)
      have bg := bx2.out.later A3
      have HNO : Hid (¬ IsKey K) := hno
      clear hno HB2 A3 bx2 hlt
      simp only [EntD.cells] at B3 bg
      obtain ⟨g0, g1, g2, g3, g4, g5, g6⟩ := bg.cells7
      obtain ⟨gf0, gf1, gf2, gf3, gf4, gf5, gf6⟩ := bg.fz7
      simp only at g0 g1 g2 g3 g4 g5 g6
      have fa := filled_apart (w2.alloc (.cells #[.slice none 0 0, .int .i64 0, .slice none 0 0, .int .i64 0, .int .i64 0, .int .i64 0, .slice none 0 0] 35)) w.heap.size ⟨.slice none 0 0, 0, .slice none 0 0, 0, 0, 0, .slice none 0 0, [], [], []⟩
      have fb := filled_box bg ⟨.slice none 0 0, 0, .slice none 0 0, 0, 0, 0, .slice none 0 0, [], [], []⟩
      have bw := B3.trans (fa.below (Nat.le_refl _) B3.size)
      have HDN : Hid (_ ∧ _) := ⟨fb, bw⟩
      clear fa fb bw
      simp only [filled] at HDN
      go_wp2
      obtain ⟨fb, bw⟩ := HDN.out
      clear HDN
      generalize ((((((((w2.alloc (.cells #[.slice none 0 0, .int .i64 0, .slice none 0 0, .int .i64 0, .int .i64 0, .int .i64 0, .slice none 0 0] 35)).setCell ⟨w.heap.size, 0, none⟩ (.slice none 0 0)).setCell ⟨w.heap.size, 1, none⟩ (.int .i64 0)).setCell ⟨w.heap.size, 2, none⟩ (.slice none 0 0)).setCell ⟨w.heap.size, 3, none⟩ (.int .i64 0)).setCell ⟨w.heap.size, 4, none⟩ (.int .i64 0)).setCell ⟨w.heap.size, 5, none⟩ (.int .i64 0)).setCell ⟨w.heap.size, 6, none⟩ (.slice none 0 0)) = wz at fb bw ⊢
      obtain ⟨t0, t1, t2, t3, t4, t5, t6⟩ := fb.cells7
      simp only at t0 t1 t2 t3 t4 t5 t6
      (try simp only [Exit.inBlock, Exit.then])
      refine bodyPost_ret (v := .tuple #[.agg #[.slice none 0 0, .int .i64 0, .slice none 0 0, .int .i64 0, .int .i64 0, .int .i64 0, .slice none 0 0], .int .i64 0, .int .i64 (29)]) ?hres rfl ?_
      case hres => simp [results, Try.results28, go_sem, t0, t1, t2, t3, t4, t5, t6]
      exact ⟨bw, .inr ⟨29, rfl, .inr (.inl ⟨rfl, HNO.out, rfl⟩)⟩⟩
  · have hE1' : ¬ ((E1 : Int) = 0) := by omega
    have hE1b : ((E1 : Int) != 0) = true := by simp; omega
    have bg := bx1.out
    obtain ⟨g0, g1, g2, g3, g4, g5, g6⟩ := bg.cells7
    obtain ⟨gf0, gf1, gf2, gf3, gf4, gf5, gf6⟩ := bg.fz7
    simp only at g0 g1 g2 g3 g4 g5 g6
    have fa := filled_apart w1 w.heap.size ⟨.slice none 0 0, 0, .slice none 0 0, 0, 0, 0, .slice none 0 0, [], [], []⟩
    have fb := filled_box bg ⟨.slice none 0 0, 0, .slice none 0 0, 0, 0, 0, .slice none 0 0, [], [], []⟩
    have bw := HB1.out.trans (fa.below (Nat.le_refl _) HB1.out.size)
    have HDN : Hid (_ ∧ _) := ⟨fb, bw⟩
    clear fa fb bw
    simp only [filled] at HDN
    go_wp2
    obtain ⟨fb, bw⟩ := HDN.out
    clear HDN
    generalize (((((((w1.setCell ⟨w.heap.size, 0, none⟩ (.slice none 0 0)).setCell ⟨w.heap.size, 1, none⟩ (.int .i64 0)).setCell ⟨w.heap.size, 2, none⟩ (.slice none 0 0)).setCell ⟨w.heap.size, 3, none⟩ (.int .i64 0)).setCell ⟨w.heap.size, 4, none⟩ (.int .i64 0)).setCell ⟨w.heap.size, 5, none⟩ (.int .i64 0)).setCell ⟨w.heap.size, 6, none⟩ (.slice none 0 0)) = wz at fb bw ⊢
    obtain ⟨t0, t1, t2, t3, t4, t5, t6⟩ := fb.cells7
    simp only at t0 t1 t2 t3 t4 t5 t6
    (try simp only [Exit.inBlock, Exit.then])
    refine bodyPost_ret (v := .tuple #[.agg #[.slice none 0 0, .int .i64 0, .slice none 0 0, .int .i64 0, .int .i64 0, .int .i64 0, .slice none 0 0], .int .i64 0, .int .i64 ((E1 : Int))]) ?hres rfl ?_
    case hres => simp [results, Try.results28, go_sem, t0, t1, t2, t3, t4, t5, t6]
    exact ⟨bw, .inr ⟨E1, rfl, .inl ⟨hE1, rfl⟩⟩⟩

end Go.Proofs.Ytjcpjpjccoeakaa
