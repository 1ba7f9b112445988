import Derived.Test.YthpdlclgiggekaaCell16
import Derived.Test.YthpdlclgiggekaaOrdOk
namespace Go.Proofs.Ythpdlclgiggekaa
open Go.RowKit
set_option linter.unusedVariables false

/-- Some entry has this key. -/
def IsKey (bs : List Nat) : Prop := ∃ D : EntD, checkS D = 0 ∧ D.val = [] ∧ keyL D = bs
theorem checkS_eq {D : EntD} (hc : checkS D = 0) (hv : D.val = []) (a b c : Value) : checkS ⟨a, ((D.fam.toNat : Nat) : Int), b, ((D.ts.toNat : Nat) : Int), ((D.seq.toNat : Nat) : Int), ((D.kind.toNat : Nat) : Int), c, D.row, D.qual, []⟩ = 0 := by
  obtain ⟨_, f, _, _, t, s, k, _⟩ := check_facts hc
  have e : checkS ⟨a, ((D.fam.toNat : Nat) : Int), b, ((D.ts.toNat : Nat) : Int), ((D.seq.toNat : Nat) : Int), ((D.kind.toNat : Nat) : Int), c, D.row, D.qual, []⟩ = checkS D := by
    unfold checkS
    simp only [Int.toNat_of_nonneg f.1, Int.toNat_of_nonneg (show 0 ≤ D.ts by omega), Int.toNat_of_nonneg s.1, Int.toNat_of_nonneg (show 0 ≤ D.kind by omega), hv]
  rw [e, hc]

theorem mark_toNat {k : Int} (h : 0 ≤ k) (a : Int) : mark ((k.toNat : Nat) : Int) a = mark k a := by rw [Int.toNat_of_nonneg h]
/-- What ParseKey answers of any bytes. -/
def ParsedAs (w w' : World) (r : Ending) (bs : List Nat) : Prop :=
  Below w.heap.size w w' ∧
  ((∃ D : EntD, checkS D = 0 ∧ D.val = [] ∧ keyL D = bs ∧ Bys D.row ∧ Bys D.qual ∧ D.vv = .slice none 0 0 ∧ r = .returned (.tuple #[.agg D.cells, .int .i64 0]) ∧ Own w' w.heap.size D.vr D.row.length D.row ∧ ∃ B, w.heap.size ≤ B ∧ Own w' B D.vq D.qual.length D.qual ∧ ∀ k, D.vr.ownBlock = some k → k < B) ∨
   (¬ IsKey bs ∧ r = .returned (.tuple #[.agg #[.slice none 0 0, .int .i64 0, .slice none 0 0, .int .i64 0, .int .i64 0, .int .i64 0, .slice none 0 0], .int .i64 27])))

theorem parse_any {w : World} {m c : Nat} {a : Option Addr} {bs : List Nat} (hr : Rd w (.slice a m c) bs) (h47 : bs.length ≤ 140737488355328) :
    Calls Try.prog 25 #[.slice a m c] w fun e w' => ParsedAs w w' e bs := by
  have hm : m = bs.length := (rd_lens hr).1
  obtain ⟨⟨row, p1, E1⟩, q1⟩ : ∃ x, ordR bs 0 = x := ⟨_, rfl⟩
  obtain ⟨⟨fam, p2, b2⟩, q2⟩ : ∃ x, oneR bs p1 = x := ⟨_, rfl⟩
  obtain ⟨⟨fm, p3, b3⟩, q3⟩ : ∃ x, oneR bs p2 = x := ⟨_, rfl⟩
  have hbr : Bys row ∧ row.length ≤ 281474976710656 := by
    have := ordR_ok bs 0 hr.1
    rw [q1] at this
    exact ⟨this.1, by have := this.2; simp only at this; omega⟩
  by_cases hfm : fm = 0
  · subst hfm
    obtain ⟨⟨ts, p6, E6⟩, q6⟩ : ∃ x, fallR bs p3 = x := ⟨_, rfl⟩
    obtain ⟨⟨sq, p7, E7⟩, q7⟩ : ∃ x, fallR bs p6 = x := ⟨_, rfl⟩
    obtain ⟨⟨kd, p8, b8⟩, q8⟩ : ∃ x, oneR bs p7 = x := ⟨_, rfl⟩
    refine (parse_read (row := row) (qual := []) (fam := fam) (ts := ts) (sq := sq) (kd := kd) (p := p8) hr hbr ⟨by intro x hx; simp at hx, by simp⟩ (fun W g rb rd => entry_fam rb rd h47 q1 q2 q3 q6 q7 q8)).mono ?_
    rintro e w' ⟨hbad, hgood, hb⟩
    refine ⟨hb, ?_⟩
    by_cases G : (E1 = 0 ∧ b2 = false ∧ b3 = false ∧ E6 = 0 ∧ E7 = 0 ∧ b8 = false ∧ 0 = mark kd 5 ∧ 1 = mark kd 4) ∧ p8 = m ∧ checkS ⟨.slice none 0 0, fam, .slice none 0 0, ts, sq, kd, .slice none 0 0, row, [], []⟩ = 0
    · obtain ⟨vr, vq, he, o1, B, hB, o2, hlt⟩ := hgood G
      obtain ⟨⟨rfl, rfl, rfl, rfl, rfl, rfl, g7, _⟩, g9, g10⟩ := G
      refine .inl ⟨⟨vr, fam, vq, ts, sq, kd, .slice none 0 0, row, [], []⟩, g10, rfl, ?_, hbr.1, by intro x hx; simp at hx, rfl, he, o1, B, hB, o2, hlt⟩
      exact back_fam hr.1 q1 q2 q3 q6 q7 q8 g7 (by omega) _ _ _ _
    · refine .inr ⟨?_, hbad G⟩
      rintro ⟨D, hc, hv, hk⟩
      apply G
      by_cases k5 : D.kind = 5
      · obtain ⟨u1, u2, u3, u6, u7, r1, r2, r3, r6, r7, r8⟩ := reads_fam hc k5
        rw [hk] at r1 r2 r3 r6 r7 r8
        rw [q1] at r1
        simp only [Prod.mk.injEq] at r1
        obtain ⟨rfl, rfl, rfl⟩ := r1
        rw [q2] at r2
        simp only [Prod.mk.injEq] at r2
        obtain ⟨rfl, rfl, rfl⟩ := r2
        rw [q3] at r3
        simp only [Prod.mk.injEq] at r3
        obtain ⟨_, rfl, rfl⟩ := r3
        rw [q6] at r6
        simp only [Prod.mk.injEq] at r6
        obtain ⟨rfl, rfl, rfl⟩ := r6
        rw [q7] at r7
        simp only [Prod.mk.injEq] at r7
        obtain ⟨rfl, rfl, rfl⟩ := r7
        rw [q8] at r8
        simp only [Prod.mk.injEq] at r8
        obtain ⟨rfl, rfl, rfl⟩ := r8
        have hq := (check_facts hc).2.2.2.1 k5
        have hcs := checkS_eq hc hv (.slice none 0 0) (.slice none 0 0) (.slice none 0 0)
        rw [hq] at hcs
        exact ⟨⟨rfl, rfl, rfl, rfl, rfl, rfl, by simp [mark, k5], by simp [mark, k5]⟩, hm.symm, hcs⟩
      · obtain ⟨u1, u2, u3, u4, u5, u6, u7, r1, r2, r3, _⟩ := reads_plain hc k5
        rw [hk] at r1 r2 r3
        rw [q1] at r1
        simp only [Prod.mk.injEq] at r1
        obtain ⟨rfl, rfl, rfl⟩ := r1
        rw [q2] at r2
        simp only [Prod.mk.injEq] at r2
        obtain ⟨rfl, rfl, rfl⟩ := r2
        rw [q3] at r3
        simp at r3
  · obtain ⟨⟨qual, p4, E4⟩, q4⟩ : ∃ x, ordR bs p3 = x := ⟨_, rfl⟩
    obtain ⟨⟨cm, p5, b5⟩, q5⟩ : ∃ x, oneR bs p4 = x := ⟨_, rfl⟩
    obtain ⟨⟨ts, p6, E6⟩, q6⟩ : ∃ x, fallR bs p5 = x := ⟨_, rfl⟩
    obtain ⟨⟨sq, p7, E7⟩, q7⟩ : ∃ x, fallR bs p6 = x := ⟨_, rfl⟩
    obtain ⟨⟨kd, p8, b8⟩, q8⟩ : ∃ x, oneR bs p7 = x := ⟨_, rfl⟩
    have hbq : Bys qual ∧ qual.length ≤ 281474976710656 := by
      have := ordR_ok bs p3 hr.1
      rw [q4] at this
      exact ⟨this.1, by have := this.2; simp only at this; omega⟩
    refine (parse_read (row := row) (qual := qual) (fam := fam) (ts := ts) (sq := sq) (kd := kd) (p := p8) hr hbr hbq (fun W g rb rd => entry_plain rb rd h47 q1 q2 q3 hfm q4 q5 q6 q7 q8)).mono ?_
    rintro e w' ⟨hbad, hgood, hb⟩
    refine ⟨hb, ?_⟩
    by_cases G : (E1 = 0 ∧ b2 = false ∧ b3 = false ∧ E4 = 0 ∧ b5 = false ∧ E6 = 0 ∧ E7 = 0 ∧ b8 = false ∧ fm = mark kd 5 ∧ cm = mark kd 4) ∧ p8 = m ∧ checkS ⟨.slice none 0 0, fam, .slice none 0 0, ts, sq, kd, .slice none 0 0, row, qual, []⟩ = 0
    · obtain ⟨vr, vq, he, o1, B, hB, o2, hlt⟩ := hgood G
      obtain ⟨⟨rfl, rfl, rfl, rfl, rfl, rfl, rfl, rfl, g7, g8⟩, g9, g10⟩ := G
      refine .inl ⟨⟨vr, fam, vq, ts, sq, kd, .slice none 0 0, row, qual, []⟩, g10, rfl, ?_, hbr.1, hbq.1, rfl, he, o1, B, hB, o2, hlt⟩
      exact back_plain hr.1 q1 q2 q3 hfm q4 q5 q6 q7 q8 g7 g8 (by omega) _ _ _ _
    · refine .inr ⟨?_, hbad G⟩
      rintro ⟨D, hc, hv, hk⟩
      apply G
      by_cases k5 : D.kind = 5
      · obtain ⟨u1, u2, u3, u6, u7, r1, r2, r3, _⟩ := reads_fam hc k5
        rw [hk] at r1 r2 r3
        rw [q1] at r1
        simp only [Prod.mk.injEq] at r1
        obtain ⟨rfl, rfl, rfl⟩ := r1
        rw [q2] at r2
        simp only [Prod.mk.injEq] at r2
        obtain ⟨rfl, rfl, rfl⟩ := r2
        rw [q3] at r3
        simp only [Prod.mk.injEq] at r3
        exact absurd r3.1 hfm
      · obtain ⟨u1, u2, u3, u4, u5, u6, u7, r1, r2, r3, r4, r5, r6, r7, r8⟩ := reads_plain hc k5
        rw [hk] at r1 r2 r3 r4 r5 r6 r7 r8
        rw [q1] at r1
        simp only [Prod.mk.injEq] at r1
        obtain ⟨rfl, rfl, rfl⟩ := r1
        rw [q2] at r2
        simp only [Prod.mk.injEq] at r2
        obtain ⟨rfl, rfl, rfl⟩ := r2
        rw [q3] at r3
        simp only [Prod.mk.injEq] at r3
        obtain ⟨rfl, rfl, rfl⟩ := r3
        rw [q4] at r4
        simp only [Prod.mk.injEq] at r4
        obtain ⟨rfl, rfl, rfl⟩ := r4
        rw [q5] at r5
        simp only [Prod.mk.injEq] at r5
        obtain ⟨rfl, rfl, rfl⟩ := r5
        rw [q6] at r6
        simp only [Prod.mk.injEq] at r6
        obtain ⟨rfl, rfl, rfl⟩ := r6
        rw [q7] at r7
        simp only [Prod.mk.injEq] at r7
        obtain ⟨rfl, rfl, rfl⟩ := r7
        rw [q8] at r8
        simp only [Prod.mk.injEq] at r8
        obtain ⟨rfl, rfl, rfl⟩ := r8
        have hk0 : 0 ≤ D.kind := Int.le_trans (by decide) (check_facts hc).2.2.2.2.2.2.1.1
        exact ⟨⟨rfl, rfl, rfl, rfl, rfl, rfl, rfl, rfl, by rw [mark_toNat hk0]; simp [mark, k5], (mark_toNat hk0 4).symm⟩, hm.symm, checkS_eq hc hv _ _ _⟩

end Go.Proofs.Ythpdlclgiggekaa
