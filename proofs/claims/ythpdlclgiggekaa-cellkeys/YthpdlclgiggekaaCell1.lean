import Derived.Test.YthpdlclgiggekaaReadOrdered
namespace Go.Proofs.Ythpdlclgiggekaa
open Go.RowKit
set_option linter.unusedVariables false

/-- An entry: its values, and what its byte strings read as. -/
structure EntD where
  vr : Value
  fam : Int
  vq : Value
  ts : Int
  seq : Int
  kind : Int
  vv : Value
  row : List Nat
  qual : List Nat
  val : List Nat
def EntD.cells (e : EntD) : Array Value := #[e.vr, .int .i64 e.fam, e.vq, .int .i64 e.ts, .int .i64 e.seq, .int .i64 e.kind, e.vv]
def EntD.Ok (w : World) (e : EntD) : Prop := Rd w e.vr e.row ∧ Rd w e.vq e.qual ∧ Rd w e.vv e.val
theorem EntD.Ok.later {w w' : World} {e : EntD} (h : EntD.Ok w e) (hb : Below w.heap.size w w') : EntD.Ok w' e := ⟨h.1.later hb, h.2.1.later hb, h.2.2.later hb⟩

/-- What Check tells. -/
def checkS (e : EntD) : Nat :=
  if e.row.length = 0 ∨ 256 < e.row.length then 20
  else if e.fam < 0 ∨ 8 ≤ e.fam then 21
  else if 256 < e.qual.length ∨ (0 < e.qual.length ∧ e.kind = 5) then 22
  else if e.ts < 1 ∨ 1099511627776 < e.ts then 23
  else if e.seq < 0 ∨ 17592186044431 < e.seq then 24
  else if e.kind < 1 ∨ 5 < e.kind then 25
  else if 4096 < e.val.length ∨ (0 < e.val.length ∧ e.kind ≠ 1) then 26
  else 0

set_option maxRecDepth 100000 in
theorem isRow_any {a : Option Addr} {n cap : Nat} {w : World} (hn : n ≤ 281474976710656) :
    Calls Try.prog 62 #[.slice a n cap] w fun e w' => e = .returned (.bool (decide (0 < n ∧ n ≤ 256))) ∧ w' = w := by
  by_cases h : 0 < n
  · have h1 : (0 : Int) < (n : Int) := by omega
    go_enter Try.func62, Try.ntmps62
    go_wp2
    go_ret
    refine ⟨?_, rfl⟩
    by_cases h2 : n ≤ 256
    · rw [decide_eq_true (show 0 < n ∧ n ≤ 256 from ⟨h, h2⟩)]; simp; omega
    · rw [decide_eq_false (show ¬ (0 < n ∧ n ≤ 256) from fun h3 => h2 h3.2)]; simp; omega
  · have h1 : (n : Int) ≤ 0 := by omega
    have h0 : n = 0 := by omega
    subst h0
    go_enter Try.func62, Try.ntmps62
    go_wp2
    go_ret
    exact ⟨by first | rfl | simp, rfl⟩
set_option maxRecDepth 100000 in
theorem markOf_any (k a : Int) (w : World) : Calls Try.prog 60 #[.int .i64 k, .int .i64 a] w fun e w' => e = .returned (.int .u8 (((if k = a then 0 else 1 : Nat) : Nat) : Int)) ∧ w' = w := by
  by_cases h : k = a
  · subst h
    go_enter Try.func60, Try.ntmps60
    go_wp2
    go_ret
    exact ⟨by simp, rfl⟩
  · have h1 : (k == a) = false := by simp; exact h
    go_enter Try.func60, Try.ntmps60
    go_wp2
    go_ret
    exact ⟨by first | (rw [if_neg h]; rfl) | (simp; done) | simp [h], rfl⟩

set_option maxRecDepth 100000 in
set_option maxHeartbeats 4000000 in
theorem check_any {e : EntD} {w : World} (hok : EntD.Ok w e) :
    Calls Try.prog 24 #[.agg e.cells] w fun r w' => r = .returned (.int .i64 ((checkS e : Nat) : Int)) ∧ Below w.heap.size w w' := by
  obtain ⟨vr, fam, vq, ts, seq, kind, vv, row, qual, val⟩ := e
  obtain ⟨h1, h2, h3⟩ := hok
  simp only [EntD.cells] at *
  obtain ⟨ar, nr, cr, rfl⟩ := rd_slice h1
  obtain ⟨aq, nq, cq, rfl⟩ := rd_slice h2
  obtain ⟨av, nv, cv, rfl⟩ := rd_slice h3
  obtain ⟨er, _, _, lr⟩ := rd_lens h1
  obtain ⟨eq, _, _, lq⟩ := rd_lens h2
  obtain ⟨ev, _, _, lv⟩ := rd_lens h3
  have A1 := (Below.refl w.heap.size w).alloc (Nat.le_refl _) (.cells #[.slice ar nr cr, .int .i64 fam, .slice aq nq cq, .int .i64 ts, .int .i64 seq, .int .i64 kind, .slice av nv cv] 35)
  obtain ⟨S, hS⟩ : ∃ S, S = checkS ⟨.slice ar nr cr, fam, .slice aq nq cq, ts, seq, kind, .slice av nv cv, row, qual, val⟩ := ⟨_, rfl⟩
  rw [← hS]
  unfold checkS at hS
  simp only at hS
  rw [← er, ← eq, ← ev] at hS
  have HS : Hid (S = _) := hS
  clear hS er eq ev h1 h2 h3
  by_cases c1 : 0 < nr ∧ nr ≤ 256
  · have d1 : decide (0 < nr ∧ nr ≤ 256) = true := by simp; omega
    by_cases c2a : fam < 0
    · have HE : Hid (S = 21) := by unfold Hid; rw [HS.out]; repeat (first | rw [if_pos (by omega)] | rw [if_neg (by omega)])
      clear HS
      go_enter Try.func24, Try.ntmps24
      go_wp2_with fail
      refine (isRow_any lr).mono ?_
      rintro e1 w1 ⟨rfl, rfl⟩
      rw [d1]
      go_wp2
      go_ret
      exact ⟨by rw [HE.out]; rfl, A1⟩
    · have c2q : 0 ≤ fam := by omega
      by_cases c2b : 8 ≤ fam
      · have HE : Hid (S = 21) := by unfold Hid; rw [HS.out]; repeat (first | rw [if_pos (by omega)] | rw [if_neg (by omega)])
        clear HS
        go_enter Try.func24, Try.ntmps24
        go_wp2_with fail
        refine (isRow_any lr).mono ?_
        rintro e1 w1 ⟨rfl, rfl⟩
        rw [d1]
        go_wp2
        go_ret
        exact ⟨by rw [HE.out]; rfl, A1⟩
      · have c2p : fam < 8 := by omega
        by_cases c3a : 256 < nq
        · have q1 : (256 : Int) < (nq : Int) := by omega
          have HE : Hid (S = 22) := by unfold Hid; rw [HS.out]; repeat (first | rw [if_pos (by omega)] | rw [if_neg (by omega)])
          clear HS
          go_enter Try.func24, Try.ntmps24
          go_wp2_with fail
          refine (isRow_any lr).mono ?_
          rintro e1 w1 ⟨rfl, rfl⟩
          rw [d1]
          go_wp2
          go_ret
          exact ⟨by rw [HE.out]; rfl, A1⟩
        · have q1 : (nq : Int) ≤ 256 := by omega
          by_cases c3b : 0 < nq
          · have q0 : (0 : Int) < (nq : Int) := by omega
            by_cases c3c : kind = 5
            · subst c3c
              have HE : Hid (S = 22) := by unfold Hid; rw [HS.out]; repeat (first | rw [if_pos (by omega)] | rw [if_neg (by omega)])
              clear HS
              go_enter Try.func24, Try.ntmps24
              go_wp2_with fail
              refine (isRow_any lr).mono ?_
              rintro e1 w1 ⟨rfl, rfl⟩
              rw [d1]
              go_wp2
              go_ret
              exact ⟨by rw [HE.out]; rfl, A1⟩
            · have k5 : (kind == 5) = false := by simp; omega
              by_cases c4a : ts < 1
              · have HE : Hid (S = 23) := by unfold Hid; rw [HS.out]; repeat (first | rw [if_pos (by omega)] | rw [if_neg (by omega)])
                clear HS
                go_enter Try.func24, Try.ntmps24
                go_wp2_with fail
                refine (isRow_any lr).mono ?_
                rintro e1 w1 ⟨rfl, rfl⟩
                rw [d1]
                go_wp2
                go_ret
                exact ⟨by rw [HE.out]; rfl, A1⟩
              · have c4q : 1 ≤ ts := by omega
                by_cases c4b : 1099511627776 < ts
                · have HE : Hid (S = 23) := by unfold Hid; rw [HS.out]; repeat (first | rw [if_pos (by omega)] | rw [if_neg (by omega)])
                  clear HS
                  go_enter Try.func24, Try.ntmps24
                  go_wp2_with fail
                  refine (isRow_any lr).mono ?_
                  rintro e1 w1 ⟨rfl, rfl⟩
                  rw [d1]
                  go_wp2
                  go_ret
                  exact ⟨by rw [HE.out]; rfl, A1⟩
                · have c4p : ts ≤ 1099511627776 := by omega
                  by_cases c5a : seq < 0
                  · have HE : Hid (S = 24) := by unfold Hid; rw [HS.out]; repeat (first | rw [if_pos (by omega)] | rw [if_neg (by omega)])
                    clear HS
                    go_enter Try.func24, Try.ntmps24
                    go_wp2_with fail
                    refine (isRow_any lr).mono ?_
                    rintro e1 w1 ⟨rfl, rfl⟩
                    rw [d1]
                    go_wp2
                    go_ret
                    exact ⟨by rw [HE.out]; rfl, A1⟩
                  · have c5q : 0 ≤ seq := by omega
                    by_cases c5b : 17592186044431 < seq
                    · have HE : Hid (S = 24) := by unfold Hid; rw [HS.out]; repeat (first | rw [if_pos (by omega)] | rw [if_neg (by omega)])
                      clear HS
                      go_enter Try.func24, Try.ntmps24
                      go_wp2_with fail
                      refine (isRow_any lr).mono ?_
                      rintro e1 w1 ⟨rfl, rfl⟩
                      rw [d1]
                      go_wp2
                      go_ret
                      exact ⟨by rw [HE.out]; rfl, A1⟩
                    · have c5p : seq ≤ 17592186044431 := by omega
                      by_cases c6a : kind < 1
                      · have HE : Hid (S = 25) := by unfold Hid; rw [HS.out]; repeat (first | rw [if_pos (by omega)] | rw [if_neg (by omega)])
                        clear HS
                        go_enter Try.func24, Try.ntmps24
                        go_wp2_with fail
                        refine (isRow_any lr).mono ?_
                        rintro e1 w1 ⟨rfl, rfl⟩
                        rw [d1]
                        go_wp2
                        go_ret
                        exact ⟨by rw [HE.out]; rfl, A1⟩
                      · have c6q : 1 ≤ kind := by omega
                        by_cases c6b : 5 < kind
                        · have HE : Hid (S = 25) := by unfold Hid; rw [HS.out]; repeat (first | rw [if_pos (by omega)] | rw [if_neg (by omega)])
                          clear HS
                          go_enter Try.func24, Try.ntmps24
                          go_wp2_with fail
                          refine (isRow_any lr).mono ?_
                          rintro e1 w1 ⟨rfl, rfl⟩
                          rw [d1]
                          go_wp2
                          go_ret
                          exact ⟨by rw [HE.out]; rfl, A1⟩
                        · have c6p : kind ≤ 5 := by omega
                          by_cases c7a : 4096 < nv
                          · have v1 : (4096 : Int) < (nv : Int) := by omega
                            have HE : Hid (S = 26) := by unfold Hid; rw [HS.out]; repeat (first | rw [if_pos (by omega)] | rw [if_neg (by omega)])
                            clear HS
                            go_enter Try.func24, Try.ntmps24
                            go_wp2_with fail
                            refine (isRow_any lr).mono ?_
                            rintro e1 w1 ⟨rfl, rfl⟩
                            rw [d1]
                            go_wp2
                            go_ret
                            exact ⟨by rw [HE.out]; rfl, A1⟩
                          · have v1 : (nv : Int) ≤ 4096 := by omega
                            by_cases c7b : 0 < nv
                            · have v0 : (0 : Int) < (nv : Int) := by omega
                              by_cases c7c : kind = 1
                              · subst c7c
                                have HE : Hid (S = 0) := by unfold Hid; rw [HS.out]; repeat (first | rw [if_pos (by omega)] | rw [if_neg (by omega)])
                                clear HS
                                go_enter Try.func24, Try.ntmps24
                                go_wp2_with fail
                                refine (isRow_any lr).mono ?_
                                rintro e1 w1 ⟨rfl, rfl⟩
                                rw [d1]
                                go_wp2
                                go_ret
                                exact ⟨by rw [HE.out]; rfl, A1⟩
                              · have k1 : (kind == 1) = false := by simp; omega
                                have k1n : (kind != 1) = true := by simp; omega
                                have HE : Hid (S = 26) := by unfold Hid; rw [HS.out]; repeat (first | rw [if_pos (by omega)] | rw [if_neg (by omega)])
                                clear HS
                                go_enter Try.func24, Try.ntmps24
                                go_wp2_with fail
                                refine (isRow_any lr).mono ?_
                                rintro e1 w1 ⟨rfl, rfl⟩
                                rw [d1]
                                go_wp2
                                go_ret
                                exact ⟨by rw [HE.out]; rfl, A1⟩
                            · have v0 : (nv : Int) ≤ 0 := by omega
                              have HE : Hid (S = 0) := by unfold Hid; rw [HS.out]; repeat (first | rw [if_pos (by omega)] | rw [if_neg (by omega)])
                              clear HS
                              go_enter Try.func24, Try.ntmps24
                              go_wp2_with fail
                              refine (isRow_any lr).mono ?_
                              rintro e1 w1 ⟨rfl, rfl⟩
                              rw [d1]
                              go_wp2
                              go_ret
                              exact ⟨by rw [HE.out]; rfl, A1⟩
          · have q0 : (nq : Int) ≤ 0 := by omega
            by_cases c4a : ts < 1
            · have HE : Hid (S = 23) := by unfold Hid; rw [HS.out]; repeat (first | rw [if_pos (by omega)] | rw [if_neg (by omega)])
              clear HS
              go_enter Try.func24, Try.ntmps24
              go_wp2_with fail
              refine (isRow_any lr).mono ?_
              rintro e1 w1 ⟨rfl, rfl⟩
              rw [d1]
              go_wp2
              go_ret
              exact ⟨by rw [HE.out]; rfl, A1⟩
            · have c4q : 1 ≤ ts := by omega
              by_cases c4b : 1099511627776 < ts
              · have HE : Hid (S = 23) := by unfold Hid; rw [HS.out]; repeat (first | rw [if_pos (by omega)] | rw [if_neg (by omega)])
                clear HS
                go_enter Try.func24, Try.ntmps24
                go_wp2_with fail
                refine (isRow_any lr).mono ?_
                rintro e1 w1 ⟨rfl, rfl⟩
                rw [d1]
                go_wp2
                go_ret
                exact ⟨by rw [HE.out]; rfl, A1⟩
              · have c4p : ts ≤ 1099511627776 := by omega
                by_cases c5a : seq < 0
                · have HE : Hid (S = 24) := by unfold Hid; rw [HS.out]; repeat (first | rw [if_pos (by omega)] | rw [if_neg (by omega)])
                  clear HS
                  go_enter Try.func24, Try.ntmps24
                  go_wp2_with fail
                  refine (isRow_any lr).mono ?_
                  rintro e1 w1 ⟨rfl, rfl⟩
                  rw [d1]
                  go_wp2
                  go_ret
                  exact ⟨by rw [HE.out]; rfl, A1⟩
                · have c5q : 0 ≤ seq := by omega
                  by_cases c5b : 17592186044431 < seq
                  · have HE : Hid (S = 24) := by unfold Hid; rw [HS.out]; repeat (first | rw [if_pos (by omega)] | rw [if_neg (by omega)])
                    clear HS
                    go_enter Try.func24, Try.ntmps24
                    go_wp2_with fail
                    refine (isRow_any lr).mono ?_
                    rintro e1 w1 ⟨rfl, rfl⟩
                    rw [d1]
                    go_wp2
                    go_ret
                    exact ⟨by rw [HE.out]; rfl, A1⟩
                  · have c5p : seq ≤ 17592186044431 := by omega
                    by_cases c6a : kind < 1
                    · have HE : Hid (S = 25) := by unfold Hid; rw [HS.out]; repeat (first | rw [if_pos (by omega)] | rw [if_neg (by omega)])
                      clear HS
                      go_enter Try.func24, Try.ntmps24
                      go_wp2_with fail
                      refine (isRow_any lr).mono ?_
                      rintro e1 w1 ⟨rfl, rfl⟩
                      rw [d1]
                      go_wp2
                      go_ret
                      exact ⟨by rw [HE.out]; rfl, A1⟩
                    · have c6q : 1 ≤ kind := by omega
                      by_cases c6b : 5 < kind
                      · have HE : Hid (S = 25) := by unfold Hid; rw [HS.out]; repeat (first | rw [if_pos (by omega)] | rw [if_neg (by omega)])
                        clear HS
                        go_enter Try.func24, Try.ntmps24
                        go_wp2_with fail
                        refine (isRow_any lr).mono ?_
                        rintro e1 w1 ⟨rfl, rfl⟩
                        rw [d1]
                        go_wp2
                        go_ret
                        exact ⟨by rw [HE.out]; rfl, A1⟩
                      · have c6p : kind ≤ 5 := by omega
                        by_cases c7a : 4096 < nv
                        · have v1 : (4096 : Int) < (nv : Int) := by omega
                          have HE : Hid (S = 26) := by unfold Hid; rw [HS.out]; repeat (first | rw [if_pos (by omega)] | rw [if_neg (by omega)])
                          clear HS
                          go_enter Try.func24, Try.ntmps24
                          go_wp2_with fail
                          refine (isRow_any lr).mono ?_
                          rintro e1 w1 ⟨rfl, rfl⟩
                          rw [d1]
                          go_wp2
                          go_ret
                          exact ⟨by rw [HE.out]; rfl, A1⟩
                        · have v1 : (nv : Int) ≤ 4096 := by omega
                          by_cases c7b : 0 < nv
                          · have v0 : (0 : Int) < (nv : Int) := by omega
                            by_cases c7c : kind = 1
                            · subst c7c
                              have HE : Hid (S = 0) := by unfold Hid; rw [HS.out]; repeat (first | rw [if_pos (by omega)] | rw [if_neg (by omega)])
                              clear HS
                              go_enter Try.func24, Try.ntmps24
                              go_wp2_with fail
                              refine (isRow_any lr).mono ?_
                              rintro e1 w1 ⟨rfl, rfl⟩
                              rw [d1]
                              go_wp2
                              go_ret
                              exact ⟨by rw [HE.out]; rfl, A1⟩
                            · have k1 : (kind == 1) = false := by simp; omega
                              have k1n : (kind != 1) = true := by simp; omega
                              have HE : Hid (S = 26) := by unfold Hid; rw [HS.out]; repeat (first | rw [if_pos (by omega)] | rw [if_neg (by omega)])
                              clear HS
                              go_enter Try.func24, Try.ntmps24
                              go_wp2_with fail
                              refine (isRow_any lr).mono ?_
                              rintro e1 w1 ⟨rfl, rfl⟩
                              rw [d1]
                              go_wp2
                              go_ret
                              exact ⟨by rw [HE.out]; rfl, A1⟩
                          · have v0 : (nv : Int) ≤ 0 := by omega
                            have HE : Hid (S = 0) := by unfold Hid; rw [HS.out]; repeat (first | rw [if_pos (by omega)] | rw [if_neg (by omega)])
                            clear HS
                            go_enter Try.func24, Try.ntmps24
                            go_wp2_with fail
                            refine (isRow_any lr).mono ?_
                            rintro e1 w1 ⟨rfl, rfl⟩
                            rw [d1]
                            go_wp2
                            go_ret
                            exact ⟨by rw [HE.out]; rfl, A1⟩
  · have d1 : decide (0 < nr ∧ nr ≤ 256) = false := by simp; omega
    have HE : Hid (S = 20) := by unfold Hid; rw [HS.out]; repeat (first | rw [if_pos (by omega)] | rw [if_neg (by omega)])
    clear HS
    go_enter Try.func24, Try.ntmps24
    go_wp2_with fail
    refine (isRow_any lr).mono ?_
    rintro e1 w1 ⟨rfl, rfl⟩
    rw [d1]
    go_wp2
    go_ret
    exact ⟨by rw [HE.out]; rfl, A1⟩

end Go.Proofs.Ythpdlclgiggekaa
