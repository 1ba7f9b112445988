import Derived.Test.YthhkpkfpifllkaaK00
import Derived.Deep.RegionHeld3
import Derived.Lib.Bytealg
namespace Go.Proofs.Ythhkpkfpifllkaa
open Go.RowKit
set_option linter.unusedVariables false

structure EntD where
  vr : Value
  fam : Int
  vq : Value
  ts : Int
  seq : Int
  kind : Int
  vv : Value
  row : List Nat
  qual : List Nat
  val : List Nat
def EntD.cells (e : EntD) : Array Value := #[e.vr, .int .i64 e.fam, e.vq, .int .i64 e.ts, .int .i64 e.seq, .int .i64 e.kind, e.vv]
def EntD.Ok (w : World) (e : EntD) : Prop := Rd w e.vr e.row ∧ Rd w e.vq e.qual ∧ Rd w e.vv e.val
theorem EntD.Ok.later {w w' : World} {e : EntD} (h : EntD.Ok w e) (hb : Below w.heap.size w w') : EntD.Ok w' e := ⟨h.1.later hb, h.2.1.later hb, h.2.2.later hb⟩

def checkS (e : EntD) : Nat :=
  if e.row.length = 0 ∨ 256 < e.row.length then 20
  else if e.fam < 0 ∨ 8 ≤ e.fam then 21
  else if 256 < e.qual.length ∨ (0 < e.qual.length ∧ e.kind = 5) then 22
  else if e.ts < 1 ∨ 1099511627776 < e.ts then 23
  else if e.seq < 0 ∨ 17592186044431 < e.seq then 24
  else if e.kind < 1 ∨ 5 < e.kind then 25
  else if 4096 < e.val.length ∨ (0 < e.val.length ∧ e.kind ≠ 1) then 26
  else 0

set_option maxRecDepth 100000 in
theorem isRow_any {a : Option Addr} {n cap : Nat} {w : World} (hn : n ≤ 281474976710656) :
    Calls Try.prog 36 #[.slice a n cap] w fun e w' => e = .returned (.bool (decide (0 < n ∧ n ≤ 256))) ∧ w' = w := by
  by_cases h : 0 < n
  · have h1 : (0 : Int) < (n : Int) := by omega
    go_enter Try.func36, Try.ntmps36
    go_wp2
    go_ret
    refine ⟨?_, rfl⟩
    by_cases h2 : n ≤ 256
    · rw [decide_eq_true (show 0 < n ∧ n ≤ 256 from ⟨h, h2⟩)]; simp; omega
    · rw [decide_eq_false (show ¬ (0 < n ∧ n ≤ 256) from fun h3 => h2 h3.2)]; simp; omega
  · have h1 : (n : Int) ≤ 0 := by omega
    have h0 : n = 0 := by omega
    subst h0
    go_enter Try.func36, Try.ntmps36
    go_wp2
    go_ret
    exact ⟨by first | rfl | simp, rfl⟩
set_option maxRecDepth 100000 in
theorem markOf_any (k a : Int) (w : World) : Calls Try.prog 91 #[.int .i64 k, .int .i64 a] w fun e w' => e = .returned (.int .u8 (((if k = a then 0 else 1 : Nat) : Nat) : Int)) ∧ w' = w := by
  by_cases h : k = a
  · subst h
    go_enter Try.func91, Try.ntmps91
    go_wp2
    go_ret
    exact ⟨by simp, rfl⟩
  · have h1 : (k == a) = false := by simp; exact h
    go_enter Try.func91, Try.ntmps91
    go_wp2
    go_ret
    exact ⟨by first | (rw [if_neg h]; rfl) | (simp; done) | simp [h], rfl⟩

set_option maxRecDepth 100000 in
set_option maxHeartbeats 4000000 in
theorem check_any {e : EntD} {w : World} (hok : EntD.Ok w e) :
    Calls Try.prog 21 #[.agg e.cells] w fun r w' => r = .returned (.int .i64 ((checkS e : Nat) : Int)) ∧ Below w.heap.size w w' := by
  obtain ⟨vr, fam, vq, ts, seq, kind, vv, row, qual, val⟩ := e
  obtain ⟨h1, h2, h3⟩ := hok
  simp only [EntD.cells] at *
  obtain ⟨ar, nr, cr, rfl⟩ := rd_slice h1
  obtain ⟨aq, nq, cq, rfl⟩ := rd_slice h2
  obtain ⟨av, nv, cv, rfl⟩ := rd_slice h3
  obtain ⟨er, _, _, lr⟩ := rd_lens h1
  obtain ⟨eq, _, _, lq⟩ := rd_lens h2
  obtain ⟨ev, _, _, lv⟩ := rd_lens h3
  have A1 := (Below.refl w.heap.size w).alloc (Nat.le_refl _) (.cells #[.slice ar nr cr, .int .i64 fam, .slice aq nq cq, .int .i64 ts, .int .i64 seq, .int .i64 kind, .slice av nv cv] 45)
  obtain ⟨S, hS⟩ : ∃ S, S = checkS ⟨.slice ar nr cr, fam, .slice aq nq cq, ts, seq, kind, .slice av nv cv, row, qual, val⟩ := ⟨_, rfl⟩
  rw [← hS]
  unfold checkS at hS
  simp only at hS
  rw [← er, ← eq, ← ev] at hS
  have HS : Hid (S = _) := hS
  clear hS er eq ev h1 h2 h3
  by_cases c1 : 0 < nr ∧ nr ≤ 256
  · have d1 : decide (0 < nr ∧ nr ≤ 256) = true := by simp; omega
    by_cases c2a : fam < 0
    · have HE : Hid (S = 21) := by unfold Hid; rw [HS.out]; repeat (first | rw [if_pos (by omega)] | rw [if_neg (by omega)])
      clear HS
      go_enter Try.func21, Try.ntmps21
      go_wp2_with fail
      refine (isRow_any lr).mono ?_
      rintro e1 w1 ⟨rfl, rfl⟩
      rw [d1]
      go_wp2
      go_ret
      exact ⟨by rw [HE.out]; rfl, A1⟩
    · have c2q : 0 ≤ fam := by omega
      by_cases c2b : 8 ≤ fam
      · have HE : Hid (S = 21) := by unfold Hid; rw [HS.out]; repeat (first | rw [if_pos (by omega)] | rw [if_neg (by omega)])
        clear HS
        go_enter Try.func21, Try.ntmps21
        go_wp2_with fail
        refine (isRow_any lr).mono ?_
        rintro e1 w1 ⟨rfl, rfl⟩
        rw [d1]
        go_wp2
        go_ret
        exact ⟨by rw [HE.out]; rfl, A1⟩
      · have c2p : fam < 8 := by omega
        by_cases c3a : 256 < nq
        · have q1 : (256 : Int) < (nq : Int) := by omega
          have HE : Hid (S = 22) := by unfold Hid; rw [HS.out]; repeat (first | rw [if_pos (by omega)] | rw [if_neg (by omega)])
          clear HS
          go_enter Try.func21, Try.ntmps21
          go_wp2_with fail
          refine (isRow_any lr).mono ?_
          rintro e1 w1 ⟨rfl, rfl⟩
          rw [d1]
          go_wp2
          go_ret
          exact ⟨by rw [HE.out]; rfl, A1⟩
        · have q1 : (nq : Int) ≤ 256 := by omega
          by_cases c3b : 0 < nq
          · have q0 : (0 : Int) < (nq : Int) := by omega
            by_cases c3c : kind = 5
            · subst c3c
              have HE : Hid (S = 22) := by unfold Hid; rw [HS.out]; repeat (first | rw [if_pos (by omega)] | rw [if_neg (by omega)])
              clear HS
              go_enter Try.func21, Try.ntmps21
              go_wp2_with fail
              refine (isRow_any lr).mono ?_
              rintro e1 w1 ⟨rfl, rfl⟩
              rw [d1]
              go_wp2
              go_ret
              exact ⟨by rw [HE.out]; rfl, A1⟩
            · have k5 : (kind == 5) = false := by simp; omega
              by_cases c4a : ts < 1
              · have HE : Hid (S = 23) := by unfold Hid; rw [HS.out]; repeat (first | rw [if_pos (by omega)] | rw [if_neg (by omega)])
                clear HS
                go_enter Try.func21, Try.ntmps21
                go_wp2_with fail
                refine (isRow_any lr).mono ?_
                rintro e1 w1 ⟨rfl, rfl⟩
                rw [d1]
                go_wp2
                go_ret
                exact ⟨by rw [HE.out]; rfl, A1⟩
              · have c4q : 1 ≤ ts := by omega
                by_cases c4b : 1099511627776 < ts
                · have HE : Hid (S = 23) := by unfold Hid; rw [HS.out]; repeat (first | rw [if_pos (by omega)] | rw [if_neg (by omega)])
                  clear HS
                  go_enter Try.func21, Try.ntmps21
                  go_wp2_with fail
                  refine (isRow_any lr).mono ?_
                  rintro e1 w1 ⟨rfl, rfl⟩
                  rw [d1]
                  go_wp2
                  go_ret
                  exact ⟨by rw [HE.out]; rfl, A1⟩
                · have c4p : ts ≤ 1099511627776 := by omega
                  by_cases c5a : seq < 0
                  · have HE : Hid (S = 24) := by unfold Hid; rw [HS.out]; repeat (first | rw [if_pos (by omega)] | rw [if_neg (by omega)])
                    clear HS
                    go_enter Try.func21, Try.ntmps21
                    go_wp2_with fail
                    refine (isRow_any lr).mono ?_
                    rintro e1 w1 ⟨rfl, rfl⟩
                    rw [d1]
                    go_wp2
                    go_ret
                    exact ⟨by rw [HE.out]; rfl, A1⟩
                  · have c5q : 0 ≤ seq := by omega
                    by_cases c5b : 17592186044431 < seq
                    · have HE : Hid (S = 24) := by unfold Hid; rw [HS.out]; repeat (first | rw [if_pos (by omega)] | rw [if_neg (by omega)])
                      clear HS
                      go_enter Try.func21, Try.ntmps21
                      go_wp2_with fail
                      refine (isRow_any lr).mono ?_
                      rintro e1 w1 ⟨rfl, rfl⟩
                      rw [d1]
                      go_wp2
                      go_ret
                      exact ⟨by rw [HE.out]; rfl, A1⟩
                    · have c5p : seq ≤ 17592186044431 := by omega
                      by_cases c6a : kind < 1
                      · have HE : Hid (S = 25) := by unfold Hid; rw [HS.out]; repeat (first | rw [if_pos (by omega)] | rw [if_neg (by omega)])
                        clear HS
                        go_enter Try.func21, Try.ntmps21
                        go_wp2_with fail
                        refine (isRow_any lr).mono ?_
                        rintro e1 w1 ⟨rfl, rfl⟩
                        rw [d1]
                        go_wp2
                        go_ret
                        exact ⟨by rw [HE.out]; rfl, A1⟩
                      · have c6q : 1 ≤ kind := by omega
                        by_cases c6b : 5 < kind
                        · have HE : Hid (S = 25) := by unfold Hid; rw [HS.out]; repeat (first | rw [if_pos (by omega)] | rw [if_neg (by omega)])
                          clear HS
                          go_enter Try.func21, Try.ntmps21
                          go_wp2_with fail
                          refine (isRow_any lr).mono ?_
                          rintro e1 w1 ⟨rfl, rfl⟩
                          rw [d1]
                          go_wp2
                          go_ret
                          exact ⟨by rw [HE.out]; rfl, A1⟩
                        · have c6p : kind ≤ 5 := by omega
                          by_cases c7a : 4096 < nv
                          · have v1 : (4096 : Int) < (nv : Int) := by omega
                            have HE : Hid (S = 26) := by unfold Hid; rw [HS.out]; repeat (first | rw [if_pos (by omega)] | rw [if_neg (by omega)])
                            clear HS
                            go_enter Try.func21, Try.ntmps21
                            go_wp2_with fail
                            refine (isRow_any lr).mono ?_
                            rintro e1 w1 ⟨rfl, rfl⟩
                            rw [d1]
                            go_wp2
                            go_ret
                            exact ⟨by rw [HE.out]; rfl, A1⟩
                          · have v1 : (nv : Int) ≤ 4096 := by omega
                            by_cases c7b : 0 < nv
                            · have v0 : (0 : Int) < (nv : Int) := by omega
                              by_cases c7c : kind = 1
                              · subst c7c
                                have HE : Hid (S = 0) := by unfold Hid; rw [HS.out]; repeat (first | rw [if_pos (by omega)] | rw [if_neg (by omega)])
                                clear HS
                                go_enter Try.func21, Try.ntmps21
                                go_wp2_with fail
                                refine (isRow_any lr).mono ?_
                                rintro e1 w1 ⟨rfl, rfl⟩
                                rw [d1]
                                go_wp2
                                go_ret
                                exact ⟨by rw [HE.out]; rfl, A1⟩
                              · have k1 : (kind == 1) = false := by simp; omega
                                have k1n : (kind != 1) = true := by simp; omega
                                have HE : Hid (S = 26) := by unfold Hid; rw [HS.out]; repeat (first | rw [if_pos (by omega)] | rw [if_neg (by omega)])
                                clear HS
                                go_enter Try.func21, Try.ntmps21
                                go_wp2_with fail
                                refine (isRow_any lr).mono ?_
                                rintro e1 w1 ⟨rfl, rfl⟩
                                rw [d1]
                                go_wp2
                                go_ret
                                exact ⟨by rw [HE.out]; rfl, A1⟩
                            · have v0 : (nv : Int) ≤ 0 := by omega
                              have HE : Hid (S = 0) := by unfold Hid; rw [HS.out]; repeat (first | rw [if_pos (by omega)] | rw [if_neg (by omega)])
                              clear HS
                              go_enter Try.func21, Try.ntmps21
                              go_wp2_with fail
                              refine (isRow_any lr).mono ?_
                              rintro e1 w1 ⟨rfl, rfl⟩
                              rw [d1]
                              go_wp2
                              go_ret
                              exact ⟨by rw [HE.out]; rfl, A1⟩
          · have q0 : (nq : Int) ≤ 0 := by omega
            by_cases c4a : ts < 1
            · have HE : Hid (S = 23) := by unfold Hid; rw [HS.out]; repeat (first | rw [if_pos (by omega)] | rw [if_neg (by omega)])
              clear HS
              go_enter Try.func21, Try.ntmps21
              go_wp2_with fail
              refine (isRow_any lr).mono ?_
              rintro e1 w1 ⟨rfl, rfl⟩
              rw [d1]
              go_wp2
              go_ret
              exact ⟨by rw [HE.out]; rfl, A1⟩
            · have c4q : 1 ≤ ts := by omega
              by_cases c4b : 1099511627776 < ts
              · have HE : Hid (S = 23) := by unfold Hid; rw [HS.out]; repeat (first | rw [if_pos (by omega)] | rw [if_neg (by omega)])
                clear HS
                go_enter Try.func21, Try.ntmps21
                go_wp2_with fail
                refine (isRow_any lr).mono ?_
                rintro e1 w1 ⟨rfl, rfl⟩
                rw [d1]
                go_wp2
                go_ret
                exact ⟨by rw [HE.out]; rfl, A1⟩
              · have c4p : ts ≤ 1099511627776 := by omega
                by_cases c5a : seq < 0
                · have HE : Hid (S = 24) := by unfold Hid; rw [HS.out]; repeat (first | rw [if_pos (by omega)] | rw [if_neg (by omega)])
                  clear HS
                  go_enter Try.func21, Try.ntmps21
                  go_wp2_with fail
                  refine (isRow_any lr).mono ?_
                  rintro e1 w1 ⟨rfl, rfl⟩
                  rw [d1]
                  go_wp2
                  go_ret
                  exact ⟨by rw [HE.out]; rfl, A1⟩
                · have c5q : 0 ≤ seq := by omega
                  by_cases c5b : 17592186044431 < seq
                  · have HE : Hid (S = 24) := by unfold Hid; rw [HS.out]; repeat (first | rw [if_pos (by omega)] | rw [if_neg (by omega)])
                    clear HS
                    go_enter Try.func21, Try.ntmps21
                    go_wp2_with fail
                    refine (isRow_any lr).mono ?_
                    rintro e1 w1 ⟨rfl, rfl⟩
                    rw [d1]
                    go_wp2
                    go_ret
                    exact ⟨by rw [HE.out]; rfl, A1⟩
                  · have c5p : seq ≤ 17592186044431 := by omega
                    by_cases c6a : kind < 1
                    · have HE : Hid (S = 25) := by unfold Hid; rw [HS.out]; repeat (first | rw [if_pos (by omega)] | rw [if_neg (by omega)])
                      clear HS
                      go_enter Try.func21, Try.ntmps21
                      go_wp2_with fail
                      refine (isRow_any lr).mono ?_
                      rintro e1 w1 ⟨rfl, rfl⟩
                      rw [d1]
                      go_wp2
                      go_ret
                      exact ⟨by rw [HE.out]; rfl, A1⟩
                    · have c6q : 1 ≤ kind := by omega
                      by_cases c6b : 5 < kind
                      · have HE : Hid (S = 25) := by unfold Hid; rw [HS.out]; repeat (first | rw [if_pos (by omega)] | rw [if_neg (by omega)])
                        clear HS
                        go_enter Try.func21, Try.ntmps21
                        go_wp2_with fail
                        refine (isRow_any lr).mono ?_
                        rintro e1 w1 ⟨rfl, rfl⟩
                        rw [d1]
                        go_wp2
                        go_ret
                        exact ⟨by rw [HE.out]; rfl, A1⟩
                      · have c6p : kind ≤ 5 := by omega
                        by_cases c7a : 4096 < nv
                        · have v1 : (4096 : Int) < (nv : Int) := by omega
                          have HE : Hid (S = 26) := by unfold Hid; rw [HS.out]; repeat (first | rw [if_pos (by omega)] | rw [if_neg (by omega)])
                          clear HS
                          go_enter Try.func21, Try.ntmps21
                          go_wp2_with fail
                          refine (isRow_any lr).mono ?_
                          rintro e1 w1 ⟨rfl, rfl⟩
                          rw [d1]
                          go_wp2
                          go_ret
                          exact ⟨by rw [HE.out]; rfl, A1⟩
                        · have v1 : (nv : Int) ≤ 4096 := by omega
                          by_cases c7b : 0 < nv
                          · have v0 : (0 : Int) < (nv : Int) := by omega
                            by_cases c7c : kind = 1
                            · subst c7c
                              have HE : Hid (S = 0) := by unfold Hid; rw [HS.out]; repeat (first | rw [if_pos (by omega)] | rw [if_neg (by omega)])
                              clear HS
                              go_enter Try.func21, Try.ntmps21
                              go_wp2_with fail
                              refine (isRow_any lr).mono ?_
                              rintro e1 w1 ⟨rfl, rfl⟩
                              rw [d1]
                              go_wp2
                              go_ret
                              exact ⟨by rw [HE.out]; rfl, A1⟩
                            · have k1 : (kind == 1) = false := by simp; omega
                              have k1n : (kind != 1) = true := by simp; omega
                              have HE : Hid (S = 26) := by unfold Hid; rw [HS.out]; repeat (first | rw [if_pos (by omega)] | rw [if_neg (by omega)])
                              clear HS
                              go_enter Try.func21, Try.ntmps21
                              go_wp2_with fail
                              refine (isRow_any lr).mono ?_
                              rintro e1 w1 ⟨rfl, rfl⟩
                              rw [d1]
                              go_wp2
                              go_ret
                              exact ⟨by rw [HE.out]; rfl, A1⟩
                          · have v0 : (nv : Int) ≤ 0 := by omega
                            have HE : Hid (S = 0) := by unfold Hid; rw [HS.out]; repeat (first | rw [if_pos (by omega)] | rw [if_neg (by omega)])
                            clear HS
                            go_enter Try.func21, Try.ntmps21
                            go_wp2_with fail
                            refine (isRow_any lr).mono ?_
                            rintro e1 w1 ⟨rfl, rfl⟩
                            rw [d1]
                            go_wp2
                            go_ret
                            exact ⟨by rw [HE.out]; rfl, A1⟩
  · have d1 : decide (0 < nr ∧ nr ≤ 256) = false := by simp; omega
    have HE : Hid (S = 20) := by unfold Hid; rw [HS.out]; repeat (first | rw [if_pos (by omega)] | rw [if_neg (by omega)])
    clear HS
    go_enter Try.func21, Try.ntmps21
    go_wp2_with fail
    refine (isRow_any lr).mono ?_
    rintro e1 w1 ⟨rfl, rfl⟩
    rw [d1]
    go_wp2
    go_ret
    exact ⟨by rw [HE.out]; rfl, A1⟩

end Go.Proofs.Ythhkpkfpifllkaa

namespace Go.Proofs.Ythhkpkfpifllkaa
open Go.RowKit
set_option linter.unusedVariables false

def EBox (w : World) (g : Nat) (e : EntD) : Prop := w.heap[g]? = some (.cells e.cells 45 (0, 0))
theorem EBox.later {w w' : World} {g : Nat} {e : EntD} (h : EBox w g e) (hb : Below w.heap.size w w') : EBox w' g e := by
  unfold EBox at *
  rw [hb.block g (Array.getElem?_eq_some_iff.1 h).1]; exact h
theorem EBox.keep {w w' : World} {B g : Nat} {e : EntD} (h : EBox w g e) (hb : Below B w w') (hg : g < B) : EBox w' g e := by
  unfold EBox at *
  rw [hb.block g hg]; exact h
theorem EBox.new (w : World) (e : EntD) : EBox (w.alloc (.cells e.cells 45)) w.heap.size e := by
  show (w.heap.push _)[w.heap.size]? = some _
  simp
theorem EBox.vr {w : World} {g : Nat} {e : EntD} (h : EBox w g e) : w.cell? ⟨g, 0, none⟩ = some e.vr := by unfold EBox EntD.cells at h; simp [World.cell?, h]
theorem EBox.fam {w : World} {g : Nat} {e : EntD} (h : EBox w g e) : w.cell? ⟨g, 1, none⟩ = some (.int .i64 e.fam) := by unfold EBox EntD.cells at h; simp [World.cell?, h]
theorem EBox.vq {w : World} {g : Nat} {e : EntD} (h : EBox w g e) : w.cell? ⟨g, 2, none⟩ = some e.vq := by unfold EBox EntD.cells at h; simp [World.cell?, h]
theorem EBox.ts {w : World} {g : Nat} {e : EntD} (h : EBox w g e) : w.cell? ⟨g, 3, none⟩ = some (.int .i64 e.ts) := by unfold EBox EntD.cells at h; simp [World.cell?, h]
theorem EBox.seq {w : World} {g : Nat} {e : EntD} (h : EBox w g e) : w.cell? ⟨g, 4, none⟩ = some (.int .i64 e.seq) := by unfold EBox EntD.cells at h; simp [World.cell?, h]
theorem EBox.kind {w : World} {g : Nat} {e : EntD} (h : EBox w g e) : w.cell? ⟨g, 5, none⟩ = some (.int .i64 e.kind) := by unfold EBox EntD.cells at h; simp [World.cell?, h]
theorem EBox.vv {w : World} {g : Nat} {e : EntD} (h : EBox w g e) : w.cell? ⟨g, 6, none⟩ = some e.vv := by unfold EBox EntD.cells at h; simp [World.cell?, h]

def mark (k a : Int) : Nat := if k = a then 0 else 1
def keyL (e : EntD) : List Nat :=
  ((((ordL e.row ++ [e.fam.toNat, mark e.kind 5]) ++ (if e.kind = 5 then [] else ordL e.qual ++ [mark e.kind 4])) ++ be8 (9223372036854775807 - e.ts.toNat)) ++ be8 (9223372036854775807 - e.seq.toNat)) ++ [e.kind.toNat]

theorem check_facts {e : EntD} (h : checkS e = 0) : (1 ≤ e.row.length ∧ e.row.length ≤ 256) ∧ (0 ≤ e.fam ∧ e.fam < 8) ∧ e.qual.length ≤ 256 ∧ (e.kind = 5 → e.qual = []) ∧ (1 ≤ e.ts ∧ e.ts ≤ 1099511627776) ∧ (0 ≤ e.seq ∧ e.seq ≤ 17592186044431) ∧ (1 ≤ e.kind ∧ e.kind ≤ 5) ∧ e.val.length ≤ 4096 ∧ (e.kind ≠ 1 → e.val = []) := by
  unfold checkS at h
  split at h
  · cases h
  split at h
  · cases h
  split at h
  · cases h
  split at h
  · cases h
  split at h
  · cases h
  split at h
  · cases h
  split at h
  · cases h
  refine ⟨by omega, by omega, by omega, fun hk => List.eq_nil_of_length_eq_zero (by omega), by omega, by omega, by omega, by omega, fun hk => List.eq_nil_of_length_eq_zero (by omega)⟩

theorem append2 {w W : World} {o : Oper} {a : Act} {K : Act → World → Prop} {Q : Exit → Act → World → Prop} (s x : Operand)
    (ho : o.op = .call { callee := .builtin .append, args := #[s, x], argTypes := #[43, 43] })
    (B : Nat) (a0 : Option Addr) (m0 c0 : Nat) (acc : List Nat) (hs : a.eval s = .slice a0 m0 c0) (hown : Own w B (.slice a0 m0 c0) m0 acc)
    (vs : List Value) (m g : Nat) (hg : g = w.heap.size) (hx : a.eval x = .slice (some ⟨g, 0, none⟩) m m) (bs : List Nat) (hvs : vs = bv bs) (hm : m = bs.length)
    (hbytes : m0 + m ≤ 140737488355328) (hB : B ≤ w.heap.size) (hW : W = w.alloc (.cells vs.toArray 5))
    (h : ∀ a' m' c' w', Own w' B (.slice a' m' c') m' (acc ++ bs) → Below B w w' → K (a.put o.dst (.slice a' m' c')) w') : o.wp Try.prog a W K Q := by
  obtain ⟨i0, hi, hz0, hz1, hz2⟩ := info_parts info_byte
  subst hW hvs hg
  refine wp_append_own _ s x 43 ho B 5 i0 (.int .u8 0) 1 1 und_bytes hi hz0 hz1 hz2 rfl (by decide) _ m0 (bv acc) hs (hown.2.alloc _) ⟨w.heap.size, 0, none⟩ m m (bv bs) hx (by simp [bv, hm]) (news_new _ _ _) (bv_oneCell bs) (by unfold maxLen; omega) (by omega) (by simp; omega) ?_
  intro v' w' h1 h2 _
  obtain ⟨a', c', rfl⟩ := own_form h1
  refine h a' _ c' w' ⟨by rw [hown.1, hm]; simp, by simpa [bv] using h1⟩ (((Below.refl B w).alloc hB _).grown h2 (by simp; omega) (fun k hk => (hown.2.lt k hk).1))

end Go.Proofs.Ythhkpkfpifllkaa

namespace Go.Proofs.Ythhkpkfpifllkaa
open Go.RowKit
set_option linter.unusedVariables false

def ordC : List Nat → List Nat → Int
  | [], [] => 0
  | [], _ :: _ => -1
  | _ :: _, [] => 1
  | x :: a, y :: b => if x < y then -1 else if y < x then 1 else ordC a b
theorem ordC_self (a : List Nat) : ordC a a = 0 := by
  induction a with
  | nil => rfl
  | cons x a ih => simp [ordC, ih]
theorem ordC_eq : ∀ (a b : List Nat), ordC a b = 0 → a = b
  | [], [], _ => rfl
  | [], y :: b, h => by simp [ordC] at h
  | x :: a, [], h => by simp [ordC] at h
  | x :: a, y :: b, h => by
    simp only [ordC] at h
    split at h
    · simp at h
    · split at h
      · simp at h
      · rename_i h1 h2
        have : x = y := by omega
        rw [this, ordC_eq a b h]
theorem ordC_range (a b : List Nat) : ordC a b = -1 ∨ ordC a b = 0 ∨ ordC a b = 1 := by
  induction a generalizing b with
  | nil => cases b <;> simp [ordC]
  | cons x a ih =>
    cases b with
    | nil => simp [ordC]
    | cons y b =>
      simp only [ordC]
      split
      · simp
      · split
        · simp
        · exact ih b
theorem ordC_esc : ∀ (a b x y : List Nat), ordC a b ≠ 0 → ordC (escL a ++ 0 :: 1 :: x) (escL b ++ 0 :: 1 :: y) = ordC a b := by
  intro a
  induction a with
  | nil =>
    intro b x y h
    cases b with
    | nil => simp [ordC] at h
    | cons d b =>
      by_cases hd : d = 0
      · subst hd; simp [escL, ordC]
      · have : 0 < d := by omega
        simp [escL, ordC, hd, this]
  | cons c a ih =>
    intro b x y h
    cases b with
    | nil =>
      by_cases hc : c = 0
      · subst hc; simp [escL, ordC]
      · have : 0 < c := by omega
        simp [escL, ordC, hc, this]
    | cons d b =>
      simp only [ordC] at h ⊢
      by_cases hcd : c < d
      · have hd : d ≠ 0 := by omega
        by_cases hc : c = 0
        · subst hc
          simp [escL, ordC, hd, hcd]
        · simp [escL, ordC, hc, hd, hcd]
      · by_cases hdc : d < c
        · have hc : c ≠ 0 := by omega
          by_cases hd : d = 0
          · subst hd
            simp [escL, ordC, hc, hdc]
          · simp [escL, ordC, hc, hd, hdc, hcd]
        · have : c = d := by omega
          subst this
          simp only [Nat.lt_irrefl, if_false] at h ⊢
          have := ih b x y h
          by_cases hc : c = 0
          · subst hc
            simpa [escL, ordC] using this
          · simpa [escL, ordC, hc] using this
theorem ordC_ordL (a b x y : List Nat) (h : ordC a b ≠ 0) : ordC (ordL a ++ x) (ordL b ++ y) = ordC a b := by
  have := ordC_esc a b x y h
  simpa [ordL] using this
theorem ordC_ordL0 (a b : List Nat) : ordC (ordL a) (ordL b) = ordC a b := by
  by_cases h : ordC a b = 0
  · rw [ordC_eq a b h, ordC_self, ordC_self]
  · have := ordC_ordL a b [] [] h
    simpa using this
theorem ordL_free (a b : List Nat) (h : ordC a b ≠ 0) : ¬ ((ordL a).length ≤ (ordL b).length ∧ ordL a = (ordL b).take (ordL a).length) := by
  rintro ⟨_, h2⟩
  have e : ordL b = ordL a ++ (ordL b).drop (ordL a).length := by
    conv => lhs; rw [← List.take_append_drop (ordL a).length (ordL b)]
    rw [← h2]
  have := ordC_ordL a b ((ordL b).drop (ordL a).length) [] h
  rw [List.append_nil, ← e, ordC_self] at this
  exact h this.symm
theorem ordC_swap (a b : List Nat) : ordC b a = -ordC a b := by
  induction a generalizing b with
  | nil => cases b <;> simp [ordC]
  | cons x a ih =>
    cases b with
    | nil => simp [ordC]
    | cons y b =>
      simp only [ordC]
      by_cases h1 : x < y
      · simp [h1, show ¬ y < x by omega]
      · by_cases h2 : y < x
        · simp [h1, h2]
        · simp [h1, h2, ih b]
def val : List Nat → Nat
  | [] => 0
  | c :: r => c * 256 ^ r.length + val r
theorem val_lt (l : List Nat) (h : Bys l) : val l < 256 ^ l.length := by
  induction l with
  | nil => simp [val]
  | cons c r ih =>
    have h1 := ih (fun x hx => h x (by simp [hx]))
    have hc := h c (by simp)
    simp only [val, List.length_cons, Nat.pow_succ]
    have := Nat.mul_le_mul_right (256 ^ r.length) (show c ≤ 255 by omega)
    omega
theorem ordC_val : ∀ (a b : List Nat), a.length = b.length → Bys a → Bys b → ordC a b = if val a < val b then -1 else if val b < val a then 1 else 0
  | [], [], _, _, _ => by simp [ordC, val]
  | x :: a, y :: b, hl, ha, hb => by
    have hl' : a.length = b.length := by simpa using hl
    have ha' : Bys a := fun z hz => ha z (by simp [hz])
    have hb' : Bys b := fun z hz => hb z (by simp [hz])
    have la := val_lt a ha'
    have lb := val_lt b hb'
    have va : val (x :: a) = x * 256 ^ b.length + val a := by simp only [val]; rw [hl']
    have vb : val (y :: b) = y * 256 ^ b.length + val b := rfl
    rw [va, vb]
    simp only [ordC]
    rw [hl'] at la
    by_cases h1 : x < y
    · have := Nat.mul_le_mul_right (256 ^ b.length) (show x + 1 ≤ y by omega)
      rw [Nat.add_mul, Nat.one_mul] at this
      rw [if_pos h1, if_pos (by omega)]
    · by_cases h2 : y < x
      · have := Nat.mul_le_mul_right (256 ^ b.length) (show y + 1 ≤ x by omega)
        rw [Nat.add_mul, Nat.one_mul] at this
        rw [if_neg h1, if_pos h2, if_neg (by omega), if_pos (by omega)]
      · have hxy : x = y := by omega
        subst hxy
        rw [if_neg h1, if_neg h1, ordC_val a b hl' ha' hb']
        simp only [Nat.add_lt_add_iff_left]
theorem val_be8 (n : Nat) (h : n < 9223372036854775808) : val (be8 n) = n := by
  simp [val, be8]
  omega
def cmpN (m n : Nat) : Int := if m < n then -1 else if n < m then 1 else 0
theorem ordC_be8 (m n : Nat) (hm : m < 9223372036854775808) (hn : n < 9223372036854775808) : ordC (be8 m) (be8 n) = cmpN m n := by
  rw [ordC_val (be8 m) (be8 n) rfl (be8_bys m) (be8_bys n), val_be8 m hm, val_be8 n hn]
  rfl
theorem drop_cons (l : List Nat) (t : Nat) (h : t < l.length) : l.drop t = l.getD t 0 :: l.drop (t + 1) := by
  rw [List.drop_eq_getElem_cons h]; simp [List.getD, List.getElem?_eq_getElem h]

end Go.Proofs.Ythhkpkfpifllkaa

namespace Go.Proofs.Ythhkpkfpifllkaa
open Go.RowKit
set_option linter.unusedVariables false

theorem bytesOf_rd {w : World} {v : Value} {bs : List Nat} (h : Rd w v bs) : (Extern.Bytes.bytesOf v).run Try.prog w = .ok ⟨(Lib.bytesOf (bs.map fun n : Nat => (n : Int))).toArray⟩ w := by
  obtain ⟨hby, a, cap, rfl, hle, hm, hl48, hnone, hat⟩ := h
  cases a with
  | none =>
    have hb0 : bs = [] := by
      rcases hnone with h | ⟨b, off, h⟩
      · exact List.eq_nil_of_length_eq_zero (by omega)
      · cases h
    subst hb0
    rfl
  | some x =>
    have hi := ints_at hat
    have := Lib.run_loadBytesX (P := Try.prog) w (bs.map fun n : Nat => (n : Int)) x .empty (fun j y hj => by
      have hjl : j < bs.length := by
        have := (List.getElem?_eq_some_iff.1 hj).1
        simpa using this
      rw [hi j hjl]
      simp [List.getD, hj])
    simp only [List.length_map] at this
    show (Extern.Bytes.loadBytes x bs.length .empty).run Try.prog w = _
    rw [this]
    simp
theorem compare_ordC : ∀ (xs ys : List Nat), Bys xs → Bys ys → Lib.compareBytes (Lib.bytesOf (xs.map fun n : Nat => (n : Int))) (Lib.bytesOf (ys.map fun n : Nat => (n : Int))) = ordC xs ys
  | [], [], _, _ => rfl
  | [], _ :: _, _, _ => rfl
  | _ :: _, [], _, _ => rfl
  | a :: r1, b :: r2, ha, hb => by
    have ih := compare_ordC r1 r2 (fun x hx => ha x (by simp [hx])) (fun x hx => hb x (by simp [hx]))
    have h1 := ha a (by simp)
    have h2 := hb b (by simp)
    have e1 : ∀ c : Nat, c < 256 → ∀ d : Nat, d < 256 → ((c : Int).toNat.toUInt8 < (d : Int).toNat.toUInt8 ↔ c < d) := by
      intro c hc d hd
      simp [UInt8.lt_iff_toNat_lt, Nat.toUInt8, Nat.mod_eq_of_lt hc, Nat.mod_eq_of_lt hd]
    show (if (a : Int).toNat.toUInt8 < (b : Int).toNat.toUInt8 then -1 else if (b : Int).toNat.toUInt8 < (a : Int).toNat.toUInt8 then 1 else Lib.compareBytes (Lib.bytesOf (r1.map fun n : Nat => (n : Int))) (Lib.bytesOf (r2.map fun n : Nat => (n : Int)))) = ordC (a :: r1) (b :: r2)
    rw [ih]
    simp only [e1 a h1 b h2, e1 b h2 a h1]
    rfl

set_option maxRecDepth 100000 in
set_option maxHeartbeats 1000000 in
theorem bytesCompare_any {va vb : Value} {xs ys : List Nat} {w : World} (ha : Rd w va xs) (hb : Rd w vb ys) :
    Calls Try.prog 72 #[va, vb] w fun e w' => e = .returned (.int .i64 (ordC xs ys)) ∧ w' = w := by
  have h1 := bytesOf_rd ha
  have h2 := bytesOf_rd hb
  have hcmp : (Extern.BytealgCompare.compare #[va, vb]).run Try.prog w = .ok (.int .i64 (ordC xs ys)) w := by
    change Sem.run Try.prog (do pure (goInt (Extern.BytealgCompare.cmp (← Extern.Bytes.bytesOf va) (← Extern.Bytes.bytesOf vb)))) w = _
    simp only [Sem.run_bind, h1, h2, Sem.run_pure, Result.andThen]
    rw [Lib.cmp_eq, ← compare_ordC xs ys ha.1 hb.1]
    rfl
  have HCMP : Hid ((Extern.BytealgCompare.compare #[va, vb]).run Try.prog w = .ok (.int .i64 (ordC xs ys)) w) := hcmp
  clear h1 h2 hcmp
  go_enter Try.func72, Try.ntmps72
  go_wp2
  rw [run_callFunc_extern Try.func88 (by kernel_rfl) (by kernel_rfl) (by kernel_rfl) (e := Extern.BytealgCompare.compare) (by kernel_rfl), HCMP.out]
  simp only [Result.andThen]
  rw [Oper.upon_value]
  go_wp2
  go_ret
  exact ⟨rfl, rfl⟩

def cmpI (a b : Int) : Int := if a < b then -1 else if b < a then 1 else 0
theorem isNaN_int (a : Int) (w : World) : Calls Try.prog 89 #[.int .i64 a] w fun e w' => e = .returned (.bool false) ∧ w' = w := by
  go_enter Try.func89, Try.ntmps89
  go_wp2
  go_ret
  exact ⟨by simp, rfl⟩
theorem isNaN_byte (a : Int) (w : World) : Calls Try.prog 95 #[.int .u8 a] w fun e w' => e = .returned (.bool false) ∧ w' = w := by
  go_enter Try.func95, Try.ntmps95
  go_wp2
  go_ret
  exact ⟨by simp, rfl⟩
set_option maxHeartbeats 1000000 in
theorem cmpInt_any (a b : Int) (w : World) : Calls Try.prog 74 #[.int .i64 a, .int .i64 b] w fun e w' => e = .returned (.int .i64 (cmpI a b)) ∧ w' = w := by
  by_cases h1 : a < b
  · have HE : Hid (cmpI a b = -1) := by unfold Hid cmpI; rw [if_pos h1]
    go_enter Try.func74, Try.ntmps74
    go_wp2_with (go_at_call 89; refine (isNaN_int _ _).mono ?_; rintro e1 w1 ⟨rfl, rfl⟩)
    go_ret
    exact ⟨by rw [HE.out]; rfl, rfl⟩
  · by_cases h2 : b < a
    · have HE : Hid (cmpI a b = 1) := by unfold Hid cmpI; rw [if_neg h1, if_pos h2]
      have h3 : b ≤ a := by omega
      clear h1
      go_enter Try.func74, Try.ntmps74
      go_wp2_with (go_at_call 89; refine (isNaN_int _ _).mono ?_; rintro e1 w1 ⟨rfl, rfl⟩)
      go_ret
      exact ⟨by rw [HE.out]; rfl, rfl⟩
    · have HE : Hid (cmpI a b = 0) := by unfold Hid cmpI; rw [if_neg h1, if_neg h2]
      obtain rfl : a = b := by omega
      clear h1 h2
      go_enter Try.func74, Try.ntmps74
      go_wp2_with (go_at_call 89; refine (isNaN_int _ _).mono ?_; rintro e1 w1 ⟨rfl, rfl⟩)
      go_ret
      exact ⟨by rw [HE.out]; rfl, rfl⟩
set_option maxHeartbeats 1000000 in
theorem cmpByte_any (a b : Int) (w : World) : Calls Try.prog 90 #[.int .u8 a, .int .u8 b] w fun e w' => e = .returned (.int .i64 (cmpI a b)) ∧ w' = w := by
  by_cases h1 : a < b
  · have HE : Hid (cmpI a b = -1) := by unfold Hid cmpI; rw [if_pos h1]
    go_enter Try.func90, Try.ntmps90
    go_wp2_with (go_at_call 95; refine (isNaN_byte _ _).mono ?_; rintro e1 w1 ⟨rfl, rfl⟩)
    go_ret
    exact ⟨by rw [HE.out]; rfl, rfl⟩
  · by_cases h2 : b < a
    · have HE : Hid (cmpI a b = 1) := by unfold Hid cmpI; rw [if_neg h1, if_pos h2]
      have h3 : b ≤ a := by omega
      clear h1
      go_enter Try.func90, Try.ntmps90
      go_wp2_with (go_at_call 95; refine (isNaN_byte _ _).mono ?_; rintro e1 w1 ⟨rfl, rfl⟩)
      go_ret
      exact ⟨by rw [HE.out]; rfl, rfl⟩
    · have HE : Hid (cmpI a b = 0) := by unfold Hid cmpI; rw [if_neg h1, if_neg h2]
      obtain rfl : a = b := by omega
      clear h1 h2
      go_enter Try.func90, Try.ntmps90
      go_wp2_with (go_at_call 95; refine (isNaN_byte _ _).mono ?_; rintro e1 w1 ⟨rfl, rfl⟩)
      go_ret
      exact ⟨by rw [HE.out]; rfl, rfl⟩

end Go.Proofs.Ythhkpkfpifllkaa

namespace Go.Proofs.Ythhkpkfpifllkaa
open Go.RowKit
set_option linter.unusedVariables false

def aheadS (a b : EntD) (k : Int) : Int := cmpI ((mark a.kind k : Nat) : Int) ((mark b.kind k : Nat) : Int)
theorem markOf_m (k a : Int) (w : World) : Calls Try.prog 91 #[.int .i64 k, .int .i64 a] w fun e w' => e = .returned (.int .u8 ((mark k a : Nat) : Int)) ∧ w' = w := markOf_any k a w

set_option maxRecDepth 100000 in
set_option maxHeartbeats 2000000 in
theorem aheadIf_any {a b : EntD} (k : Int) {w : World} :
    Calls Try.prog 76 #[.agg a.cells, .agg b.cells, .int .i64 k] w fun r w' => r = .returned (.int .i64 (aheadS a b k)) ∧ Below w.heap.size w w' := by
  obtain ⟨S, hS⟩ : ∃ S, S = aheadS a b k := ⟨_, rfl⟩
  rw [← hS]
  have HS : Hid (cmpI ((mark a.kind k : Nat) : Int) ((mark b.kind k : Nat) : Int) = S) := by unfold Hid; rw [hS]; rfl
  clear hS
  obtain ⟨M1, hM1⟩ : ∃ M, M = mark a.kind k := ⟨_, rfl⟩
  obtain ⟨M2, hM2⟩ : ∃ M, M = mark b.kind k := ⟨_, rfl⟩
  have q1 := fun w => markOf_m a.kind k w
  have q2 := fun w => markOf_m b.kind k w
  have q3 := fun w => cmpByte_any (M1 : Int) (M2 : Int) w
  rw [← hM1] at q1
  rw [← hM2] at q2
  have HS2 : cmpI (M1 : Int) (M2 : Int) = S := by rw [hM1, hM2]; exact HS.out
  rw [HS2] at q3
  have HQ1 : Hid (∀ w, Calls Try.prog 91 #[.int .i64 a.kind, .int .i64 k] w fun e w' => e = .returned (.int .u8 ((M1 : Nat) : Int)) ∧ w' = w) := q1
  have HQ2 : Hid (∀ w, Calls Try.prog 91 #[.int .i64 b.kind, .int .i64 k] w fun e w' => e = .returned (.int .u8 ((M2 : Nat) : Int)) ∧ w' = w) := q2
  have HQ3 : Hid (∀ w, Calls Try.prog 90 #[.int .u8 (M1 : Int), .int .u8 (M2 : Int)] w fun e w' => e = .returned (.int .i64 S) ∧ w' = w) := q3
  clear q1 q2 q3 hM1 hM2 HS HS2
  have A1 := (Below.refl w.heap.size w).alloc (Nat.le_refl _) (.cells a.cells 45)
  have A2 := A1.alloc A1.size (.cells b.cells 45)
  have bxa : Hid (EBox ((w.alloc (.cells a.cells 45)).alloc (.cells b.cells 45)) w.heap.size a) := (EBox.new w a).later ((Below.refl _ _).alloc (Nat.le_refl _) _)
  have bxb : Hid (EBox ((w.alloc (.cells a.cells 45)).alloc (.cells b.cells 45)) (w.heap.size + 1) b) := by
    have := EBox.new (w.alloc (.cells a.cells 45)) b
    rwa [World.size_alloc] at this
  have A2D : Below w.heap.size w ((w.alloc (.cells a.cells 45)).alloc (.cells b.cells 45)).drew := A2.drew
  have ya : ((w.alloc (.cells a.cells 45)).alloc (.cells b.cells 45)).drew.cell? ⟨w.heap.size, 5, none⟩ = some (.int .i64 a.kind) := bxa.out.kind
  have yb : ((w.alloc (.cells a.cells 45)).alloc (.cells b.cells 45)).drew.cell? ⟨w.heap.size + 1, 5, none⟩ = some (.int .i64 b.kind) := bxb.out.kind
  clear A1 bxa bxb
  obtain ⟨vr, fam, vq, ts, seq, ka, vv, row, qual, val⟩ := a
  obtain ⟨vr2, fam2, vq2, ts2, seq2, kb, vv2, row2, qual2, val2⟩ := b
  simp only [EntD.cells] at *
  go_enter Try.func76, Try.ntmps76
  go_wp2_with fail
  go_region_held3 (fun wx => wx.cell? ⟨w.heap.size, 5, none⟩ = some (.int .i64 ka) ∧ wx.cell? ⟨w.heap.size + 1, 5, none⟩ = some (.int .i64 kb) ∧ Below w.heap.size w wx) (first | exact ⟨ya, yb, A2D⟩) (first | (go_at_call 91; refine (HQ1.out _).mono ?_; rintro e1 wm ⟨rfl, rfl⟩) | (go_at_call 91; refine (HQ2.out _).mono ?_; rintro e1 wm ⟨rfl, rfl⟩) | (go_at_call 90; refine (HQ3.out _).mono ?_; rintro e1 wm ⟨rfl, rfl⟩))
  all_goals (go_wp2; go_ret; exact ⟨rfl, A2D⟩)

set_option maxRecDepth 100000 in
set_option maxHeartbeats 1000000 in
theorem ord1_any {a b : EntD} {w : World} (ha : EntD.Ok w a) (hb : EntD.Ok w b) :
    Calls Try.prog 71 #[.agg a.cells, .agg b.cells] w fun r w' => r = .returned (.int .i64 (ordC a.row b.row)) ∧ Below w.heap.size w w' := by
  have A1 := (Below.refl w.heap.size w).alloc (Nat.le_refl _) (.cells a.cells 45)
  have A2 := A1.alloc A1.size (.cells b.cells 45)
  have oa := ha.later A2
  have ob := hb.later A2
  clear A1 ha hb
  obtain ⟨vr, fam, vq, ts, seq, ka, vv, row, qual, val⟩ := a
  obtain ⟨vr2, fam2, vq2, ts2, seq2, kb, vv2, row2, qual2, val2⟩ := b
  obtain ⟨r1, q1, v1⟩ := oa
  obtain ⟨r2, q2, v2⟩ := ob
  simp only [EntD.cells] at *
  go_enter Try.func71, Try.ntmps71
  go_wp2_with fail
  refine (bytesCompare_any r1 r2).mono ?_
  rintro e1 w1 ⟨rfl, rfl⟩
  go_wp2
  go_ret
  exact ⟨rfl, A2⟩

set_option maxRecDepth 100000 in
set_option maxHeartbeats 1000000 in
theorem ord2_any {a b : EntD} {w : World} (ha : EntD.Ok w a) (hb : EntD.Ok w b) :
    Calls Try.prog 73 #[.agg a.cells, .agg b.cells] w fun r w' => r = .returned (.int .i64 (cmpI a.fam b.fam)) ∧ Below w.heap.size w w' := by
  have A1 := (Below.refl w.heap.size w).alloc (Nat.le_refl _) (.cells a.cells 45)
  have A2 := A1.alloc A1.size (.cells b.cells 45)
  have oa := ha.later A2
  have ob := hb.later A2
  clear A1 ha hb
  obtain ⟨vr, fam, vq, ts, seq, ka, vv, row, qual, val⟩ := a
  obtain ⟨vr2, fam2, vq2, ts2, seq2, kb, vv2, row2, qual2, val2⟩ := b
  obtain ⟨r1, q1, v1⟩ := oa
  obtain ⟨r2, q2, v2⟩ := ob
  simp only [EntD.cells] at *
  go_enter Try.func73, Try.ntmps73
  go_wp2_with fail
  refine (cmpInt_any _ _ _).mono ?_
  rintro e1 w1 ⟨rfl, rfl⟩
  go_wp2
  go_ret
  exact ⟨rfl, A2⟩

set_option maxRecDepth 100000 in
set_option maxHeartbeats 1000000 in
theorem ord3_any {a b : EntD} {w : World} (ha : EntD.Ok w a) (hb : EntD.Ok w b) :
    Calls Try.prog 75 #[.agg a.cells, .agg b.cells] w fun r w' => r = .returned (.int .i64 (aheadS a b 5)) ∧ Below w.heap.size w w' := by
  have A1 := (Below.refl w.heap.size w).alloc (Nat.le_refl _) (.cells a.cells 45)
  have A2 := A1.alloc A1.size (.cells b.cells 45)
  have oa := ha.later A2
  have ob := hb.later A2
  clear A1 ha hb
  have c1 := aheadIf_any (a := a) (b := b) 5 (w := (w.alloc (.cells a.cells 45)).alloc (.cells b.cells 45))
  obtain ⟨S, hS⟩ : ∃ S, S = aheadS a b 5 := ⟨_, rfl⟩
  rw [← hS] at c1 ⊢
  have HC : Hid (Calls Try.prog 76 #[.agg a.cells, .agg b.cells, .int .i64 5] ((w.alloc (.cells a.cells 45)).alloc (.cells b.cells 45)) fun r w' => r = .returned (.int .i64 S) ∧ Below ((w.alloc (.cells a.cells 45)).alloc (.cells b.cells 45)).heap.size ((w.alloc (.cells a.cells 45)).alloc (.cells b.cells 45)) w') := c1
  clear c1 hS
  obtain ⟨vr, fam, vq, ts, seq, ka, vv, row, qual, val⟩ := a
  obtain ⟨vr2, fam2, vq2, ts2, seq2, kb, vv2, row2, qual2, val2⟩ := b
  obtain ⟨r1, q1, v1⟩ := oa
  obtain ⟨r2, q2, v2⟩ := ob
  simp only [EntD.cells] at *
  go_enter Try.func75, Try.ntmps75
  go_wp2_with fail
  refine HC.out.mono ?_
  rintro e1 w1 ⟨rfl, hb1⟩
  have B1 := A2.trans (hb1.mono A2.size)
  go_wp2
  go_ret
  exact ⟨rfl, B1⟩

set_option maxRecDepth 100000 in
set_option maxHeartbeats 1000000 in
theorem ord4_any {a b : EntD} {w : World} (ha : EntD.Ok w a) (hb : EntD.Ok w b) :
    Calls Try.prog 77 #[.agg a.cells, .agg b.cells] w fun r w' => r = .returned (.int .i64 (ordC a.qual b.qual)) ∧ Below w.heap.size w w' := by
  have A1 := (Below.refl w.heap.size w).alloc (Nat.le_refl _) (.cells a.cells 45)
  have A2 := A1.alloc A1.size (.cells b.cells 45)
  have oa := ha.later A2
  have ob := hb.later A2
  clear A1 ha hb
  obtain ⟨vr, fam, vq, ts, seq, ka, vv, row, qual, val⟩ := a
  obtain ⟨vr2, fam2, vq2, ts2, seq2, kb, vv2, row2, qual2, val2⟩ := b
  obtain ⟨r1, q1, v1⟩ := oa
  obtain ⟨r2, q2, v2⟩ := ob
  simp only [EntD.cells] at *
  go_enter Try.func77, Try.ntmps77
  go_wp2_with fail
  refine (bytesCompare_any q1 q2).mono ?_
  rintro e1 w1 ⟨rfl, rfl⟩
  go_wp2
  go_ret
  exact ⟨rfl, A2⟩

set_option maxRecDepth 100000 in
set_option maxHeartbeats 1000000 in
theorem ord5_any {a b : EntD} {w : World} (ha : EntD.Ok w a) (hb : EntD.Ok w b) :
    Calls Try.prog 78 #[.agg a.cells, .agg b.cells] w fun r w' => r = .returned (.int .i64 (aheadS a b 4)) ∧ Below w.heap.size w w' := by
  have A1 := (Below.refl w.heap.size w).alloc (Nat.le_refl _) (.cells a.cells 45)
  have A2 := A1.alloc A1.size (.cells b.cells 45)
  have oa := ha.later A2
  have ob := hb.later A2
  clear A1 ha hb
  have c1 := aheadIf_any (a := a) (b := b) 4 (w := (w.alloc (.cells a.cells 45)).alloc (.cells b.cells 45))
  obtain ⟨S, hS⟩ : ∃ S, S = aheadS a b 4 := ⟨_, rfl⟩
  rw [← hS] at c1 ⊢
  have HC : Hid (Calls Try.prog 76 #[.agg a.cells, .agg b.cells, .int .i64 4] ((w.alloc (.cells a.cells 45)).alloc (.cells b.cells 45)) fun r w' => r = .returned (.int .i64 S) ∧ Below ((w.alloc (.cells a.cells 45)).alloc (.cells b.cells 45)).heap.size ((w.alloc (.cells a.cells 45)).alloc (.cells b.cells 45)) w') := c1
  clear c1 hS
  obtain ⟨vr, fam, vq, ts, seq, ka, vv, row, qual, val⟩ := a
  obtain ⟨vr2, fam2, vq2, ts2, seq2, kb, vv2, row2, qual2, val2⟩ := b
  obtain ⟨r1, q1, v1⟩ := oa
  obtain ⟨r2, q2, v2⟩ := ob
  simp only [EntD.cells] at *
  go_enter Try.func78, Try.ntmps78
  go_wp2_with fail
  refine HC.out.mono ?_
  rintro e1 w1 ⟨rfl, hb1⟩
  have B1 := A2.trans (hb1.mono A2.size)
  go_wp2
  go_ret
  exact ⟨rfl, B1⟩

set_option maxRecDepth 100000 in
set_option maxHeartbeats 1000000 in
theorem ord6_any {a b : EntD} {w : World} (ha : EntD.Ok w a) (hb : EntD.Ok w b) :
    Calls Try.prog 79 #[.agg a.cells, .agg b.cells] w fun r w' => r = .returned (.int .i64 (cmpI b.ts a.ts)) ∧ Below w.heap.size w w' := by
  have A1 := (Below.refl w.heap.size w).alloc (Nat.le_refl _) (.cells a.cells 45)
  have A2 := A1.alloc A1.size (.cells b.cells 45)
  have oa := ha.later A2
  have ob := hb.later A2
  clear A1 ha hb
  obtain ⟨vr, fam, vq, ts, seq, ka, vv, row, qual, val⟩ := a
  obtain ⟨vr2, fam2, vq2, ts2, seq2, kb, vv2, row2, qual2, val2⟩ := b
  obtain ⟨r1, q1, v1⟩ := oa
  obtain ⟨r2, q2, v2⟩ := ob
  simp only [EntD.cells] at *
  go_enter Try.func79, Try.ntmps79
  go_wp2_with fail
  refine (cmpInt_any _ _ _).mono ?_
  rintro e1 w1 ⟨rfl, rfl⟩
  go_wp2
  go_ret
  exact ⟨rfl, A2⟩

set_option maxRecDepth 100000 in
set_option maxHeartbeats 1000000 in
theorem ord7_any {a b : EntD} {w : World} (ha : EntD.Ok w a) (hb : EntD.Ok w b) :
    Calls Try.prog 80 #[.agg a.cells, .agg b.cells] w fun r w' => r = .returned (.int .i64 (cmpI b.seq a.seq)) ∧ Below w.heap.size w w' := by
  have A1 := (Below.refl w.heap.size w).alloc (Nat.le_refl _) (.cells a.cells 45)
  have A2 := A1.alloc A1.size (.cells b.cells 45)
  have oa := ha.later A2
  have ob := hb.later A2
  clear A1 ha hb
  obtain ⟨vr, fam, vq, ts, seq, ka, vv, row, qual, val⟩ := a
  obtain ⟨vr2, fam2, vq2, ts2, seq2, kb, vv2, row2, qual2, val2⟩ := b
  obtain ⟨r1, q1, v1⟩ := oa
  obtain ⟨r2, q2, v2⟩ := ob
  simp only [EntD.cells] at *
  go_enter Try.func80, Try.ntmps80
  go_wp2_with fail
  refine (cmpInt_any _ _ _).mono ?_
  rintro e1 w1 ⟨rfl, rfl⟩
  go_wp2
  go_ret
  exact ⟨rfl, A2⟩

set_option maxRecDepth 100000 in
set_option maxHeartbeats 1000000 in
theorem ord8_any {a b : EntD} {w : World} (ha : EntD.Ok w a) (hb : EntD.Ok w b) :
    Calls Try.prog 81 #[.agg a.cells, .agg b.cells] w fun r w' => r = .returned (.int .i64 (cmpI a.kind b.kind)) ∧ Below w.heap.size w w' := by
  have A1 := (Below.refl w.heap.size w).alloc (Nat.le_refl _) (.cells a.cells 45)
  have A2 := A1.alloc A1.size (.cells b.cells 45)
  have oa := ha.later A2
  have ob := hb.later A2
  clear A1 ha hb
  obtain ⟨vr, fam, vq, ts, seq, ka, vv, row, qual, val⟩ := a
  obtain ⟨vr2, fam2, vq2, ts2, seq2, kb, vv2, row2, qual2, val2⟩ := b
  obtain ⟨r1, q1, v1⟩ := oa
  obtain ⟨r2, q2, v2⟩ := ob
  simp only [EntD.cells] at *
  go_enter Try.func81, Try.ntmps81
  go_wp2_with fail
  refine (cmpInt_any _ _ _).mono ?_
  rintro e1 w1 ⟨rfl, rfl⟩
  go_wp2
  go_ret
  exact ⟨rfl, A2⟩

end Go.Proofs.Ythhkpkfpifllkaa
