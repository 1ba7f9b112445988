import Derived.Test.YtpabbnddeklpdaaGreatK23
namespace Go.Proofs.YtpabbnddeklpdaaGreat
open Go.RowKit Go.Shelf
set_option linter.unusedVariables false
set_option linter.unusedSimpArgs false

def PlS (w : World) (pB tB g : Nat) (X FO : Nat → Prop) (n : Nat) (z : Ending) (w' : World) : Prop :=
 z = .returned (.bool true) ∧ ∃ (f' : Bool) (X' FO' : Nat → Prop) (L' R' : List EntD) (lv' : Value), Gm w' pB tB g X' FO' L' R' lv' f' ∧ GoTo w w' pB tB X FO X' FO' ∧ L'.length ≤ n
theorem PlP.s {w V w' : World} {pB tB g n m : Nat} {X FO : Nat → Prop} {f : Bool} {z : Ending} (h : PlP V pB tB g X FO n f z w') (b : Below w.heap.size w V) (hm : n ≤ m) : PlS w pB tB g X FO m z w' := by
 obtain ⟨h1, X', FO', L', R', lv', h2, h3, h4⟩ := h
 exact ⟨h1, f, X', FO', L', R', lv', h2, (GoTo.below b).trans h3, Nat.le_trans h4 hm⟩
theorem PlP.s2 {w V w1 w' : World} {pB tB g n m : Nat} {X FO X' FO' : Nat → Prop} {f : Bool} {z : Ending} (h : PlP w1 pB tB g X' FO' n f z w') (k : GoTo V w1 pB tB X FO X' FO') (b : Below w.heap.size w V) (hm : n ≤ m) : PlS w pB tB g X FO m z w' := by
 obtain ⟨h1, X2, FO2, L', R', lv', h2, h3, h4⟩ := h
 exact ⟨h1, f, X2, FO2, L', R', lv', h2, (GoTo.below b).trans (k.trans h3), Nat.le_trans h4 hm⟩
theorem Gm.cold {w w1 : World} {pB tB g : Nat} {X FO : Nat → Prop} {L R : List EntD} {lv : Value} {f : Bool} (h : Gm w pB tB g X FO L R lv f) (a : Apart tB w w1) {p : Option Addr} {T : BT} (h2 : IsT X w p T) (h3 : T.ord = L) (tb : TBox w1 tB p (L.length : Int) ((pk L : Nat) : Int) true) :
  Gm (w1.setCell ⟨pB, 2, none⟩ (.bool true)) pB tB g X FO L R lv true ∧ GoTo w (w1.setCell ⟨pB, 2, none⟩ (.bool true)) pB tB X FO X FO := by
 have f1 : Fb w w1 (fun k => k = tB) := Fb.of_apart a rfl
 have fs : Fb w1 (w1.setCell ⟨pB, 2, none⟩ (.bool true)) (fun k => k = pB) := Fb.set1F (O := fun k => k = pB) (g := pB) rfl 2 _
 have ft : Fb w (w1.setCell ⟨pB, 2, none⟩ (.bool true)) (fun k => k = pB ∨ k = tB) := (f1.mono (fun i _ e => .inr e)).trans (fs.mono (fun i _ e => .inl e))
 have kX : KpC X w (w1.setCell ⟨pB, 2, none⟩ (.bool true)) := KpC.of_fb ft (fun k hk e => by
  rcases e with e | e
  ·exact h.pl.np (e ▸ hk)
  ·exact h.pl.tab.not (e ▸ hk))
 have kF : KpC FO w (w1.setCell ⟨pB, 2, none⟩ (.bool true)) := KpC.of_fb ft (fun k hk e => by
  rcases e with e | e
  ·exact h.ap k (.inl e) hk
  ·exact h.ap k (.inr (.inl e)) hk)
 have hbx : w1.heap[pB]? = some (.cells #[.pointer (some ⟨tB, 0, none⟩), lv, .bool f] 31 (0, 0)) := (f1.block pB h.pl.plt h.pl.pt).trans h.pl.box
 have hs := ft.size
 refine ⟨⟨⟨by simp [World.setCell, Array.getElem?_modify, hbx], ⟨h.pl.tab.not, h.pl.tab.srt, h.pl.tab.good, h.pl.tab.few, p, T, (fs.block tB tb.lt (fun e => h.pl.pt e.symm)).trans tb, h2.keptC kX, h3⟩, h.pl.ref.keptC kX, h.pl.sm, fun k hk => Nat.lt_of_lt_of_le (h.pl.lt k hk) hs, h.pl.np, h.pl.pt⟩, h.fu.keptC h.fc kF (fun _ h => h), fun k hk => (h.fc k hk).kept kF hk, h.ap⟩, ft.mono (fun i _ e => e.imp id .inl), fun k hk => .inl hk, fun k hk => .inl hk⟩
theorem Cap8.next {V w1 : World} {sB bP bF pB tB g n : Nat} {s : StepD} {SE X FO : Nat → Prop} {f : Bool} {z : Ending} (h : Cap8 V sB bP bF pB g s SE) (he : OkG SE V s.e) (hC : ∀ k, (k = sB ∨ k = bP ∨ k = bF ∨ SE k) → k < V.heap.size ∧ ¬ PlB pB tB X k ∧ ¬ FO k) (hp : PlP V pB tB g X FO n f z w1) :
  ∃ X' FO' L' R' lv', Gm w1 pB tB g X' FO' L' R' lv' f ∧ GoTo V w1 pB tB X FO X' FO' ∧ L'.length ≤ n ∧ Cap8 w1 sB bP bF pB g s SE ∧ OkG SE w1 s.e ∧ (∀ k, (k = sB ∨ k = bP ∨ k = bF ∨ SE k) → k < w1.heap.size ∧ ¬ PlB pB tB X' k ∧ ¬ FO' k) := by
 obtain ⟨-, X', FO', L', R', lv', gm, go, hl⟩ := hp
 have kc : KpC (fun k => k = sB ∨ k = bP ∨ k = bF ∨ SE k) V w1 := KpC.of_fb go.fb (fun k hk e => by
  have h3 := hC k hk
  rcases e with e | e | e
  ·exact h3.2.1 (.inl e)
  ·exact h3.2.1 (.inr (.inl e))
  ·exact h3.2.2 e)
 refine ⟨X', FO', L', R', lv', gm, go, hl, h.keptC kc, he.keptC (kc.mono (fun i hi => .inr (.inr (.inr hi)))), fun k hk => ?_⟩
 have h3 := hC k hk
 refine ⟨Nat.lt_of_lt_of_le h3.1 go.fb.size, fun e => ?_, fun e => ?_⟩
 ·rcases e with e | e | e
  ·exact h3.2.1 (.inl e)
  ·exact h3.2.1 (.inr (.inl e))
  ·rcases go.nx k e with q | q
   ·exact h3.2.1 (.inr (.inr q))
   ·omega
 ·rcases go.nf k e with q | q
  ·exact h3.2.2 q
  ·omega
theorem ps_start (w : World) (pB g : Nat) (s : StepD) : ∃ V, V = ((w.alloc (.cells #[.pointer (some ⟨pB, 0, none⟩)] 24)).alloc (.cells s.cells 40)).alloc (.cells #[.pointer (some ⟨g, 0, none⟩)] 32) ∧ Below w.heap.size w V ∧ V.heap.size = w.heap.size + 3 ∧ Bxd V w.heap.size 24 (.pointer (some ⟨pB, 0, none⟩)) ∧ SBox V (w.heap.size + 1) s ∧ Bxd V (w.heap.size + 2) 32 (.pointer (some ⟨g, 0, none⟩)) := by
 obtain ⟨V1, e1, b1, s1, x1⟩ := bxd_new w 24 (.pointer (some ⟨pB, 0, none⟩))
 have x2 : SBox (V1.alloc (.cells s.cells 40)) V1.heap.size s := World.alloc_heap_new V1 _
 have b2 := (Below.refl V1.heap.size V1).alloc (Nat.le_refl _) (.cells s.cells 40)
 have s2 : (V1.alloc (.cells s.cells 40)).heap.size = V1.heap.size + 1 := by simp
 obtain ⟨V2, e2⟩ : ∃ V2, V2 = V1.alloc (.cells s.cells 40) := ⟨_, rfl⟩
 rw [← e2] at x2 b2 s2
 obtain ⟨V3, e3, b3, s3, x3⟩ := bxd_new V2 32 (.pointer (some ⟨g, 0, none⟩))
 have h3 : V2.heap.size = w.heap.size + 2 := by omega
 rw [s1] at x2; rw [h3] at x3
 exact ⟨V3, by rw [e3, e2, e1], b1.trans ((b2.trans (b3.mono b2.size)).mono b1.size), by omega, x1.later8 (b2.trans (b3.mono b2.size)), x2.later b3, x3⟩
set_option maxRecDepth 100000 in
set_option maxHeartbeats 8000000 in
theorem pstep_any {w : World} {pB tB g n : Nat} {X FO SE : Nat → Prop} {L R : List EntD} {lv : Value} {f : Bool} {s : StepD} (h : Gm w pB tB g X FO L R lv f) (he : OkG SE w s.e) (hg : OkG SE w s.g) (hSE : ∀ k, SE k → k < w.heap.size ∧ ¬ PlB pB tB X k ∧ ¬ FO k) (hn : L.length + 1 ≤ n) (hsz : n < 100000) :
  Calls Tryz.prog 9 #[.pointer (some ⟨pB, 0, none⟩), .agg s.cells, .pointer (some ⟨g, 0, none⟩)] w (PlS w pB tB g X FO n) := by
 obtain ⟨V, hV, bV, sV, xp, xs, xf⟩ := ps_start w pB g s
 have HV := Lib.hid hV
 unfold StepD.cells at HV
 have hGV := h.later bV
 have heV : OkG SE V s.e := he.keptC (KpC.of_below bV)
 have hcap : Cap8 V (w.heap.size + 1) w.heap.size (w.heap.size + 2) pB g s SE := ⟨xs, xp, xf, hg.keptC (KpC.of_below bV)⟩
 have hplt := h.pl.plt
 have htlt := h.pl.tlt
 have hC : ∀ k, (k = w.heap.size + 1 ∨ k = w.heap.size ∨ k = w.heap.size + 2 ∨ SE k) → k < V.heap.size ∧ ¬ PlB pB tB X k ∧ ¬ FO k := fun k hk => by
  have hnew : w.heap.size ≤ k → ¬ PlB pB tB X k ∧ ¬ FO k := fun hk2 => ⟨fun e => by
   rcases e with e | e | e
   ·omega
   ·omega
   ·have := h.pl.lt k e; omega, fun e => by have := (h.fc k e).lt; omega⟩
  rcases hk with e | e | e | e
  ·exact ⟨by omega, hnew (by omega)⟩
  ·exact ⟨by omega, hnew (by omega)⟩
  ·exact ⟨by omega, hnew (by omega)⟩
  ·have := hSE k e
   exact ⟨by omega, this.2⟩
 have HG := Lib.hid (And.intro hGV (And.intro heV (And.intro hcap (And.intro hC (And.intro bV (And.intro hn hsz))))))
 obtain ⟨c0, c1, ⟨e0, e1, e2, e3, e4, e5, e6⟩, -⟩ := xs.all
 have pc := xp.cell
 have fc := xf.cell
 clear h he hg hSE hn hsz hV bV xp xs xf hGV heV hcap hC
 unfold StepD.cells
 go_enter Tryz.func9, Tryz.ntmps9
 go_upto_region 1 with fail
 simp only [Nat.add_assoc, Nat.reduceAdd]
 rw [← HV.out]
 by_cases k1 : s.k = 1
 ·as_aux_lemma =>
   obtain ⟨p, T, h1, h2, h3⟩ := HG.out.1.pl.tab.tree
   have HFz := Lib.hid (freeze_any h1)
   obtain ⟨d0, d1, d2⟩ := HG.out.1.pl.cells
   rw [k1] at c0
   have HK := Lib.hid (And.intro h2 h3)
   clear h1 k1 h2 h3
   go_wp2_with fail
   refine HFz.out.mono ?_
   rintro z w1 ⟨⟨v1, rfl⟩, tb1, ap1⟩
   have hb1 : w1.heap[pB]? = V.heap[pB]? := ap1.block pB HG.out.1.pl.plt HG.out.1.pl.pt
   have hbx := hb1.trans HG.out.1.pl.box
   have hpb : Bxd w1 w.heap.size 24 (.pointer (some ⟨pB, 0, none⟩)) := HG.out.2.2.1.pb.keep (ap1.block _ HG.out.2.2.1.pb.lt (by omega))
   have pc2 := hpb.cell
   have z2 : w1.cell? ⟨pB, 2, none⟩ = some (.bool f) := by simp [World.cell?, hbx]
   have z3 : w1.frozen? ⟨pB, 2, none⟩ = false := by simp [World.frozen?, hbx]
   have HT := Lib.hid (And.intro tb1 ap1)
   clear tb1 ap1 hb1 hbx hpb pc HFz d0 d1 d2 c0
   go_wp2
   go_ret
   obtain ⟨gm, go⟩ := HG.out.1.cold HT.out.2 HK.out.1 HK.out.2 HT.out.1
   exact ⟨rfl, true, X, FO, L, R, lv, gm, (GoTo.below HG.out.2.2.2.2.1).trans go, by have := HG.out.2.2.2.2.2.1; omega⟩
 by_cases k2 : s.k = 2
 ·as_aux_lemma =>
   rw [k2] at c0
   clear k2
   have HGi := Lib.hid (pgives_any (N := -1) (C := fun _ => False) (J := fun _ => True) (cm := n) HG.out.1 HG.out.2.1.ok (nothing_doer pB tB g n f) trivial (fun _ h => h.elim) (by have := HG.out.2.2.2.2.2; omega) (fun _ => Nat.le_refl _) (by have := HG.out.2.2.2.2.2; omega))
   unfold EntD.cells at HGi
   clear c1
   go_wp2_with fail
   refine HGi.out.mono ?_
   rintro z w1 hp
   obtain rfl : z = .returned (.bool true) := hp.1
   have HP := Lib.hid hp
   clear hp
   go_wp2
   go_ret
   exact HP.out.s HG.out.2.2.2.2.1 (Nat.le_refl _)
 by_cases k3 : s.k = 3
 ·as_aux_lemma =>
   rw [k3] at c0
   clear k3
   have HGi := Lib.hid (pgives_any (N := s.n) (C := fun _ => False) (J := fun _ => True) (cm := n) HG.out.1 HG.out.2.1.ok (nothing_doer pB tB g n f) trivial (fun _ h => h.elim) (by have := HG.out.2.2.2.2.2; omega) (fun _ => Nat.le_refl _) (by have := HG.out.2.2.2.2.2; omega))
   unfold EntD.cells at HGi
   go_wp2_with fail
   refine HGi.out.mono ?_
   rintro z w1 hp
   obtain rfl : z = .returned (.bool true) := hp.1
   obtain ⟨X', FO', L', R', lv', gm, go, hl, cap, oke, hC'⟩ := HG.out.2.2.1.next HG.out.2.1 HG.out.2.2.2.1 hp
   have HN := Lib.hid (And.intro gm (And.intro go (And.intro hl (And.intro cap oke))))
   obtain ⟨z0, z1, ⟨z2, z3, z4, z5, z6, z7, z8⟩, -⟩ := cap.sb.all
   have pc2 := cap.pb.cell
   have fc2 := cap.fb.cell
   clear hp gm go hl cap oke hC' c0 c1 e0 e1 e2 e3 e4 e5 e6 pc fc
   have HGj := Lib.hid (pgives_any (N := -1) (C := fun _ => False) (J := fun _ => True) (cm := n) HN.out.1 HN.out.2.2.2.2.ok (nothing_doer pB tB g n f) trivial (fun _ h => h.elim) HN.out.2.2.1 (fun _ => Nat.le_refl _) (by have := HN.out.2.2.1; have := HG.out.2.2.2.2.2; omega))
   unfold EntD.cells at HGj
   go_wp2_with fail
   refine HGj.out.mono ?_
   rintro z w2 hp
   obtain rfl : z = .returned (.bool true) := hp.1
   have HP := Lib.hid hp
   clear hp
   go_wp2
   go_ret
   exact HP.out.s2 HN.out.2.1 HG.out.2.2.2.2.1 (Nat.le_refl _)
 by_cases k4 : s.k = 4
 ·as_aux_lemma =>
   rw [k4] at c0
   clear k4
   have HAl := Lib.hid (pall_any (C := fun _ => False) (J := fun _ => True) HG.out.1 (nothing_doer pB tB g n f) trivial (fun _ h => h.elim) (by have := HG.out.2.2.2.2.2; omega) (by have := HG.out.2.2.2.2.2; omega))
   go_wp2_with fail
   refine HAl.out.mono ?_
   rintro z w1 hp
   obtain rfl : z = .returned (.bool true) := hp.1
   have HP := Lib.hid hp
   clear hp
   go_wp2
   go_ret
   exact HP.out.s HG.out.2.2.2.2.1 (Nat.le_refl _)
 by_cases k5 : s.k = 5
 ·as_aux_lemma =>
   rw [k5] at c0
   clear k5
   have HAl := Lib.hid (pall_any (C := fun k => k = w.heap.size + 1 ∨ k = w.heap.size ∨ k = w.heap.size + 2 ∨ SE k) HG.out.1 (step1_doer (m := L.length) (s := s) (f := f) (by have := HG.out.2.2.2.2.2; omega)) HG.out.2.2.1 HG.out.2.2.2.1 (by split <;> omega) (by have := HG.out.2.2.2.2.2; omega))
   have hcn : (if s.n < (R.length : Int) then L.length + 1 else L.length) ≤ n := by have := HG.out.2.2.2.2.2.1; split <;> omega
   go_wp2_with fail
   refine HAl.out.mono ?_
   rintro z w1 hp0
   have hp := hp0.mono hcn
   clear hp0 hcn
   obtain rfl : z = .returned (.bool true) := hp.1
   obtain ⟨X', FO', L', R', lv', gm, go, hl, cap, oke, hC'⟩ := HG.out.2.2.1.next HG.out.2.1 HG.out.2.2.2.1 hp
   have HN := Lib.hid (And.intro gm (And.intro go (And.intro hl (And.intro cap oke))))
   obtain ⟨z0, z1, ⟨z2, z3, z4, z5, z6, z7, z8⟩, -⟩ := cap.sb.all
   have pc2 := cap.pb.cell
   have fc2 := cap.fb.cell
   clear hp gm go hl cap oke hC' c0 c1 e0 e1 e2 e3 e4 e5 e6 pc fc
   have HAm := Lib.hid (pall_any (C := fun _ => False) (J := fun _ => True) HN.out.1 (nothing_doer pB tB g n f) trivial (fun _ h => h.elim) HN.out.2.2.1 (by have := HN.out.2.2.1; have := HG.out.2.2.2.2.2; omega))
   go_wp2_with fail
   refine HAm.out.mono ?_
   rintro z w2 hp
   obtain rfl : z = .returned (.bool true) := hp.1
   have HP := Lib.hid hp
   clear hp
   go_wp2
   go_ret
   exact HP.out.s2 HN.out.2.1 HG.out.2.2.2.2.1 (Nat.le_refl _)
 by_cases k6 : s.k = 6
 ·as_aux_lemma =>
   rw [k6] at c0
   clear k6
   have HGi := Lib.hid (pgives_any (N := -1) (C := fun k => k = w.heap.size + 1 ∨ k = w.heap.size ∨ k = w.heap.size + 2 ∨ SE k) (cm := n) HG.out.1 HG.out.2.1.ok (step2_doer (m := n) (s := s) (f := f) (by have := HG.out.2.2.2.2.2; omega)) HG.out.2.2.1 HG.out.2.2.2.1 (by have := HG.out.2.2.2.2.2; omega) (fun _ => Nat.le_refl _) (by have := HG.out.2.2.2.2.2; omega))
   unfold EntD.cells at HGi
   go_wp2_with fail
   refine HGi.out.mono ?_
   rintro z w1 hp
   obtain rfl : z = .returned (.bool true) := hp.1
   have HP := Lib.hid hp
   clear hp
   go_wp2
   go_ret
   exact HP.out.s HG.out.2.2.2.2.1 (Nat.le_refl _)
 have n1 : (s.k == 1) = false := by simp; exact k1
 have n2 : (s.k == 2) = false := by simp; exact k2
 have n3 : (s.k == 3) = false := by simp; exact k3
 have n4 : (s.k == 4) = false := by simp; exact k4
 have n5 : (s.k == 5) = false := by simp; exact k5
 have n6 : (s.k == 6) = false := by simp; exact k6
 have HAd := Lib.hid (padd_any HG.out.1 HG.out.2.1.ok HG.out.2.2.2.2.2.1 (by have := HG.out.2.2.2.2.2; omega))
 unfold EntD.cells at HAd
 clear k1 k2 k3 k4 k5 k6
 go_wp2_with fail
 refine HAd.out.mono ?_
 rintro z w1 hp
 obtain rfl : z = .returned (.bool true) := hp.1
 have HP := Lib.hid hp
 clear hp
 go_wp2
 go_ret
 exact HP.out.s HG.out.2.2.2.2.1 (Nat.le_refl _)
end Go.Proofs.YtpabbnddeklpdaaGreat

namespace Go.Proofs.YtpabbnddeklpdaaGreat
open Go.RowKit Go.Shelf
set_option linter.unusedVariables false
set_option linter.unusedSimpArgs false
attribute [local go_sem] Oper.semAt_some

def mp26Ops : Array Oper := #[{ dst := some 111, op := Op.move (Operand.tmp 7), type := 24, pos := "law.go:264", after := #[], guard := none }, { dst := some 112, op := Op.nilCheck (Operand.tmp 111), type := 0, pos := "law.go:264", after := #[{ on := 0, ground := Ground.data }], guard := none }, { dst := some 113, op := Op.fieldAddr 31 (Operand.tmp 112) 1, type := 0, pos := "law.go:264", after := #[{ on := 1, ground := Ground.data }], guard := none }, { dst := some 114, op := Op.load 29 (Operand.tmp 113), type := 29, pos := "law.go:264", after := #[{ on := 2, ground := Ground.data }], guard := none }, { dst := some 115, op := Op.load 38 (Operand.tmp 11), type := 38, pos := "law.go:264", after := #[], guard := none }, { dst := some 116, op := Op.call { callee := Callee.value (Operand.func 10), args := #[Operand.tmp 114, Operand.tmp 115], argTypes := #[29, 38] }, type := 27, pos := "law.go:264", after := #[{ on := 3, ground := Ground.data }, { on := 4, ground := Ground.data }], guard := none }, { dst := some 13, op := Op.alloc 27, type := 0, pos := "law.go:264", after := #[], guard := none }, { dst := none, op := Op.store 27 (Operand.tmp 13) (Operand.tmp 116), type := 0, pos := "law.go:264", after := #[{ on := 6, ground := Ground.data }, { on := 5, ground := Ground.data }, { on := 5, ground := Ground.chain }, { on := 0, ground := Ground.phase }, { on := 1, ground := Ground.phase }, { on := 2, ground := Ground.phase }, { on := 3, ground := Ground.phase }, { on := 4, ground := Ground.phase }, { on := 5, ground := Ground.phase }, { on := 6, ground := Ground.phase }], guard := none }]
set_option maxRecDepth 100000 in
set_option maxHeartbeats 16000000 in
theorem mp26_region {wr : World} {X : Nat → Prop} {R : List EntD} {p : EntD → Bool} {f : Bool} {x : EntD} {pB b2 m c : Nat} {a : Option Addr} {ds : List Deferred} {Q : Exit → Act → World → Prop} {s0 s1 s2 s3 s4 s5 s6 s8 s9 s10 s12 s13 s14 s15 s16 s17 s18 s19 s20 s21 s22 s23 s24 s25 s26 s27 s28 s29 s30 s31 s32 s33 s34 s35 s36 s37 s38 s39 s40 s41 s42 s43 s44 s45 s46 s47 s48 s49 s50 s51 s52 s53 s54 s55 s56 s57 s58 s59 s60 s61 s62 s63 s64 s65 s66 s67 s68 s69 s70 s71 s72 s73 s74 s75 s76 s77 s78 s79 s80 s81 s82 s83 s84 s85 s86 s87 s88 s89 s90 s91 s92 s93 s94 s95 s96 s97 s98 s99 s100 s101 s102 s103 s104 s105 s106 s107 s108 s109 s110 s111 s112 s113 s114 s115 s116 s117 s118 s119 s120 s121 s122 s123 s124 s125 s126 s127 s128 s129 s130 s131 s132 s133 s134 s135 s136 s137 s138 s139 s140 s141 s142 s143 s144 s145 s146 s147 s148 s149 s150 s151 s152 s153 s154 s155 s156 s157 s158 s159 s160 s161 s162 s163 s164 s165 s166 s167 s168 s169 s170 s171 s172 s173 s174 s175 s176 s177 s178 s179 s180 s181 s182 s183 s184 s185 s186 s187 s188 s189 s190 s191 s192 s193 s194 s195 s196 s197 : Value}
  (hPc : wr.cell? ⟨pB, 1, none⟩ = some (.slice a m c) ∧ wr.cell? ⟨pB, 2, none⟩ = some (.bool f)) (hDc : wr.cell? ⟨b2, 0, none⟩ = some (x.vr) ∧ wr.cell? ⟨b2, 1, none⟩ = some (.int .i64 x.fam) ∧ wr.cell? ⟨b2, 2, none⟩ = some (x.vq) ∧ wr.cell? ⟨b2, 3, none⟩ = some (.int .i64 x.ts) ∧ wr.cell? ⟨b2, 4, none⟩ = some (.int .i64 x.seq) ∧ wr.cell? ⟨b2, 5, none⟩ = some (.int .i64 x.kind) ∧ wr.cell? ⟨b2, 6, none⟩ = some (x.vv)) (hX : Hid (∀ k, X k → k < wr.heap.size)) (hR : Hid (RdX X wr (.slice a m c) R))
  (hA : Hid (∀ Z, Below wr.heap.size wr Z → Calls Tryz.prog 10 #[.agg #[.slice a m c, .bool f], .agg #[x.vr, .int .i64 x.fam, x.vq, .int .i64 x.ts, .int .i64 x.seq, .int .i64 x.kind, x.vv]] Z (fun z w' => ∃ v, z = .returned v ∧ RdL w' v (R.dropWhile p) ∧ (∀ k, v.ownBlock = some k → (Value.slice a m c).ownBlock = some k) ∧ Below Z.heap.size Z w')))
  (hQ : Hid (∀ (a' : Option Addr) (m' k' : Nat) (b9 : Nat) (Z : World), Gi2 wr Z X (R.dropWhile p) (.slice a' m' k') b9 → Q .normal ({ tmps := List.toArray (s0 :: s1 :: s2 :: s3 :: s4 :: s5 :: s6 :: (.pointer (some ⟨pB, 0, none⟩) : Value) :: s8 :: s9 :: s10 :: (.pointer (some ⟨b2, 0, none⟩) : Value) :: s12 :: (.pointer (some ⟨b9, 0, none⟩) : Value) :: s14 :: s15 :: s16 :: s17 :: s18 :: s19 :: s20 :: s21 :: s22 :: s23 :: s24 :: s25 :: s26 :: s27 :: s28 :: s29 :: s30 :: s31 :: s32 :: s33 :: s34 :: s35 :: s36 :: s37 :: s38 :: s39 :: s40 :: s41 :: s42 :: s43 :: s44 :: s45 :: s46 :: s47 :: s48 :: s49 :: s50 :: s51 :: s52 :: s53 :: s54 :: s55 :: s56 :: s57 :: s58 :: s59 :: s60 :: s61 :: s62 :: s63 :: s64 :: s65 :: s66 :: s67 :: s68 :: s69 :: s70 :: s71 :: s72 :: s73 :: s74 :: s75 :: s76 :: s77 :: s78 :: s79 :: s80 :: s81 :: s82 :: s83 :: s84 :: s85 :: s86 :: s87 :: s88 :: s89 :: s90 :: s91 :: s92 :: s93 :: s94 :: s95 :: s96 :: s97 :: s98 :: s99 :: s100 :: s101 :: s102 :: s103 :: s104 :: s105 :: s106 :: s107 :: s108 :: s109 :: s110 :: (.pointer (some ⟨pB, 0, none⟩) : Value) :: (.pointer (some ⟨pB, 0, none⟩) : Value) :: (.pointer (some ⟨pB, 1, none⟩) : Value) :: (.agg #[.slice a m c, .bool f] : Value) :: (.agg #[x.vr, .int .i64 x.fam, x.vq, .int .i64 x.ts, .int .i64 x.seq, .int .i64 x.kind, x.vv] : Value) :: ((.slice a' m' k') : Value) :: s117 :: s118 :: s119 :: s120 :: s121 :: s122 :: s123 :: s124 :: s125 :: s126 :: s127 :: s128 :: s129 :: s130 :: s131 :: s132 :: s133 :: s134 :: s135 :: s136 :: s137 :: s138 :: s139 :: s140 :: s141 :: s142 :: s143 :: s144 :: s145 :: s146 :: s147 :: s148 :: s149 :: s150 :: s151 :: s152 :: s153 :: s154 :: s155 :: s156 :: s157 :: s158 :: s159 :: s160 :: s161 :: s162 :: s163 :: s164 :: s165 :: s166 :: s167 :: s168 :: s169 :: s170 :: s171 :: s172 :: s173 :: s174 :: s175 :: s176 :: s177 :: s178 :: s179 :: s180 :: s181 :: s182 :: s183 :: s184 :: s185 :: s186 :: s187 :: s188 :: s189 :: s190 :: s191 :: s192 :: s193 :: s194 :: s195 :: s196 :: s197 :: []), defers := ds } : Act) Z)) : Code.wp Tryz.prog (Code.region 26 mp26Ops true) Q ({ tmps := List.toArray (s0 :: s1 :: s2 :: s3 :: s4 :: s5 :: s6 :: (.pointer (some ⟨pB, 0, none⟩) : Value) :: s8 :: s9 :: s10 :: (.pointer (some ⟨b2, 0, none⟩) : Value) :: s12 :: s13 :: s14 :: s15 :: s16 :: s17 :: s18 :: s19 :: s20 :: s21 :: s22 :: s23 :: s24 :: s25 :: s26 :: s27 :: s28 :: s29 :: s30 :: s31 :: s32 :: s33 :: s34 :: s35 :: s36 :: s37 :: s38 :: s39 :: s40 :: s41 :: s42 :: s43 :: s44 :: s45 :: s46 :: s47 :: s48 :: s49 :: s50 :: s51 :: s52 :: s53 :: s54 :: s55 :: s56 :: s57 :: s58 :: s59 :: s60 :: s61 :: s62 :: s63 :: s64 :: s65 :: s66 :: s67 :: s68 :: s69 :: s70 :: s71 :: s72 :: s73 :: s74 :: s75 :: s76 :: s77 :: s78 :: s79 :: s80 :: s81 :: s82 :: s83 :: s84 :: s85 :: s86 :: s87 :: s88 :: s89 :: s90 :: s91 :: s92 :: s93 :: s94 :: s95 :: s96 :: s97 :: s98 :: s99 :: s100 :: s101 :: s102 :: s103 :: s104 :: s105 :: s106 :: s107 :: s108 :: s109 :: s110 :: s111 :: s112 :: s113 :: s114 :: s115 :: s116 :: s117 :: s118 :: s119 :: s120 :: s121 :: s122 :: s123 :: s124 :: s125 :: s126 :: s127 :: s128 :: s129 :: s130 :: s131 :: s132 :: s133 :: s134 :: s135 :: s136 :: s137 :: s138 :: s139 :: s140 :: s141 :: s142 :: s143 :: s144 :: s145 :: s146 :: s147 :: s148 :: s149 :: s150 :: s151 :: s152 :: s153 :: s154 :: s155 :: s156 :: s157 :: s158 :: s159 :: s160 :: s161 :: s162 :: s163 :: s164 :: s165 :: s166 :: s167 :: s168 :: s169 :: s170 :: s171 :: s172 :: s173 :: s174 :: s175 :: s176 :: s177 :: s178 :: s179 :: s180 :: s181 :: s182 :: s183 :: s184 :: s185 :: s186 :: s187 :: s188 :: s189 :: s190 :: s191 :: s192 :: s193 :: s194 :: s195 :: s196 :: s197 :: []), defers := ds } : Act) wr := by
 have HPc := Lib.hid hPc
 have HDc := Lib.hid hDc
 clear hPc hDc
 unfold mp26Ops
 have BD : Below wr.heap.size wr wr.drew := (Below.refl _ _).drew
 refine wp_region_noPanic ?_
 refine wp_region_anyE (S := fun wx => Below wr.heap.size wr wx) (E := fun _ => true) (by kernel_rfl) ?_
 have hHeld : Below wr.heap.size wr wr.drew := BD
 have HB := Lib.hid BD
 obtain ⟨Z0, hZ0⟩ : ∃ z, z = wr.drew := ⟨_, rfl⟩
 rw [← hZ0] at HB hHeld ⊢
 clear hZ0 BD
 refine AnyE.take (i := 0) (.pointer (some ⟨pB, 0, none⟩)) rfl (by kernel_rfl) (by kernel_rfl) (by kernel_rfl) (by kernel_rfl) (fun _ _ _ h => h) (.inl ⟨by kernel_rfl, fun wy hy => by (go_simp; done)⟩) hHeld ?_
 try simp only [Act.put, List.setIfInBounds_toArray, List.set_cons_zero, List.set_cons_succ]
 refine AnyE.take (i := 1) (.pointer (some ⟨pB, 0, none⟩)) rfl (by kernel_rfl) (by kernel_rfl) (by kernel_rfl) (by kernel_rfl) (fun _ _ _ h => h) (.inl ⟨by kernel_rfl, fun wy hy => by (go_simp; done)⟩) hHeld ?_
 try simp only [Act.put, List.setIfInBounds_toArray, List.set_cons_zero, List.set_cons_succ]
 refine AnyE.take (i := 2) (.pointer (some ⟨pB, 1, none⟩)) rfl (by kernel_rfl) (by kernel_rfl) (by kernel_rfl) (by kernel_rfl) (fun _ _ _ h => h) (.inl ⟨by kernel_rfl, fun wy hy => by (go_simp; done)⟩) hHeld ?_
 try simp only [Act.put, List.setIfInBounds_toArray, List.set_cons_zero, List.set_cons_succ]
 refine AnyE.take (i := 3) (.agg #[.slice a m c, .bool f]) rfl (by kernel_rfl) (by kernel_rfl) (by kernel_rfl) (by kernel_rfl) (fun _ _ _ h => h) (.inl ⟨by kernel_rfl, fun wy hy => by (have q0 := (hy.cell (p := ⟨pB, 1, none⟩) (World.block_lt_of_cell? _ _ HPc.out.1)).trans HPc.out.1; have q1 := (hy.cell (p := ⟨pB, 2, none⟩) (World.block_lt_of_cell? _ _ HPc.out.2)).trans HPc.out.2; go_simp; done)⟩) hHeld ?_
 try simp only [Act.put, List.setIfInBounds_toArray, List.set_cons_zero, List.set_cons_succ]
 refine AnyE.take (i := 4) (.agg #[x.vr, .int .i64 x.fam, x.vq, .int .i64 x.ts, .int .i64 x.seq, .int .i64 x.kind, x.vv]) rfl (by kernel_rfl) (by kernel_rfl) (by kernel_rfl) (by kernel_rfl) (fun _ _ _ h => h) (.inl ⟨by kernel_rfl, fun wy hy => by (have c0 := (hy.cell (p := ⟨b2, 0, none⟩) (World.block_lt_of_cell? _ _ HDc.out.1)).trans HDc.out.1; have c1 := (hy.cell (p := ⟨b2, 1, none⟩) (World.block_lt_of_cell? _ _ HDc.out.2.1)).trans HDc.out.2.1; have c2 := (hy.cell (p := ⟨b2, 2, none⟩) (World.block_lt_of_cell? _ _ HDc.out.2.2.1)).trans HDc.out.2.2.1; have c3 := (hy.cell (p := ⟨b2, 3, none⟩) (World.block_lt_of_cell? _ _ HDc.out.2.2.2.1)).trans HDc.out.2.2.2.1; have c4 := (hy.cell (p := ⟨b2, 4, none⟩) (World.block_lt_of_cell? _ _ HDc.out.2.2.2.2.1)).trans HDc.out.2.2.2.2.1; have c5 := (hy.cell (p := ⟨b2, 5, none⟩) (World.block_lt_of_cell? _ _ HDc.out.2.2.2.2.2.1)).trans HDc.out.2.2.2.2.2.1; have c6 := (hy.cell (p := ⟨b2, 6, none⟩) (World.block_lt_of_cell? _ _ HDc.out.2.2.2.2.2.2)).trans HDc.out.2.2.2.2.2.2; go_simp; done)⟩) hHeld ?_
 try simp only [Act.put, List.setIfInBounds_toArray, List.set_cons_zero, List.set_cons_succ]
 refine AnyE.twoF (i := 5) (j := 6) rfl rfl (by kernel_rfl) (by kernel_rfl) (by kernel_rfl) (fun KK hK => ?_) (fun KK hK => ?_)
 ·go_simp
  go_at_call 10
  refine (hA.out _ HB.out).mono ?_
  rintro e9 Z1 ⟨v, rfl, rd, rl, b1⟩
  obtain ⟨a', k', rfl⟩ := rd.slice
  obtain ⟨m', hm'⟩ : ∃ m', m' = (R.dropWhile p).length := ⟨_, rfl⟩
  rw [← hm'] at rd rl ⊢
  have HR := Lib.hid (And.intro rd (And.intro rl b1))
  have HZ := Lib.hid HB.out
  have HB := Lib.hid (HB.out.trans (b1.mono HB.out.size))
  clear rd rl b1 hm'
  go_wp2_with fail
  refine hK.out _ _ ⟨fun _ => HB.out, ?_⟩
  have hHeld := HB.out
  clear hK
  try simp only [Act.put, List.setIfInBounds_toArray, List.set_cons_zero, List.set_cons_succ]
  refine AnyE.one (i := 6) rfl (by kernel_rfl) (by kernel_rfl) (fun KK hK => ?_)
  go_simp
  have bA := (Below.refl Z1.heap.size Z1).alloc (Nat.le_refl _) (.cells #[.slice none 0 0] 27)
  have eA : Bxd (Z1.alloc (.cells #[.slice none 0 0] 27)) Z1.heap.size 27 (.slice none 0 0) := Bxd.new Z1 _ _
  have tA : (Z1.alloc (.cells #[.slice none 0 0] 27)).heap.size = Z1.heap.size + 1 := by simp
  obtain ⟨Z2, hZ⟩ : ∃ z, z = Z1.alloc (.cells #[.slice none 0 0] 27) := ⟨_, rfl⟩
  rw [← hZ] at bA eA tA ⊢
  clear hZ
  have HE := Lib.hid (And.intro eA (And.intro tA bA))
  have HA9 := Lib.hid HB.out
  have HB := Lib.hid (HB.out.trans (bA.mono HB.out.size))
  clear bA eA tA
  refine hK.out _ _ ⟨fun _ => HB.out, ?_⟩
  have hHeld := HB.out
  clear hK
  try simp only [Act.put, List.setIfInBounds_toArray, List.set_cons_zero, List.set_cons_succ]
  have HX9 := Lib.hid (HE.out.1)
  have z0 := HX9.out.cell
  have f0 := HX9.out.fz
  have HD9 := Lib.hid (gi2_of (HZ.out.trans ((HR.out.2.2.trans (HE.out.2.2.mono HR.out.2.2.size)).mono HZ.out.size)) (((hR.out.keptC (KpC.of_below HZ.out)).drop HR.out.2.2 HR.out.1 HR.out.2.1).keptC (KpC.of_below HE.out.2.2)) HE.out.1 (by have := HZ.out.size; have := HR.out.2.2.size; omega) hX.out)
  refine AnyE.one (i := 7) rfl (by kernel_rfl) (by kernel_rfl) (fun KK hK => ?_)
  go_simp
  refine hK.out _ _ ⟨fun _ => HD9.out.bel, ?_⟩
  clear hK z0 f0
  try simp only [Act.put, List.setIfInBounds_toArray, List.set_cons_zero, List.set_cons_succ]
  refine AnyE.done (by kernel_rfl) (NoPanic.normal ?_) _
  exact hQ.out _ _ _ _ _ HD9.out
 ·go_simp
  have bA := (Below.refl Z0.heap.size Z0).alloc (Nat.le_refl _) (.cells #[.slice none 0 0] 27)
  have eA : Bxd (Z0.alloc (.cells #[.slice none 0 0] 27)) Z0.heap.size 27 (.slice none 0 0) := Bxd.new Z0 _ _
  have tA : (Z0.alloc (.cells #[.slice none 0 0] 27)).heap.size = Z0.heap.size + 1 := by simp
  obtain ⟨Z1, hZ⟩ : ∃ z, z = Z0.alloc (.cells #[.slice none 0 0] 27) := ⟨_, rfl⟩
  rw [← hZ] at bA eA tA ⊢
  clear hZ
  have HE := Lib.hid (And.intro eA (And.intro tA bA))
  have HA9 := Lib.hid HB.out
  have HB := Lib.hid (HB.out.trans (bA.mono HB.out.size))
  clear bA eA tA
  refine hK.out _ _ ⟨fun _ => HB.out, ?_⟩
  have hHeld := HB.out
  clear hK
  try simp only [Act.put, List.setIfInBounds_toArray, List.set_cons_zero, List.set_cons_succ]
  refine AnyE.one (i := 5) rfl (by kernel_rfl) (by kernel_rfl) (fun KK hK => ?_)
  go_simp
  go_at_call 10
  refine (hA.out _ HB.out).mono ?_
  rintro e9 Z2 ⟨v, rfl, rd, rl, b1⟩
  obtain ⟨a', k', rfl⟩ := rd.slice
  obtain ⟨m', hm'⟩ : ∃ m', m' = (R.dropWhile p).length := ⟨_, rfl⟩
  rw [← hm'] at rd rl ⊢
  have HR := Lib.hid (And.intro rd (And.intro rl b1))
  have HZ := Lib.hid HB.out
  have HB := Lib.hid (HB.out.trans (b1.mono HB.out.size))
  clear rd rl b1 hm'
  go_wp2_with fail
  refine hK.out _ _ ⟨fun _ => HB.out, ?_⟩
  have hHeld := HB.out
  clear hK
  try simp only [Act.put, List.setIfInBounds_toArray, List.set_cons_zero, List.set_cons_succ]
  have HX9 := Lib.hid (Bxd.keep HE.out.1 (HR.out.2.2.block _ HE.out.1.lt))
  have z0 := HX9.out.cell
  have f0 := HX9.out.fz
  have HD9 := Lib.hid (gi2_of (HZ.out.trans (HR.out.2.2.mono HZ.out.size)) ((hR.out.keptC (KpC.of_below HZ.out)).drop HR.out.2.2 HR.out.1 HR.out.2.1) (Bxd.keep HE.out.1 (HR.out.2.2.block _ HE.out.1.lt)) HA9.out.size hX.out)
  refine AnyE.one (i := 7) rfl (by kernel_rfl) (by kernel_rfl) (fun KK hK => ?_)
  go_simp
  refine hK.out _ _ ⟨fun _ => HD9.out.bel, ?_⟩
  clear hK z0 f0
  try simp only [Act.put, List.setIfInBounds_toArray, List.set_cons_zero, List.set_cons_succ]
  refine AnyE.done (by kernel_rfl) (NoPanic.normal ?_) _
  exact hQ.out _ _ _ _ _ HD9.out
end Go.Proofs.YtpabbnddeklpdaaGreat

namespace Go.Proofs.YtpabbnddeklpdaaGreat
open Go.RowKit Go.Shelf
set_option linter.unusedVariables false
set_option linter.unusedSimpArgs false
attribute [local go_sem] Oper.semAt_some

def mp18Ops : Array Oper := #[{ dst := some 69, op := Op.move (Operand.tmp 7), type := 24, pos := "law.go:255", after := #[], guard := none }, { dst := some 70, op := Op.nilCheck (Operand.tmp 69), type := 0, pos := "law.go:255", after := #[{ on := 0, ground := Ground.data }], guard := none }, { dst := some 71, op := Op.fieldAddr 31 (Operand.tmp 70) 0, type := 0, pos := "law.go:255", after := #[{ on := 1, ground := Ground.data }], guard := none }, { dst := some 72, op := Op.load 25 (Operand.tmp 71), type := 25, pos := "law.go:255", after := #[{ on := 2, ground := Ground.data }], guard := none }, { dst := some 73, op := Op.load 38 (Operand.tmp 9), type := 38, pos := "law.go:255", after := #[], guard := none }, { dst := some 74, op := Op.call { callee := Callee.value (Operand.func 7), args := #[Operand.tmp 72, Operand.tmp 73], argTypes := #[25, 38] }, type := 43, pos := "law.go:255", after := #[{ on := 3, ground := Ground.data }, { on := 4, ground := Ground.data }], guard := none }, { dst := some 10, op := Op.assign (Operand.tmp 74), type := 43, pos := "law.go:255", after := #[{ on := 5, ground := Ground.data }, { on := 5, ground := Ground.chain }, { on := 0, ground := Ground.phase }, { on := 1, ground := Ground.phase }, { on := 2, ground := Ground.phase }, { on := 3, ground := Ground.phase }, { on := 4, ground := Ground.phase }, { on := 5, ground := Ground.phase }], guard := none }]
set_option maxRecDepth 100000 in
set_option maxHeartbeats 16000000 in
theorem mp18_region {wr : World} {x : EntD} {pB tB b1 : Nat} {ds : List Deferred} {Q : Exit → Act → World → Prop} {s0 s1 s2 s3 s4 s5 s6 s8 s10 s11 s12 s13 s14 s15 s16 s17 s18 s19 s20 s21 s22 s23 s24 s25 s26 s27 s28 s29 s30 s31 s32 s33 s34 s35 s36 s37 s38 s39 s40 s41 s42 s43 s44 s45 s46 s47 s48 s49 s50 s51 s52 s53 s54 s55 s56 s57 s58 s59 s60 s61 s62 s63 s64 s65 s66 s67 s68 s69 s70 s71 s72 s73 s74 s75 s76 s77 s78 s79 s80 s81 s82 s83 s84 s85 s86 s87 s88 s89 s90 s91 s92 s93 s94 s95 s96 s97 s98 s99 s100 s101 s102 s103 s104 s105 s106 s107 s108 s109 s110 s111 s112 s113 s114 s115 s116 s117 s118 s119 s120 s121 s122 s123 s124 s125 s126 s127 s128 s129 s130 s131 s132 s133 s134 s135 s136 s137 s138 s139 s140 s141 s142 s143 s144 s145 s146 s147 s148 s149 s150 s151 s152 s153 s154 s155 s156 s157 s158 s159 s160 s161 s162 s163 s164 s165 s166 s167 s168 s169 s170 s171 s172 s173 s174 s175 s176 s177 s178 s179 s180 s181 s182 s183 s184 s185 s186 s187 s188 s189 s190 s191 s192 s193 s194 s195 s196 s197 : Value}
  (hPc : wr.cell? ⟨pB, 0, none⟩ = some (.pointer (some ⟨tB, 0, none⟩))) (hDc : wr.cell? ⟨b1, 0, none⟩ = some (x.vr) ∧ wr.cell? ⟨b1, 1, none⟩ = some (.int .i64 x.fam) ∧ wr.cell? ⟨b1, 2, none⟩ = some (x.vq) ∧ wr.cell? ⟨b1, 3, none⟩ = some (.int .i64 x.ts) ∧ wr.cell? ⟨b1, 4, none⟩ = some (.int .i64 x.seq) ∧ wr.cell? ⟨b1, 5, none⟩ = some (.int .i64 x.kind) ∧ wr.cell? ⟨b1, 6, none⟩ = some (x.vv))
  (hA : Hid (∀ Z, Below wr.heap.size wr Z → Calls Tryz.prog 7 #[.pointer (some ⟨tB, 0, none⟩), .agg #[x.vr, .int .i64 x.fam, x.vq, .int .i64 x.ts, .int .i64 x.seq, .int .i64 x.kind, x.vv]] Z (fun z w' => ∃ Bf x0, z = .returned (.func (.func 25) #[] #[.pointer (some ⟨Z.heap.size, 0, none⟩), .pointer (some ⟨Bf, 0, none⟩)]) ∧ Bxd w' Z.heap.size 25 (.pointer (some ⟨tB, 0, none⟩)) ∧ EBox w' Bf x0 ∧ EntD.Same x0 { x with vv := .slice none 0 0, val := [] } ∧ EOk (fun i => Z.heap.size ≤ i) w' x0 ∧ Below Z.heap.size Z w' ∧ Z.heap.size + 2 ≤ w'.heap.size ∧ Z.heap.size + 2 ≤ Bf ∧ Bf < w'.heap.size)))
  (hQ : Hid (∀ (Bt Bf : Nat) (x0 : EntD) (Zs Z : World), Gi4 wr Z tB x x0 Bt Bf → Q .normal ({ tmps := List.toArray (s0 :: s1 :: s2 :: s3 :: s4 :: s5 :: s6 :: (.pointer (some ⟨pB, 0, none⟩) : Value) :: s8 :: (.pointer (some ⟨b1, 0, none⟩) : Value) :: ((.func (.func 25) #[] #[.pointer (some ⟨Bt, 0, none⟩), .pointer (some ⟨Bf, 0, none⟩)]) : Value) :: s11 :: s12 :: s13 :: s14 :: s15 :: s16 :: s17 :: s18 :: s19 :: s20 :: s21 :: s22 :: s23 :: s24 :: s25 :: s26 :: s27 :: s28 :: s29 :: s30 :: s31 :: s32 :: s33 :: s34 :: s35 :: s36 :: s37 :: s38 :: s39 :: s40 :: s41 :: s42 :: s43 :: s44 :: s45 :: s46 :: s47 :: s48 :: s49 :: s50 :: s51 :: s52 :: s53 :: s54 :: s55 :: s56 :: s57 :: s58 :: s59 :: s60 :: s61 :: s62 :: s63 :: s64 :: s65 :: s66 :: s67 :: s68 :: (.pointer (some ⟨pB, 0, none⟩) : Value) :: (.pointer (some ⟨pB, 0, none⟩) : Value) :: (.pointer (some ⟨pB, 0, none⟩) : Value) :: (.pointer (some ⟨tB, 0, none⟩) : Value) :: (.agg #[x.vr, .int .i64 x.fam, x.vq, .int .i64 x.ts, .int .i64 x.seq, .int .i64 x.kind, x.vv] : Value) :: ((.func (.func 25) #[] #[.pointer (some ⟨Bt, 0, none⟩), .pointer (some ⟨Bf, 0, none⟩)]) : Value) :: s75 :: s76 :: s77 :: s78 :: s79 :: s80 :: s81 :: s82 :: s83 :: s84 :: s85 :: s86 :: s87 :: s88 :: s89 :: s90 :: s91 :: s92 :: s93 :: s94 :: s95 :: s96 :: s97 :: s98 :: s99 :: s100 :: s101 :: s102 :: s103 :: s104 :: s105 :: s106 :: s107 :: s108 :: s109 :: s110 :: s111 :: s112 :: s113 :: s114 :: s115 :: s116 :: s117 :: s118 :: s119 :: s120 :: s121 :: s122 :: s123 :: s124 :: s125 :: s126 :: s127 :: s128 :: s129 :: s130 :: s131 :: s132 :: s133 :: s134 :: s135 :: s136 :: s137 :: s138 :: s139 :: s140 :: s141 :: s142 :: s143 :: s144 :: s145 :: s146 :: s147 :: s148 :: s149 :: s150 :: s151 :: s152 :: s153 :: s154 :: s155 :: s156 :: s157 :: s158 :: s159 :: s160 :: s161 :: s162 :: s163 :: s164 :: s165 :: s166 :: s167 :: s168 :: s169 :: s170 :: s171 :: s172 :: s173 :: s174 :: s175 :: s176 :: s177 :: s178 :: s179 :: s180 :: s181 :: s182 :: s183 :: s184 :: s185 :: s186 :: s187 :: s188 :: s189 :: s190 :: s191 :: s192 :: s193 :: s194 :: s195 :: s196 :: s197 :: []), defers := ds } : Act) Z)) : Code.wp Tryz.prog (Code.region 18 mp18Ops true) Q ({ tmps := List.toArray (s0 :: s1 :: s2 :: s3 :: s4 :: s5 :: s6 :: (.pointer (some ⟨pB, 0, none⟩) : Value) :: s8 :: (.pointer (some ⟨b1, 0, none⟩) : Value) :: s10 :: s11 :: s12 :: s13 :: s14 :: s15 :: s16 :: s17 :: s18 :: s19 :: s20 :: s21 :: s22 :: s23 :: s24 :: s25 :: s26 :: s27 :: s28 :: s29 :: s30 :: s31 :: s32 :: s33 :: s34 :: s35 :: s36 :: s37 :: s38 :: s39 :: s40 :: s41 :: s42 :: s43 :: s44 :: s45 :: s46 :: s47 :: s48 :: s49 :: s50 :: s51 :: s52 :: s53 :: s54 :: s55 :: s56 :: s57 :: s58 :: s59 :: s60 :: s61 :: s62 :: s63 :: s64 :: s65 :: s66 :: s67 :: s68 :: s69 :: s70 :: s71 :: s72 :: s73 :: s74 :: s75 :: s76 :: s77 :: s78 :: s79 :: s80 :: s81 :: s82 :: s83 :: s84 :: s85 :: s86 :: s87 :: s88 :: s89 :: s90 :: s91 :: s92 :: s93 :: s94 :: s95 :: s96 :: s97 :: s98 :: s99 :: s100 :: s101 :: s102 :: s103 :: s104 :: s105 :: s106 :: s107 :: s108 :: s109 :: s110 :: s111 :: s112 :: s113 :: s114 :: s115 :: s116 :: s117 :: s118 :: s119 :: s120 :: s121 :: s122 :: s123 :: s124 :: s125 :: s126 :: s127 :: s128 :: s129 :: s130 :: s131 :: s132 :: s133 :: s134 :: s135 :: s136 :: s137 :: s138 :: s139 :: s140 :: s141 :: s142 :: s143 :: s144 :: s145 :: s146 :: s147 :: s148 :: s149 :: s150 :: s151 :: s152 :: s153 :: s154 :: s155 :: s156 :: s157 :: s158 :: s159 :: s160 :: s161 :: s162 :: s163 :: s164 :: s165 :: s166 :: s167 :: s168 :: s169 :: s170 :: s171 :: s172 :: s173 :: s174 :: s175 :: s176 :: s177 :: s178 :: s179 :: s180 :: s181 :: s182 :: s183 :: s184 :: s185 :: s186 :: s187 :: s188 :: s189 :: s190 :: s191 :: s192 :: s193 :: s194 :: s195 :: s196 :: s197 :: []), defers := ds } : Act) wr := by
 have HPc := Lib.hid hPc
 have HDc := Lib.hid hDc
 clear hPc hDc
 unfold mp18Ops
 have BD : Below wr.heap.size wr wr.drew := (Below.refl _ _).drew
 refine wp_region_noPanic ?_
 refine wp_region_anyE (S := fun wx => Below wr.heap.size wr wx) (E := fun _ => true) (by kernel_rfl) ?_
 have hHeld : Below wr.heap.size wr wr.drew := BD
 have HB := Lib.hid BD
 obtain ⟨Z0, hZ0⟩ : ∃ z, z = wr.drew := ⟨_, rfl⟩
 rw [← hZ0] at HB hHeld ⊢
 clear hZ0 BD
 refine AnyE.take (i := 0) (.pointer (some ⟨pB, 0, none⟩)) rfl (by kernel_rfl) (by kernel_rfl) (by kernel_rfl) (by kernel_rfl) (fun _ _ _ h => h) (.inl ⟨by kernel_rfl, fun wy hy => by (go_simp; done)⟩) hHeld ?_
 try simp only [Act.put, List.setIfInBounds_toArray, List.set_cons_zero, List.set_cons_succ]
 refine AnyE.take (i := 1) (.pointer (some ⟨pB, 0, none⟩)) rfl (by kernel_rfl) (by kernel_rfl) (by kernel_rfl) (by kernel_rfl) (fun _ _ _ h => h) (.inl ⟨by kernel_rfl, fun wy hy => by (go_simp; done)⟩) hHeld ?_
 try simp only [Act.put, List.setIfInBounds_toArray, List.set_cons_zero, List.set_cons_succ]
 refine AnyE.take (i := 2) (.pointer (some ⟨pB, 0, none⟩)) rfl (by kernel_rfl) (by kernel_rfl) (by kernel_rfl) (by kernel_rfl) (fun _ _ _ h => h) (.inl ⟨by kernel_rfl, fun wy hy => by (go_simp; done)⟩) hHeld ?_
 try simp only [Act.put, List.setIfInBounds_toArray, List.set_cons_zero, List.set_cons_succ]
 refine AnyE.take (i := 3) (.pointer (some ⟨tB, 0, none⟩)) rfl (by kernel_rfl) (by kernel_rfl) (by kernel_rfl) (by kernel_rfl) (fun _ _ _ h => h) (.inl ⟨by kernel_rfl, fun wy hy => by (have q0 := (hy.cell (p := ⟨pB, 0, none⟩) (World.block_lt_of_cell? _ _ HPc.out)).trans HPc.out; go_simp; done)⟩) hHeld ?_
 try simp only [Act.put, List.setIfInBounds_toArray, List.set_cons_zero, List.set_cons_succ]
 refine AnyE.take (i := 4) (.agg #[x.vr, .int .i64 x.fam, x.vq, .int .i64 x.ts, .int .i64 x.seq, .int .i64 x.kind, x.vv]) rfl (by kernel_rfl) (by kernel_rfl) (by kernel_rfl) (by kernel_rfl) (fun _ _ _ h => h) (.inl ⟨by kernel_rfl, fun wy hy => by (have c0 := (hy.cell (p := ⟨b1, 0, none⟩) (World.block_lt_of_cell? _ _ HDc.out.1)).trans HDc.out.1; have c1 := (hy.cell (p := ⟨b1, 1, none⟩) (World.block_lt_of_cell? _ _ HDc.out.2.1)).trans HDc.out.2.1; have c2 := (hy.cell (p := ⟨b1, 2, none⟩) (World.block_lt_of_cell? _ _ HDc.out.2.2.1)).trans HDc.out.2.2.1; have c3 := (hy.cell (p := ⟨b1, 3, none⟩) (World.block_lt_of_cell? _ _ HDc.out.2.2.2.1)).trans HDc.out.2.2.2.1; have c4 := (hy.cell (p := ⟨b1, 4, none⟩) (World.block_lt_of_cell? _ _ HDc.out.2.2.2.2.1)).trans HDc.out.2.2.2.2.1; have c5 := (hy.cell (p := ⟨b1, 5, none⟩) (World.block_lt_of_cell? _ _ HDc.out.2.2.2.2.2.1)).trans HDc.out.2.2.2.2.2.1; have c6 := (hy.cell (p := ⟨b1, 6, none⟩) (World.block_lt_of_cell? _ _ HDc.out.2.2.2.2.2.2)).trans HDc.out.2.2.2.2.2.2; go_simp; done)⟩) hHeld ?_
 try simp only [Act.put, List.setIfInBounds_toArray, List.set_cons_zero, List.set_cons_succ]
 refine AnyE.one (i := 5) rfl (by kernel_rfl) (by kernel_rfl) (fun KK hK => ?_)
 go_simp
 go_at_call 7
 refine (hA.out _ HB.out).mono ?_
 rintro e9 w1 ⟨Bf, x0, rfl, k1, k2, k3, k4, k5, k6⟩
 have HR := Lib.hid (And.intro k1 (And.intro k2 (And.intro k3 (And.intro k4 k6))))
 have HZ := Lib.hid HB.out
 have HB := Lib.hid (HB.out.trans (k5.mono HB.out.size))
 clear k1 k2 k3 k4 k5 k6
 go_wp2_with fail
 refine hK.out _ _ ⟨fun _ => HB.out, ?_⟩
 have hHeld := HB.out
 clear hK
 try simp only [Act.put, List.setIfInBounds_toArray, List.set_cons_zero, List.set_cons_succ]
 refine AnyE.take (i := 6) ((.func (.func 25) #[] #[.pointer (some ⟨Z0.heap.size, 0, none⟩), .pointer (some ⟨Bf, 0, none⟩)])) rfl (by kernel_rfl) (by kernel_rfl) (by kernel_rfl) (by kernel_rfl) (fun _ _ _ h => h) (.inl ⟨by kernel_rfl, fun wy hy => by (go_simp; done)⟩) hHeld ?_
 try simp only [Act.put, List.setIfInBounds_toArray, List.set_cons_zero, List.set_cons_succ]
 refine AnyE.done (by kernel_rfl) (NoPanic.normal ?_) _
 exact hQ.out _ _ _ wr _ ⟨HZ.out.size, HB.out, HR.out⟩
end Go.Proofs.YtpabbnddeklpdaaGreat
