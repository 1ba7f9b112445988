import Derived.Test.YtbheifelfeekmaaK11
import Derived.Deep.CutRange
namespace Go.Proofs.Ytbheifelfeekmaa
open Go.RowKit Go.MapKept Go.Sort
set_option linter.unusedVariables false
set_option linter.unusedSimpArgs false
section
variable {P : Program} {ops : Array Oper} {Q : Exit → Act → World → Prop} {md : Region.Mode} {S : World → Prop} {E : Nat → Bool}
theorem AnyE.duo {i j : Nat} {oi oj : Oper} {fuel : Nat} {listed : Array Bool} {a : Act} {w : World} (hi : ops[i]? = some oi) (hj : ops[j]? = some oj) (hr : Region.ready md ops listed = [i, j]) (hwi : Region.wanted oi (yielded ops a.tmps) = true) (hwj : Region.wanted oj (yielded ops a.tmps) = true)
    (h1 : ∀ K : Act → World → Prop, Hid (∀ a' w', ((E i = true → S w') ∧ AnyE P md ops Q S E fuel (listed.setIfInBounds i true) a' w') → K a' w') → Oper.wp P oi a w K Q)
    (h2 : ∀ K : Act → World → Prop, Hid (∀ a' w', ((E j = true → S w') ∧ AnyE P md ops Q S E fuel (listed.setIfInBounds j true) a' w') → K a' w') → Oper.wp P oj a w K Q) : AnyE P md ops Q S E (fuel + 1) listed a w :=
  ⟨fun k => (by rw [hr] at k; cases k), fun m hm => by
    rw [hr] at hm
    rcases List.mem_cons.1 hm with rfl | hm
    · exact wpOp_step hi (fun K' hK => by rw [if_pos hwi]; exact h1 K' hK)
    · obtain rfl : m = j := by simpa using hm
      exact wpOp_step hj (fun K' hK => by rw [if_pos hwj]; exact h2 K' hK)⟩
end
variable {w w' W X X' : World} {O O' P P' : Nat → Prop} {dB bk : Nat} {d : Dk4}
def XB (X : World) (xb : Nat) (x : DidD) : Prop := X.heap[xb]? = some (.cells #[.int .i64 x.kind, .int .i64 x.file, .int .i64 x.too, .slice x.a x.n x.k] 44)
theorem XB.lt {xb : Nat} {x : DidD} (h : XB X xb x) : xb < X.heap.size := (Array.getElem?_eq_some_iff.1 h).1
theorem XB.cells {xb : Nat} {x : DidD} (h : XB X xb x) : X.cell? ⟨xb, 0, none⟩ = some (.int .i64 x.kind) ∧ X.cell? ⟨xb, 1, none⟩ = some (.int .i64 x.file) ∧ X.cell? ⟨xb, 2, none⟩ = some (.int .i64 x.too) ∧ X.cell? ⟨xb, 3, none⟩ = some (.slice x.a x.n x.k) := by
  unfold XB at h
  simp [World.cell?, h]
theorem XB.go {xb : Nat} {x : DidD} (h : XB X xb x) (g : Go4 X X' O O') (n : ¬ O xb) : XB X' xb x := (g.block xb h.lt n).trans h
theorem XB.below {xb : Nat} {x : DidD} (h : XB X xb x) (b : Below X.heap.size X X') : XB X' xb x := (b.block xb h.lt).trans h
theorem XB.setm {xb : Nat} {x : DidD} {L : BL} {es : Array MapEntry} {ck : Nat} (h : XB X xb x) (k : Bok w X O P bk L) : XB (setMap X bk es ck) xb x := by
  obtain ⟨es, ck, hm⟩ := k.map
  refine (setMap_ne (fun e => ?_)).trans h
  unfold XB at h
  rw [e, hm.blk] at h
  cases h
structure Rmd (w X : World) (O P : Nat → Prop) (dB bk xb : Nat) (d : Dk4) (L : BL) (x : DidD) : Prop where
  mad : Mad w X O dB d
  bok : Bok w X O P bk L
  xb : XB X xb x
theorem Rmd.below {xb : Nat} {L : BL} {x : DidD} (h : Rmd w X O P dB bk xb d L x) (b : Below X.heap.size X X') : Rmd w X' O P dB bk xb d L x := ⟨h.mad.later b, h.bok.below b, h.xb.below b⟩
theorem Rmd.put {xb : Nat} {L : BL} {x : DidD} (h : Rmd w X O P dB bk xb d L x) (s : ByteArray) {v : Value} {b : List Nat} {P2 : Nat → Prop} (o : OwnO X P2 v b) (hP : ∀ i, P2 i → ¬ O i ∧ w.heap.size ≤ i ∧ i < X.heap.size) :
    ∃ es ck, (Instr.mapUpdate 60 (.map (some bk)) (.string s) v).run Try.prog X = .ok () (setMap X bk es ck) ∧ Rmd w (setMap X bk es ck) O (fun i => P i ∨ P2 i) dB bk xb d (setL4 L s b v) x := by
  obtain ⟨es, ck, h1, h2⟩ := h.bok.set s o hP
  exact ⟨es, ck, h1, h.mad.setm h.bok.nob h.bok.wbk, h2, h.xb.setm h.bok⟩
theorem Rmd.del {xb : Nat} {L : BL} {x : DidD} (h : Rmd w X O P dB bk xb d L x) (s : ByteArray) :
    ∃ es ck, (∀ ty, (Builtin.delete_ #[60, 9] ty #[.map (some bk), .string s]).run Try.prog X = .ok (.tuple #[]) (setMap X bk es ck)) ∧ Rmd w (setMap X bk es ck) O P dB bk xb d (delL4 L s) x := by
  obtain ⟨es, ck, h1, h2⟩ := h.bok.del s 0
  exact ⟨es, ck, fun ty => h1, h.mad.setm h.bok.nob h.bok.wbk, h2, h.xb.setm h.bok⟩
theorem Mad.step2 {r : Int × Dk4} {e : Ending} (h : Mad w X O dB d) (k : AnsD X O dB r e X') : e = .returned (.int .i64 r.1) ∧ ∃ O2, Mad w X' O2 dB r.2 ∧ Go4 X X' O O2 := by
  obtain ⟨h1, O2, h2, h3⟩ := k
  exact ⟨h1, O2, ⟨h2, h.bel.trans (h3.below h.bel.size h.own), fun i hi => (h3.new i hi).elim (h.own i) (fun q => Nat.le_trans h.bel.size q)⟩, h3⟩
theorem OwnO.later7 {v : Value} {b : List Nat} (h : OwnO X P v b) (k : Below X.heap.size X X') : OwnO X' P v b := h.kept (fun g hg => ⟨k.block g (by obtain ⟨cur, ht⟩ := h.typ hg; exact (Array.getElem?_eq_some_iff.1 ht).1), h.blk g hg⟩)
theorem OwnO.setm {v : Value} {b : List Nat} {L : BL} {es : Array MapEntry} {ck : Nat} (h : OwnO X P v b) (k : Bok w X O P' bk L) : OwnO (setMap X bk es ck) P v b := h.kept (fun g hg => ⟨setMap_ne (k.apart h g hg), h.blk g hg⟩)
theorem totP_take (l : List PF) (u : Nat) : totP (l.take u) ≤ totP l := by
  conv => rhs; rw [← List.take_append_drop u l]
  rw [totP_append]
  omega
theorem files_tot (ok : d.Ok) : (totP (filesP d) : Int) ≤ 67108864 := by
  rw [totP_perm (filesP_perm ok.nod)]
  have := ok.tot
  have := ok.cap1
  omega
theorem OwnO.go9 {v : Value} {b : List Nat} {L : BL} (h : OwnO X P v b) (k : Bok w X O P bk L) (g : Go4 X X' O O') : OwnO X' P v b := h.kept (fun i hi => ⟨g.block i (k.nop i (h.blk i hi)).2.2 (k.nop i (h.blk i hi)).1, h.blk i hi⟩)
theorem Bok.look2 {L : BL} (h : Bok w X O P bk L) {s : ByteArray} {v : Value} (hv : atV L.kv s = some v) :
    (Instr.lookup 60 (.map (some bk)) (.string s) false).run Try.prog X = .ok v X ∧ (Instr.lookup 60 (.map (some bk)) (.string s) true).run Try.prog X = .ok (.tuple #[v, .bool true]) X := by
  obtain ⟨es, ck, hm⟩ := h.map
  have := hm.look s
  rw [hv] at this
  exact this
theorem setB4_self {f : NB} : ∀ l : List NB, f ∈ setB4 l f
  | [] => by simp [setB4]
  | x :: xs => by
    by_cases h : x.1 = f.1
    · simp [setB4, h]
    · simp [setB4, h, setB4_self xs]
theorem setB4_len {s : ByteArray} {b : List Nat} {l : List NB} (ok : d.Ok) (h : d.fs.map PF.nd = setB4 l (s, b)) : b.length ≤ 67108864 := by
  have h1 : (s, b) ∈ d.fs.map PF.nd := by rw [h]; exact setB4_self l
  obtain ⟨p, hp, e⟩ := List.mem_map.1 h1
  have h2 := totP_mem (atP_of_mem ok.nod (show (p.1, p.2) ∈ d.fs from hp))
  have h3 := ok.tot
  have h4 := ok.cap1
  have h5 : p.2.1 = b := congrArg Prod.snd e
  rw [h5] at h2
  omega
theorem bys_append {a b : List Nat} (ha : Bys a) (hb : Bys b) : Bys (a ++ b) := fun x hx => (List.mem_append.1 hx).elim (ha x) (hb x)
theorem atB4_of {p : PF} {l : List PF} (hn : (l.map (·.1)).Nodup) (h : p ∈ l) : atB4 (l.map PF.nd) p.1 = some p.2.1 := by
  rw [atP_nd, atP_of_mem hn (show (p.1, p.2) ∈ l from h)]
  rfl
theorem readD_all {p : PF} (ok : d.Ok) (hd : d.down = false) (h : p ∈ d.fs) : readD d p.1 0 (p.2.1.length : Int) = (0, p.2.1) := by
  have ha := atP_of_mem ok.nod (show (p.1, p.2) ∈ d.fs from h)
  have hr : reaE d p.1 = 0 := by
    have h1 : rdyN d.down [p.1] = 0 := by
      unfold rdyN chkN
      rw [hd, if_neg (by decide), if_pos (fun s hs => by simp at hs; subst hs; exact ok.nam p h)]
    unfold reaE
    rw [h1, ha]
    simp
  unfold readD
  rw [if_neg (by rw [hr]; decide), ha]
  simp
theorem FLs.blk {B n k g off : Nat} {l : List (PF × Value)} (h : FLs X B (.slice (some ⟨g, off, none⟩) n k) n l) : B ≤ g := by
  rcases h.row.2 with ⟨e, _⟩ | ⟨g2, cap, cur, e, h2, _⟩
  · cases e
  · simp only [Value.slice.injEq, Option.some.injEq, Addr.mk.injEq] at e
    rw [e.1.1]
    exact h2
theorem rd_row {B : Nat} {v : Value} {xs : List Nat} (h : X.ownsRow B 5 1 v xs.length (bv xs)) (hb : Bys xs) (hl : xs.length ≤ 281474976710656) : Rd X v xs := Rd.of_owns rfl h hb hl
set_option maxRecDepth 100000 in
set_option maxHeartbeats 8000000 in
theorem diskRoom_walk {aA aC : Option Addr} {nA kA nC kC : Nat} {acts : List DidD} {cuts : List Int} {n : Int} (hA : nA = acts.length) (hr : RdDid w aA kA acts) (hC : nC = cuts.length) (hc : RdI4 w (fun i => w.heap.size ≤ i) aC kC cuts) :
    Calls Try.prog 6 #[.int .i64 n, .slice aA nA kA, .slice aC nC kC] w fun e w' => e = .returned (.bool true) ∧ Below w.heap.size w w' := by
  have hax : nA ≤ 9223372036854775807 := by have := hr.cap; unfold maxLen at this; omega
  have HN := Lib.hid (And.intro hA hC)
  have HR := Lib.hid (And.intro hr hc)
  have HRM := Lib.hid (room_any n w)
  have hmm := @run_makeMap Try.prog
  clear hA hr hC hc
  go_enter Try.func6, Try.ntmps6
  go_wp2_with fail
  refine HRM.out.mono ?_
  rintro e w0 ⟨size, rfl, hs1, hs2, rfl⟩
  have HSZ := Lib.hid (And.intro hs1 hs2)
  clear hs1 hs2 HRM
  go_wp2_with fail
  refine (made_any (n := (size : Int)) (by have := HSZ.out.1; omega) (by have := HSZ.out.2; omega) _).mono ?_
  rintro e w1 ⟨O1, dB, c1, rfl, m1⟩
  have M1 := Lib.hid m1
  clear m1
  go_wp2_with fail
  refine (cap_any M1.out.dsk).mono ?_
  rintro e w1b ⟨rfl, rfl⟩
  go_upto_block 0 with fail
  have bM : Below w1b.heap.size w1b (w1b.alloc (.map #[] 0)) := (Below.refl _ _).alloc (Nat.le_refl _) _
  have mM := mpV_new w1b
  have hV : ∃ V, V = w1b.alloc (.map #[] 0) := ⟨_, rfl⟩
  obtain ⟨V, hV⟩ := hV
  have hbk : ∃ bk, bk = w1b.heap.size := ⟨_, rfl⟩
  obtain ⟨bk, hbk⟩ := hbk
  rw [← hV] at bM mM ⊢
  rw [← hbk] at mM ⊢
  have MV := Lib.hid (M1.out.later bM)
  have BV : Hid (Bok w0 V O1 (fun _ => False) bk []) := ⟨⟨_, _, mM⟩, fun x hx => (by cases hx), fun z => (by have := M1.out.dsk.lt _ z; omega), (by rw [hbk]; exact M1.out.bel.size), fun i z => z.elim⟩
  clear hV bM mM hbk hmm
  go_wp2_with fail
  go_loopw [10] (fun i wr => ∃ (t : Nat) (O P : Nat → Prop) (d : Dk4) (L : BL), t ≤ nA ∧ i = .int .i64 (t : Int) ∧ Mad w0 wr O dB d ∧ Bok w0 wr O P bk L ∧ L.map (·.1) = d.fs.map PF.nd ∧ d.cap = (size : Int) ∧ d.down = false ∧ d.arm = 0) (fun i _ => nA - (intOf i).toNat)
  case atStart => exact ⟨0, O1, _, _, [], Nat.zero_le _, rfl, MV.out, BV.out, rfl, rfl, rfl, rfl⟩
  case round =>
    clear MV BV M1
    obtain ⟨t, O, P, d, L, ht, rfl, hmad, hbok, hL, hcap, hcalm⟩ := hrel
    have HM := Lib.hid (And.intro hmad hbok)
    have HL := Lib.hid (And.intro hL hcap)
    have HCM := Lib.hid hcalm
    clear hmad hbok hL hcap hcalm
    by_cases hlt : t < nA
    · have j1 : (t : Int) < (nA : Int) := by omega
      have j2 : (0 : Int) ≤ (t : Int) := by omega
      have hx : ∃ x, acts[t]? = some x := ⟨_, List.getElem?_eq_getElem (by rw [← HN.out.1]; exact hlt)⟩
      obtain ⟨x, hx⟩ := hx
      have hcx := HR.out.1.cel t x hx
      obtain ⟨g, hcx⟩ := hcx
      obtain ⟨off, hcx⟩ := hcx
      have hag := hcx.1
      subst hag
      have lg := World.block_lt_of_cell? _ _ hcx.2.1
      simp only at lg
      have q0 := (HM.out.1.bel.cell (p := ⟨g, off + t * 4, none⟩) lg).trans hcx.2.1
      have q1 := (HM.out.1.bel.cell (p := ⟨g, off + t * 4 + 1, none⟩) lg).trans hcx.2.2.1
      have q2 := (HM.out.1.bel.cell (p := ⟨g, off + t * 4 + 2, none⟩) lg).trans hcx.2.2.2.1
      have q3 := (HM.out.1.bel.cell (p := ⟨g, off + t * 4 + 3, none⟩) lg).trans hcx.2.2.2.2
      have HDX := Lib.hid (HR.out.1.dat x (List.mem_of_getElem? hx))
      clear hcx hx
      have bZ : Below wr.heap.size wr (wr.alloc (.cells #[.int .i64 x.kind, .int .i64 x.file, .int .i64 x.too, .slice x.a x.n x.k] 44)) := (Below.refl _ _).alloc (Nat.le_refl _) _
      have cZ : XB (wr.alloc (.cells #[.int .i64 x.kind, .int .i64 x.file, .int .i64 x.too, .slice x.a x.n x.k] 44)) wr.heap.size x := heap_alloc_new _ _
      have hZ : ∃ Z, Z = wr.alloc (.cells #[.int .i64 x.kind, .int .i64 x.file, .int .i64 x.too, .slice x.a x.n x.k] 44) := ⟨_, rfl⟩
      obtain ⟨Z, hZ⟩ := hZ
      go_upto_region 10 with fail
      rw [← hZ] at bZ cZ ⊢
      have hxb : ∃ xb, xb = wr.heap.size := ⟨_, rfl⟩
      obtain ⟨xb, hxb⟩ := hxb
      rw [← hxb] at cZ ⊢
      have RZ : Hid (Rmd w0 Z O P dB bk xb d L x) := ⟨HM.out.1.later bZ, HM.out.2.below bZ, cZ⟩
      have NXB : Hid (¬ O xb) := fun z => by have := HM.out.1.dsk.lt _ z; omega
      have HACT := Lib.hid (act_any (kind := x.kind) (file := x.file) (too := x.too) RZ.out.mad.dsk (HDX.out.mad RZ.out.mad))
      have HND := Lib.hid (act_nd (kind := x.kind) (file := x.file) (too := x.too) (bs := x.bs) HCM.out)
      have hrd : ∃ rd, rd = actD d x.kind x.file x.too x.bs := ⟨_, rfl⟩
      obtain ⟨rd, hrd⟩ := hrd
      rw [← hrd] at HACT HND
      obtain ⟨re, d'⟩ := rd
      simp only at HND
      have u0 := RZ.out.xb.cells.1
      have u1 := RZ.out.xb.cells.2.1
      have u2 := RZ.out.xb.cells.2.2.1
      have u3 := RZ.out.xb.cells.2.2.2
      clear hZ bZ cZ hxb q0 q1 q2 q3 hrd
      go_wp2_with fail
      refine HACT.out.mono ?_
      intro e w5 hans
      have hst := RZ.out.mad.step2 hans
      have he := hst.1
      have hst2 := hst.2
      obtain ⟨O5, m5, g5⟩ := hst2
      subst he
      have R5 : Hid (Rmd w0 w5 O5 P dB bk xb d' L x) := ⟨m5, RZ.out.bok.go g5, RZ.out.xb.go g5 NXB.out⟩
      clear hans hst m5 g5 u0 u1 u2 u3 HACT RZ
      go_wp2_with fail
      refine (num_any _ _).mono ?_
      rintro e w5b ⟨rfl, rfl⟩
      go_upto_if 52 with fail
      go_cut [13] from 53 to 98 (fun _ wx => ∃ (P2 : Nat → Prop) (L2 : BL), Rmd w0 wx O5 P2 dB bk xb d' L2 x ∧ L2.map (·.1) = d'.fs.map PF.nd)
      case first =>
        by_cases h0 : re = 0
        · subst h0
          have u0 := R5.out.xb.cells.1
          have u1 := R5.out.xb.cells.2.1
          have u2 := R5.out.xb.cells.2.2.1
          by_cases k1 : x.kind = 1
          · have hN := HND.out.k1 rfl k1
            have HN1 := Lib.hid hN
            rw [k1] at u0
            have KK := Lib.hid k1
            clear k1
            clear hN
            go_wp2_with fail
            refine (name4_any _ _).mono ?_
            rintro e w6 ⟨rfl, b6⟩
            have hp := (R5.out.below b6).put (nameN x.file) (OwnO.nil w6 (fun _ => False)) (fun i z => z.elim)
            obtain ⟨es, ck, hrun, hR6⟩ := hp
            have R6 := Lib.hid hR6
            clear hR6 b6 u0 u1 u2
            go_wp2
            go_meet
            case rel => exact ⟨_, _, R6.out, by rw [setL4_nb, HL.out.1, HN1.out]⟩
          by_cases k2 : x.kind = 2
          · have hN := HND.out.k2 rfl k2
            obtain ⟨b0, hb0, hN⟩ := hN
            have HN1 := Lib.hid (And.intro hb0 hN)
            rw [k2] at u0
            have KK := Lib.hid k2
            clear k2
            clear hN hb0
            go_upto_region 16 with fail
            clear u0 u1 u2
            have R5b := R5
            obtain ⟨wq, hwq⟩ : ∃ wq, wq = w5b := ⟨_, rfl⟩
            rw [← hwq] at R5b ⊢
            have lxb := R5b.out.xb.lt
            have hat := atL4 (L := L) (s := nameN x.file) (b := b0) (by rw [HL.out.1]; exact HN1.out.1)
            obtain ⟨v, hv, hvm⟩ := hat
            have hvo := R5b.out.bok.dat _ hvm
            simp only at hvo
            have hlen := setB4_len R5b.out.mad.dsk.1 HN1.out.2
            rw [List.length_append] at hlen
            obtain ⟨va, vc, hvf⟩ := hvo.form
            have hn0 : ∃ n0, n0 = b0.length := ⟨_, rfl⟩
            obtain ⟨n0, hn0⟩ := hn0
            rw [← hn0] at hvf hlen
            subst hvf
            have HVO := Lib.hid hvo
            have HLEN := Lib.hid hlen
            have HN0 := Lib.hid hn0
            have HV := Lib.hid hv
            have HRDX := Lib.hid (HDX.out.1.later R5b.out.mad.bel)
            clear hv hvm hvo hlen hn0 hwq
            have BD : Below wq.heap.size wq wq.drew := (Below.refl _ _).drew
            refine wp_region_noPanic ?_
            refine wp_region_anyE (S := fun wx => Below wq.heap.size wq wx) (E := fun j => !(decide (j = 14))) (by kernel_rfl) ?_
            have hHeld : Below wq.heap.size wq wq.drew := BD
            have HB := Lib.hid BD
            have hZ0 : ∃ z, z = wq.drew := ⟨_, rfl⟩
            obtain ⟨Z0, hZ0⟩ := hZ0
            rw [← hZ0] at HB hHeld ⊢
            clear hZ0 BD
            refine AnyE.take (i := 0) (.map (some bk)) rfl (by kernel_rfl) (by kernel_rfl) (by kernel_rfl) (by kernel_rfl) (fun _ _ _ h => h) (.inl ⟨by kernel_rfl, fun wy hy => by (go_simp; done)⟩) hHeld ?_
            try simp only [Act.put, List.setIfInBounds_toArray, List.set_cons_zero, List.set_cons_succ]
            refine AnyE.take (i := 1) (.pointer (some ⟨xb, 1, none⟩)) rfl (by kernel_rfl) (by kernel_rfl) (by kernel_rfl) (by kernel_rfl) (fun _ _ _ h => h) (.inl ⟨by kernel_rfl, fun wy hy => by (go_simp; done)⟩) hHeld ?_
            try simp only [Act.put, List.setIfInBounds_toArray, List.set_cons_zero, List.set_cons_succ]
            refine AnyE.take (i := 2) (.int .i64 x.file) rfl (by kernel_rfl) (by kernel_rfl) (by kernel_rfl) (by kernel_rfl) (fun _ _ _ h => h) (.inl ⟨by kernel_rfl, fun wy hy => by (have q0 := (hy.cell (p := ⟨xb, 1, none⟩) lxb).trans R5b.out.xb.cells.2.1; go_simp; done)⟩) hHeld ?_
            try simp only [Act.put, List.setIfInBounds_toArray, List.set_cons_zero, List.set_cons_succ]
            refine AnyE.take (i := 5) (.map (some bk)) rfl (by kernel_rfl) (by kernel_rfl) (by kernel_rfl) (by kernel_rfl) (fun _ _ _ h => h) (.inl ⟨by kernel_rfl, fun wy hy => by (go_simp; done)⟩) hHeld ?_
            try simp only [Act.put, List.setIfInBounds_toArray, List.set_cons_zero, List.set_cons_succ]
            refine AnyE.take (i := 6) (.pointer (some ⟨xb, 1, none⟩)) rfl (by kernel_rfl) (by kernel_rfl) (by kernel_rfl) (by kernel_rfl) (fun _ _ _ h => h) (.inl ⟨by kernel_rfl, fun wy hy => by (go_simp; done)⟩) hHeld ?_
            try simp only [Act.put, List.setIfInBounds_toArray, List.set_cons_zero, List.set_cons_succ]
            refine AnyE.take (i := 7) (.int .i64 x.file) rfl (by kernel_rfl) (by kernel_rfl) (by kernel_rfl) (by kernel_rfl) (fun _ _ _ h => h) (.inl ⟨by kernel_rfl, fun wy hy => by (have q0 := (hy.cell (p := ⟨xb, 1, none⟩) lxb).trans R5b.out.xb.cells.2.1; go_simp; done)⟩) hHeld ?_
            try simp only [Act.put, List.setIfInBounds_toArray, List.set_cons_zero, List.set_cons_succ]
            refine AnyE.take (i := 11) (.pointer (some ⟨xb, 3, none⟩)) rfl (by kernel_rfl) (by kernel_rfl) (by kernel_rfl) (by kernel_rfl) (fun _ _ _ h => h) (.inl ⟨by kernel_rfl, fun wy hy => by (go_simp; done)⟩) hHeld ?_
            try simp only [Act.put, List.setIfInBounds_toArray, List.set_cons_zero, List.set_cons_succ]
            refine AnyE.take (i := 12) (.slice x.a x.n x.k) rfl (by kernel_rfl) (by kernel_rfl) (by kernel_rfl) (by kernel_rfl) (fun _ _ _ h => h) (.inl ⟨by kernel_rfl, fun wy hy => by (have q0 := (hy.cell (p := ⟨xb, 3, none⟩) lxb).trans R5b.out.xb.cells.2.2.2; go_simp; done)⟩) hHeld ?_
            try simp only [Act.put, List.setIfInBounds_toArray, List.set_cons_zero, List.set_cons_succ]
            refine AnyE.duo (i := 3) (j := 4) rfl rfl (by kernel_rfl) (by kernel_rfl) (by kernel_rfl) (fun KK hK => ?_) (fun KK hK => ?_)
            · go_simp
              go_at_call 28
              refine (name4_any _ _).mono ?_
              rintro e9 Z1 ⟨rfl, b1⟩
              have HB := Lib.hid (HB.out.trans (b1.mono HB.out.size))
              clear b1
              go_wp2_with fail
              refine hK.out _ _ ⟨fun _ => HB.out, ?_⟩
              have hHeld := HB.out
              clear hK
              try simp only [Act.put, List.setIfInBounds_toArray, List.set_cons_zero, List.set_cons_succ]
              refine AnyE.duo (i := 4) (j := 8) rfl rfl (by kernel_rfl) (by kernel_rfl) (by kernel_rfl) (fun KK hK => ?_) (fun KK hK => ?_)
              · go_simp
                have hzb : ∃ zb, zb = Z1.heap.size := ⟨_, rfl⟩
                obtain ⟨zb, hzb⟩ := hzb
                have hV : ∃ z, z = Z1.alloc (.cells #[] 5) := ⟨_, rfl⟩
                obtain ⟨Z2, hV⟩ := hV
                have b1 : Below Z1.heap.size Z1 Z2 := by rw [hV]; exact (Below.refl _ _).alloc (Nat.le_refl _) _
                have HE : Hid (Own Z2 wq.heap.size (.slice (some ⟨zb, 0, none⟩) 0 0) 0 []) := by rw [hV, hzb]; exact ⟨rfl, World.ownsRow_made Z1 #[] 0 HB.out.size (Nat.zero_le _) rfl⟩
                have HZB : Hid (wq.heap.size ≤ zb) := by rw [hzb]; exact HB.out.size
                have HB := Lib.hid (HB.out.trans (b1.mono HB.out.size))
                rw [← hV, ← hzb]
                clear b1 hV hzb
                refine hK.out _ _ ⟨fun _ => HB.out, ?_⟩
                have hHeld := HB.out
                clear hK
                try simp only [Act.put, List.setIfInBounds_toArray, List.set_cons_zero, List.set_cons_succ]
                refine AnyE.one (i := 8) rfl (by kernel_rfl) (by kernel_rfl) (fun KK hK => ?_)
                go_simp
                go_at_call 28
                refine (name4_any _ _).mono ?_
                rintro e9 Z3 ⟨rfl, b1⟩
                have HE := Lib.hid (HE.out.later b1)
                have HB := Lib.hid (HB.out.trans (b1.mono HB.out.size))
                clear b1
                go_wp2_with fail
                refine hK.out _ _ ⟨fun _ => HB.out, ?_⟩
                have hHeld := HB.out
                clear hK
                try simp only [Act.put, List.setIfInBounds_toArray, List.set_cons_zero, List.set_cons_succ]
                refine AnyE.take (i := 9) (.slice va n0 vc) rfl (by kernel_rfl) (by kernel_rfl) (by kernel_rfl) (by kernel_rfl) (fun _ _ _ h => h) (.inl ⟨by kernel_rfl, fun wy hy => by (have q0 := ((R5b.out.bok.below hy).look2 HV.out).1; go_simp; done)⟩) hHeld ?_
                try simp only [Act.put, List.setIfInBounds_toArray, List.set_cons_zero, List.set_cons_succ]
                refine AnyE.one (i := 10) rfl (by kernel_rfl) (by kernel_rfl) (fun KK hK => ?_)
                refine dstep_append _ _ rfl (B := wq.heap.size) (n := 0) (v := .slice (some ⟨zb, 0, none⟩) 0 0) (src := .slice va n0 vc) (xs := []) (bs := b0) rfl HE.out rfl ((HVO.out.later7 HB.out).rd (by have := HLEN.out; have := HN0.out; omega)) (by have := HLEN.out; have := HN0.out; omega) HB.out.size (fun a3 k3 X3 own3 gr3 lo3 => ?_)
                rw [Nat.zero_add, ← HN0.out] at own3 ⊢
                rw [List.nil_append] at own3
                have HB := Lib.hid (HB.out.grown gr3 HB.out.size (fun k hk => by have := HZB.out; simp [Value.ownBlock] at hk; omega))
                have HE3 := Lib.hid own3
                clear own3 gr3 lo3 hHeld
                refine hK.out _ _ ⟨fun _ => HB.out, ?_⟩
                have hHeld := HB.out
                clear hK
                try simp only [Act.put, List.setIfInBounds_toArray, List.set_cons_zero, List.set_cons_succ]
                refine AnyE.one (i := 13) rfl (by kernel_rfl) (by kernel_rfl) (fun KK hK => ?_)
                refine dstep_append _ _ rfl (B := wq.heap.size) (n := n0) (v := .slice a3 n0 k3) (src := .slice x.a x.n x.k) (xs := b0) (bs := x.bs) rfl HE3.out rfl (HRDX.out.later HB.out) (by have := HLEN.out; omega) HB.out.size (fun a4 k4 X4 own4 gr4 lo4 => ?_)
                have HB := Lib.hid (HB.out.grown gr4 HB.out.size (fun k hk => (HE3.out.2.lt k hk).1))
                have hn4 : ∃ n4, n4 = n0 + x.bs.length := ⟨_, rfl⟩
                obtain ⟨n4, hn4⟩ := hn4
                rw [← hn4] at own4 ⊢
                have HN4 := Lib.hid hn4
                clear hn4
                have o4 : OwnO X4 (fun i => wq.heap.size ≤ i ∧ i < X4.heap.size) (.slice a4 n4 k4) (b0 ++ x.bs) := OwnO.of_row own4.own (bys_append HVO.out.bys HRDX.out.1)
                have hp := (R5b.out.below HB.out).put (nameN x.file) o4 (fun i hi => ⟨fun z => by have := R5b.out.mad.dsk.lt i z; omega, Nat.le_trans R5b.out.mad.bel.size hi.1, hi.2⟩)
                obtain ⟨es, ck, hrun, hR6⟩ := hp
                have R6 := Lib.hid hR6
                clear own4 gr4 lo4 hHeld o4 hR6
                refine hK.out _ _ ⟨fun _ => HB.out, ?_⟩
                have hHeld := HB.out
                clear hK
                try simp only [Act.put, List.setIfInBounds_toArray, List.set_cons_zero, List.set_cons_succ]
                refine AnyE.one (i := 14) rfl (by kernel_rfl) (by kernel_rfl) (fun KK hK => ?_)
                go_simp
                refine hK.out _ _ ⟨fun h => (by cases h), ?_⟩
                clear hK
                try simp only [Act.put, List.setIfInBounds_toArray, List.set_cons_zero, List.set_cons_succ]
                refine AnyE.done (by kernel_rfl) (NoPanic.normal ?_) _
                obtain ⟨Z9, hZ9⟩ : ∃ z, z = setMap X4 bk es ck := ⟨_, rfl⟩
                rw [← hZ9] at R6 ⊢
                clear hrun hZ9 hHeld
                go_simp
                go_step
                go_wp2
                go_meet
                case rel => exact ⟨_, _, R6.out, by rw [setL4_nb, HL.out.1, HN1.out.2]⟩
              · go_simp
                go_at_call 28
                refine (name4_any _ _).mono ?_
                rintro e9 Z2 ⟨rfl, b1⟩
                have HB := Lib.hid (HB.out.trans (b1.mono HB.out.size))
                clear b1
                go_wp2_with fail
                refine hK.out _ _ ⟨fun _ => HB.out, ?_⟩
                have hHeld := HB.out
                clear hK
                try simp only [Act.put, List.setIfInBounds_toArray, List.set_cons_zero, List.set_cons_succ]
                refine AnyE.take (i := 9) (.slice va n0 vc) rfl (by kernel_rfl) (by kernel_rfl) (by kernel_rfl) (by kernel_rfl) (fun _ _ _ h => h) (.inl ⟨by kernel_rfl, fun wy hy => by (have q0 := ((R5b.out.bok.below hy).look2 HV.out).1; go_simp; done)⟩) hHeld ?_
                try simp only [Act.put, List.setIfInBounds_toArray, List.set_cons_zero, List.set_cons_succ]
                refine AnyE.one (i := 4) rfl (by kernel_rfl) (by kernel_rfl) (fun KK hK => ?_)
                go_simp
                have hzb : ∃ zb, zb = Z2.heap.size := ⟨_, rfl⟩
                obtain ⟨zb, hzb⟩ := hzb
                have hV : ∃ z, z = Z2.alloc (.cells #[] 5) := ⟨_, rfl⟩
                obtain ⟨Z3, hV⟩ := hV
                have b1 : Below Z2.heap.size Z2 Z3 := by rw [hV]; exact (Below.refl _ _).alloc (Nat.le_refl _) _
                have HE : Hid (Own Z3 wq.heap.size (.slice (some ⟨zb, 0, none⟩) 0 0) 0 []) := by rw [hV, hzb]; exact ⟨rfl, World.ownsRow_made Z2 #[] 0 HB.out.size (Nat.zero_le _) rfl⟩
                have HZB : Hid (wq.heap.size ≤ zb) := by rw [hzb]; exact HB.out.size
                have HB := Lib.hid (HB.out.trans (b1.mono HB.out.size))
                rw [← hV, ← hzb]
                clear b1 hV hzb
                refine hK.out _ _ ⟨fun _ => HB.out, ?_⟩
                have hHeld := HB.out
                clear hK
                try simp only [Act.put, List.setIfInBounds_toArray, List.set_cons_zero, List.set_cons_succ]
                refine AnyE.one (i := 10) rfl (by kernel_rfl) (by kernel_rfl) (fun KK hK => ?_)
                refine dstep_append _ _ rfl (B := wq.heap.size) (n := 0) (v := .slice (some ⟨zb, 0, none⟩) 0 0) (src := .slice va n0 vc) (xs := []) (bs := b0) rfl HE.out rfl ((HVO.out.later7 HB.out).rd (by have := HLEN.out; have := HN0.out; omega)) (by have := HLEN.out; have := HN0.out; omega) HB.out.size (fun a3 k3 X3 own3 gr3 lo3 => ?_)
                rw [Nat.zero_add, ← HN0.out] at own3 ⊢
                rw [List.nil_append] at own3
                have HB := Lib.hid (HB.out.grown gr3 HB.out.size (fun k hk => by have := HZB.out; simp [Value.ownBlock] at hk; omega))
                have HE3 := Lib.hid own3
                clear own3 gr3 lo3 hHeld
                refine hK.out _ _ ⟨fun _ => HB.out, ?_⟩
                have hHeld := HB.out
                clear hK
                try simp only [Act.put, List.setIfInBounds_toArray, List.set_cons_zero, List.set_cons_succ]
                refine AnyE.one (i := 13) rfl (by kernel_rfl) (by kernel_rfl) (fun KK hK => ?_)
                refine dstep_append _ _ rfl (B := wq.heap.size) (n := n0) (v := .slice a3 n0 k3) (src := .slice x.a x.n x.k) (xs := b0) (bs := x.bs) rfl HE3.out rfl (HRDX.out.later HB.out) (by have := HLEN.out; omega) HB.out.size (fun a4 k4 X4 own4 gr4 lo4 => ?_)
                have HB := Lib.hid (HB.out.grown gr4 HB.out.size (fun k hk => (HE3.out.2.lt k hk).1))
                have hn4 : ∃ n4, n4 = n0 + x.bs.length := ⟨_, rfl⟩
                obtain ⟨n4, hn4⟩ := hn4
                rw [← hn4] at own4 ⊢
                have HN4 := Lib.hid hn4
                clear hn4
                have o4 : OwnO X4 (fun i => wq.heap.size ≤ i ∧ i < X4.heap.size) (.slice a4 n4 k4) (b0 ++ x.bs) := OwnO.of_row own4.own (bys_append HVO.out.bys HRDX.out.1)
                have hp := (R5b.out.below HB.out).put (nameN x.file) o4 (fun i hi => ⟨fun z => by have := R5b.out.mad.dsk.lt i z; omega, Nat.le_trans R5b.out.mad.bel.size hi.1, hi.2⟩)
                obtain ⟨es, ck, hrun, hR6⟩ := hp
                have R6 := Lib.hid hR6
                clear own4 gr4 lo4 hHeld o4 hR6
                refine hK.out _ _ ⟨fun _ => HB.out, ?_⟩
                have hHeld := HB.out
                clear hK
                try simp only [Act.put, List.setIfInBounds_toArray, List.set_cons_zero, List.set_cons_succ]
                refine AnyE.one (i := 14) rfl (by kernel_rfl) (by kernel_rfl) (fun KK hK => ?_)
                go_simp
                refine hK.out _ _ ⟨fun h => (by cases h), ?_⟩
                clear hK
                try simp only [Act.put, List.setIfInBounds_toArray, List.set_cons_zero, List.set_cons_succ]
                refine AnyE.done (by kernel_rfl) (NoPanic.normal ?_) _
                obtain ⟨Z9, hZ9⟩ : ∃ z, z = setMap X4 bk es ck := ⟨_, rfl⟩
                rw [← hZ9] at R6 ⊢
                clear hrun hZ9 hHeld
                go_simp
                go_step
                go_wp2
                go_meet
                case rel => exact ⟨_, _, R6.out, by rw [setL4_nb, HL.out.1, HN1.out.2]⟩
            · go_simp
              have hzb : ∃ zb, zb = Z0.heap.size := ⟨_, rfl⟩
              obtain ⟨zb, hzb⟩ := hzb
              have hV : ∃ z, z = Z0.alloc (.cells #[] 5) := ⟨_, rfl⟩
              obtain ⟨Z1, hV⟩ := hV
              have b1 : Below Z0.heap.size Z0 Z1 := by rw [hV]; exact (Below.refl _ _).alloc (Nat.le_refl _) _
              have HE : Hid (Own Z1 wq.heap.size (.slice (some ⟨zb, 0, none⟩) 0 0) 0 []) := by rw [hV, hzb]; exact ⟨rfl, World.ownsRow_made Z0 #[] 0 HB.out.size (Nat.zero_le _) rfl⟩
              have HZB : Hid (wq.heap.size ≤ zb) := by rw [hzb]; exact HB.out.size
              have HB := Lib.hid (HB.out.trans (b1.mono HB.out.size))
              rw [← hV, ← hzb]
              clear b1 hV hzb
              refine hK.out _ _ ⟨fun _ => HB.out, ?_⟩
              have hHeld := HB.out
              clear hK
              try simp only [Act.put, List.setIfInBounds_toArray, List.set_cons_zero, List.set_cons_succ]
              refine AnyE.one (i := 3) rfl (by kernel_rfl) (by kernel_rfl) (fun KK hK => ?_)
              go_simp
              go_at_call 28
              refine (name4_any _ _).mono ?_
              rintro e9 Z2 ⟨rfl, b1⟩
              have HE := Lib.hid (HE.out.later b1)
              have HB := Lib.hid (HB.out.trans (b1.mono HB.out.size))
              clear b1
              go_wp2_with fail
              refine hK.out _ _ ⟨fun _ => HB.out, ?_⟩
              have hHeld := HB.out
              clear hK
              try simp only [Act.put, List.setIfInBounds_toArray, List.set_cons_zero, List.set_cons_succ]
              refine AnyE.one (i := 8) rfl (by kernel_rfl) (by kernel_rfl) (fun KK hK => ?_)
              go_simp
              go_at_call 28
              refine (name4_any _ _).mono ?_
              rintro e9 Z3 ⟨rfl, b1⟩
              have HE := Lib.hid (HE.out.later b1)
              have HB := Lib.hid (HB.out.trans (b1.mono HB.out.size))
              clear b1
              go_wp2_with fail
              refine hK.out _ _ ⟨fun _ => HB.out, ?_⟩
              have hHeld := HB.out
              clear hK
              try simp only [Act.put, List.setIfInBounds_toArray, List.set_cons_zero, List.set_cons_succ]
              refine AnyE.take (i := 9) (.slice va n0 vc) rfl (by kernel_rfl) (by kernel_rfl) (by kernel_rfl) (by kernel_rfl) (fun _ _ _ h => h) (.inl ⟨by kernel_rfl, fun wy hy => by (have q0 := ((R5b.out.bok.below hy).look2 HV.out).1; go_simp; done)⟩) hHeld ?_
              try simp only [Act.put, List.setIfInBounds_toArray, List.set_cons_zero, List.set_cons_succ]
              refine AnyE.one (i := 10) rfl (by kernel_rfl) (by kernel_rfl) (fun KK hK => ?_)
              refine dstep_append _ _ rfl (B := wq.heap.size) (n := 0) (v := .slice (some ⟨zb, 0, none⟩) 0 0) (src := .slice va n0 vc) (xs := []) (bs := b0) rfl HE.out rfl ((HVO.out.later7 HB.out).rd (by have := HLEN.out; have := HN0.out; omega)) (by have := HLEN.out; have := HN0.out; omega) HB.out.size (fun a3 k3 X3 own3 gr3 lo3 => ?_)
              rw [Nat.zero_add, ← HN0.out] at own3 ⊢
              rw [List.nil_append] at own3
              have HB := Lib.hid (HB.out.grown gr3 HB.out.size (fun k hk => by have := HZB.out; simp [Value.ownBlock] at hk; omega))
              have HE3 := Lib.hid own3
              clear own3 gr3 lo3 hHeld
              refine hK.out _ _ ⟨fun _ => HB.out, ?_⟩
              have hHeld := HB.out
              clear hK
              try simp only [Act.put, List.setIfInBounds_toArray, List.set_cons_zero, List.set_cons_succ]
              refine AnyE.one (i := 13) rfl (by kernel_rfl) (by kernel_rfl) (fun KK hK => ?_)
              refine dstep_append _ _ rfl (B := wq.heap.size) (n := n0) (v := .slice a3 n0 k3) (src := .slice x.a x.n x.k) (xs := b0) (bs := x.bs) rfl HE3.out rfl (HRDX.out.later HB.out) (by have := HLEN.out; omega) HB.out.size (fun a4 k4 X4 own4 gr4 lo4 => ?_)
              have HB := Lib.hid (HB.out.grown gr4 HB.out.size (fun k hk => (HE3.out.2.lt k hk).1))
              have hn4 : ∃ n4, n4 = n0 + x.bs.length := ⟨_, rfl⟩
              obtain ⟨n4, hn4⟩ := hn4
              rw [← hn4] at own4 ⊢
              have HN4 := Lib.hid hn4
              clear hn4
              have o4 : OwnO X4 (fun i => wq.heap.size ≤ i ∧ i < X4.heap.size) (.slice a4 n4 k4) (b0 ++ x.bs) := OwnO.of_row own4.own (bys_append HVO.out.bys HRDX.out.1)
              have hp := (R5b.out.below HB.out).put (nameN x.file) o4 (fun i hi => ⟨fun z => by have := R5b.out.mad.dsk.lt i z; omega, Nat.le_trans R5b.out.mad.bel.size hi.1, hi.2⟩)
              obtain ⟨es, ck, hrun, hR6⟩ := hp
              have R6 := Lib.hid hR6
              clear own4 gr4 lo4 hHeld o4 hR6
              refine hK.out _ _ ⟨fun _ => HB.out, ?_⟩
              have hHeld := HB.out
              clear hK
              try simp only [Act.put, List.setIfInBounds_toArray, List.set_cons_zero, List.set_cons_succ]
              refine AnyE.one (i := 14) rfl (by kernel_rfl) (by kernel_rfl) (fun KK hK => ?_)
              go_simp
              refine hK.out _ _ ⟨fun h => (by cases h), ?_⟩
              clear hK
              try simp only [Act.put, List.setIfInBounds_toArray, List.set_cons_zero, List.set_cons_succ]
              refine AnyE.done (by kernel_rfl) (NoPanic.normal ?_) _
              obtain ⟨Z9, hZ9⟩ : ∃ z, z = setMap X4 bk es ck := ⟨_, rfl⟩
              rw [← hZ9] at R6 ⊢
              clear hrun hZ9 hHeld
              go_simp
              go_step
              go_wp2
              go_meet
              case rel => exact ⟨_, _, R6.out, by rw [setL4_nb, HL.out.1, HN1.out.2]⟩
          by_cases k4 : x.kind = 4
          · have hN := HND.out.k4 rfl k4
            obtain ⟨b0, hb0, hN⟩ := hN
            have HN1 := Lib.hid (And.intro hb0 hN)
            rw [k4] at u0
            have KK := Lib.hid k4
            clear k4
            clear hN hb0
            go_wp2_with fail
            refine (name4_any _ _).mono ?_
            rintro e w6 ⟨rfl, b6⟩
            have R6 := Lib.hid (R5.out.below b6)
            have hlk := R6.out.bok.look (s := nameN x.file) (b := b0) (by rw [HL.out.1]; exact HN1.out.1)
            obtain ⟨v, hv1, _, hvo⟩ := hlk
            have HVO := Lib.hid hvo
            have u0 := R6.out.xb.cells.1
            have u1 := R6.out.xb.cells.2.1
            have u2 := R6.out.xb.cells.2.2.1
            clear hvo b6
            go_wp2_with fail
            refine (name4_any _ _).mono ?_
            rintro e w7 ⟨rfl, b7⟩
            have R7 := Lib.hid (R6.out.below b7)
            have HV7 := Lib.hid (HVO.out.later7 b7)
            have hd := R7.out.del (nameN x.file)
            obtain ⟨es, ck, hrun, hR8⟩ := hd
            have HV8 := Lib.hid (HV7.out.setm (es := es) (ck := ck) R7.out.bok)
            have R8 := Lib.hid hR8
            have u2 := R8.out.xb.cells.2.2.1
            clear hR8 b7 u0 u1 hv1
            go_wp2_with fail
            clear u2
            obtain ⟨w8, hw8⟩ : ∃ z, z = setMap w7 bk es ck := ⟨_, rfl⟩
            rw [← hw8] at R8 HV8 ⊢
            clear hrun hw8
            refine (name4_any _ _).mono ?_
            rintro e w9 ⟨rfl, b9⟩
            have R9 := Lib.hid (R8.out.below b9)
            have HV9 := Lib.hid (HV8.out.later7 b9)
            have hp := R9.out.put (nameN x.too) HV9.out (fun i z => R9.out.bok.nop i z)
            obtain ⟨es2, ck2, hrun2, hR10⟩ := hp
            have R10 := Lib.hid hR10
            clear hR10 b9
            go_wp2
            go_meet
            case rel => exact ⟨_, _, R10.out, by rw [setL4_nb, delL4_nb, HL.out.1, HN1.out.2]⟩
          by_cases k5 : x.kind = 5
          · have hN := HND.out.k5 rfl k5
            have HN1 := Lib.hid hN
            rw [k5] at u0
            have KK := Lib.hid k5
            clear k5
            clear hN
            go_wp2_with fail
            refine (name4_any _ _).mono ?_
            rintro e w6 ⟨rfl, b6⟩
            have hp := (R5.out.below b6).del (nameN x.file)
            obtain ⟨es, ck, hrun, hR6⟩ := hp
            have R6 := Lib.hid hR6
            clear hR6 b6 u0 u1 u2
            go_wp2
            go_meet
            case rel => exact ⟨_, _, R6.out, by rw [delL4_nb, HL.out.1, HN1.out]⟩
          have hN := HND.out.ko rfl k1 k2 k4 k5
          have HN1 := Lib.hid hN
          clear hN
          go_wp2
          go_meet
          case rel => exact ⟨_, _, R5.out, by rw [HL.out.1, HN1.out]⟩
        · have hN := HND.out.bad h0
          have HN1 := Lib.hid hN
          clear hN
          go_wp2
          go_meet
          case rel => exact ⟨_, _, R5.out, by rw [HL.out.1, HN1.out]⟩
      case rest =>
        obtain ⟨P2, L2, hR2, hL2⟩ := hcut
        have R7 := Lib.hid hR2
        have HL2 := Lib.hid hL2
        have HCAP := Lib.hid (HND.out.cap.trans HL.out.2)
        have HCALM := Lib.hid HND.out.calm
        clear hR2 hL2 R5 HND HL HCM HM
        go_wp2_with fail
        refine (files_any R7.out.mad.dsk).mono ?_
        rintro e w6 ⟨a1, n1, k1, l1, rfl, f1, hl1, b6⟩
        have M6 := Lib.hid (R7.out.mad.later b6)
        have B6 := Lib.hid (R7.out.bok.below b6)
        have HF1 := Lib.hid (And.intro f1 hl1)
        have HLT := Lib.hid (fun i (hi : O5 i) => R7.out.mad.dsk.lt i hi)
        clear f1 hl1 b6
        go_wp2_with fail
        refine (free_dsk M6.out.dsk).mono ?_
        rintro e w7 ⟨rfl, b7⟩
        have M7 := Lib.hid (M6.out.later b7)
        have B7 := Lib.hid (B6.out.below b7)
        have F7 := Lib.hid (HF1.out.1.later b7)
        have HFL := Lib.hid HF1.out.2
        have hn1 := HF1.out.1.len
        have hn256 := (HF1.out.1.rdF HF1.out.2 M6.out.dsk.1).2.2.1
        have HN1 := Lib.hid hn1
        have hfr : ∃ fr, fr = d'.cap - (totP d'.fs : Int) := ⟨_, rfl⟩
        obtain ⟨fr, hfr⟩ := hfr
        rw [← hfr]
        have hf0 : 0 ≤ fr ∧ fr ≤ 67108864 := by have := M7.out.dsk.1.tot; have := M7.out.dsk.1.cap1; omega
        have HFR := Lib.hid (And.intro hfr hf0)
        clear hfr hf0 b7 hn1 M6 B6 HF1 R7
        go_wp2_with fail
        go_loopw [15, 16] (fun s i wx => ∃ (u : Nat) (d2 : Dk4), u ≤ n1 ∧ i = .int .i64 (u : Int) ∧ s = .int .i64 (fr + (totP ((filesP d').take u) : Int)) ∧ Mad w0 wx O5 dB d2 ∧ Bok w0 wx O5 P2 bk L2 ∧ FLs wx wc.heap.size (.slice a1 n1 k1) n1 l1 ∧ d2.fs = d'.fs ∧ d2.cap = d'.cap ∧ d2.down = false ∧ d2.arm = 0) (fun _ i _ => n1 - (intOf i).toNat)
        case atStart => exact ⟨0, d', Nat.zero_le _, rfl, by simp [totP], M7.out, B7.out, F7.out, rfl, rfl, HCALM.out.1, HCALM.out.2⟩
        case round =>
          clear M7 B7 F7
          obtain ⟨u, d2, hu, rfl, rfl, hm, hb, hf, hfs, hcp, hdn, har⟩ := hrel
          have HM := Lib.hid (And.intro hm (And.intro hb hf))
          have HD2 := Lib.hid (And.intro hfs (And.intro hcp (And.intro hdn har)))
          clear hm hb hf hfs hcp hdn har
          by_cases hlu : u < n1
          · have k2 : (u : Int) < (n1 : Int) := by omega
            have k3 : (0 : Int) ≤ (u : Int) := by omega
            have hx : ∃ y, l1[u]? = some y := ⟨_, List.getElem?_eq_getElem (by rw [← HN1.out]; exact hlu)⟩
            obtain ⟨y, hx⟩ := hx
            have hr4 := HM.out.2.2.rdF (d := d2) (by rw [HFL.out]; exact (filesP_eq HD2.out.1).symm) HM.out.1.dsk.1
            have hcx := hr4.2.1.cel u y hx
            obtain ⟨g, hcx⟩ := hcx
            obtain ⟨off, hcx⟩ := hcx
            have hag := hcx.1
            subst hag
            have lg := World.block_lt_of_cell? _ _ hcx.2.1
            simp only at lg
            have hgB := HM.out.2.2.blk
            have GN : Hid (¬ O5 g) := fun z => by have := HLT.out g z; omega
            have hdx := hr4.2.1.dat y (List.mem_of_getElem? hx)
            obtain ⟨ay, hdx⟩ := hdx
            obtain ⟨cy, hdx⟩ := hdx
            have hsm := hr4.2.2.2 y (List.mem_of_getElem? hx)
            have hyf : y.1 ∈ d2.fs := by
              have h1 : y.1 ∈ filesP d' := by rw [← HFL.out]; exact List.mem_map.2 ⟨_, List.mem_of_getElem? hx, rfl⟩
              rw [← filesP_eq HD2.out.1] at h1
              exact (filesP_perm HM.out.1.dsk.1.nod).mem_iff.1 h1
            have hrd := readD_all HM.out.1.dsk.1 HD2.out.2.2.1 hyf
            have hat := atL4 (L := L2) (s := y.1.1) (b := y.1.2.1) (by rw [HL2.out, ← HD2.out.1]; exact atB4_of HM.out.1.dsk.1.nod hyf)
            obtain ⟨vb, hvb, hvm⟩ := hat
            have hvo := HM.out.2.1.dat _ hvm
            simp only at hvo
            obtain ⟨vba, vbc, hvf⟩ := hvo.form
            have hstep : (totP ((filesP d').take (u + 1)) : Int) = (totP ((filesP d').take u) : Int) + (y.1.2.1.length : Int) := by
              have e : (filesP d')[u]? = some y.1 := by rw [← HFL.out, List.getElem?_map, hx]; rfl
              rw [List.take_add_one, e, totP_append]
              simp [totP]
            have hbd := totP_take (filesP d') u
            have hall : (totP (filesP d') : Int) ≤ 67108864 := by rw [← filesP_eq HD2.out.1]; exact files_tot HM.out.1.dsk.1
            have hf0 := HFR.out.2
            obtain ⟨tu, htu⟩ : ∃ tu : Int, tu = (totP ((filesP d').take u) : Int) := ⟨_, rfl⟩
            rw [← htu] at hstep ⊢
            have hny : ∃ ny, ny = y.1.2.1.length := ⟨_, rfl⟩
            obtain ⟨ny, hny⟩ := hny
            have hyv := hdx.1
            rw [← hny] at hstep hyv hrd hsm hvf
            subst hvf
            have hb1 : 0 ≤ fr + tu ∧ fr + tu ≤ 200000000 := by omega
            have hcy := hcx.2.2.1
            rw [hyv] at hcy
            have C0 := Lib.hid (And.intro hcx.2.1 hcy)
            have HY := Lib.hid (And.intro hdx.2 (And.intro hvo (And.intro hrd (And.intro hny hsm))))
            have HYV := Lib.hid hyv
            have HST := Lib.hid hstep
            have HX := Lib.hid hx
            have hlk := HM.out.2.1.look2 hvb
            have hlk2 := hlk.2
            have c0 := hcx.2.1
            clear hcx hdx hx hny hbd hall hf0 hstep htu hgB hsm hrd hvo hvm hvb hr4 hyf hyv hcy hlk
            go_upto_region 29 with fail
            clear hlk2 c0
            have hg4 := Go4.of_below (O := O5) (Below.refl wr.heap.size wr).drew
            have HB := Lib.hid (Below.refl wr.heap.size wr).drew
            refine wp_region_noPanic ?_
            refine wp_region_anyE (S := fun wx => Go4 wr wx O5 O5) (E := fun j => true) (by kernel_rfl) ?_
            have hHeld : Go4 wr wr.drew O5 O5 := hg4
            have hZ0 : ∃ z, z = wr.drew := ⟨_, rfl⟩
            obtain ⟨Z0, hZ0⟩ := hZ0
            rw [← hZ0] at hHeld HB ⊢
            clear hZ0 hg4
            refine AnyE.take (i := 0) (.pointer (some ⟨dB, 0, none⟩)) rfl (by kernel_rfl) (by kernel_rfl) (by kernel_rfl) (by kernel_rfl) (fun _ _ _ h => h) (.inl ⟨by kernel_rfl, fun wy hy => by (go_simp; done)⟩) hHeld ?_
            try simp only [Act.put, List.setIfInBounds_toArray, List.set_cons_zero, List.set_cons_succ]
            refine AnyE.take (i := 1) (.slice (some ⟨g, off, none⟩) n1 k1) rfl (by kernel_rfl) (by kernel_rfl) (by kernel_rfl) (by kernel_rfl) (fun _ _ _ h => h) (.inl ⟨by kernel_rfl, fun wy hy => by (go_simp; done)⟩) hHeld ?_
            try simp only [Act.put, List.setIfInBounds_toArray, List.set_cons_zero, List.set_cons_succ]
            refine AnyE.take (i := 2) (.int .i64 (u : Int)) rfl (by kernel_rfl) (by kernel_rfl) (by kernel_rfl) (by kernel_rfl) (fun _ _ _ h => h) (.inl ⟨by kernel_rfl, fun wy hy => by (go_simp; done)⟩) hHeld ?_
            try simp only [Act.put, List.setIfInBounds_toArray, List.set_cons_zero, List.set_cons_succ]
            refine AnyE.take (i := 3) (.pointer (some ⟨g, off + u * 3, none⟩)) rfl (by kernel_rfl) (by kernel_rfl) (by kernel_rfl) (by kernel_rfl) (fun _ _ _ h => h) (.inl ⟨by kernel_rfl, fun wy hy => by (go_simp; done)⟩) hHeld ?_
            try simp only [Act.put, List.setIfInBounds_toArray, List.set_cons_zero, List.set_cons_succ]
            refine AnyE.take (i := 4) (.pointer (some ⟨g, off + u * 3, none⟩)) rfl (by kernel_rfl) (by kernel_rfl) (by kernel_rfl) (by kernel_rfl) (fun _ _ _ h => h) (.inl ⟨by kernel_rfl, fun wy hy => by (go_simp; done)⟩) hHeld ?_
            try simp only [Act.put, List.setIfInBounds_toArray, List.set_cons_zero, List.set_cons_succ]
            refine AnyE.take (i := 5) (.string y.1.1) rfl (by kernel_rfl) (by kernel_rfl) (by kernel_rfl) (by kernel_rfl) (fun _ _ _ h => h) (.inl ⟨by kernel_rfl, fun wy hy => by (have q0 := (World.cell?_of_block (a := ⟨g, off + u * 3, none⟩) (hy.block g lg GN.out)).trans C0.out.1; go_simp; done)⟩) hHeld ?_
            try simp only [Act.put, List.setIfInBounds_toArray, List.set_cons_zero, List.set_cons_succ]
            refine AnyE.take (i := 6) (.slice (some ⟨g, off, none⟩) n1 k1) rfl (by kernel_rfl) (by kernel_rfl) (by kernel_rfl) (by kernel_rfl) (fun _ _ _ h => h) (.inl ⟨by kernel_rfl, fun wy hy => by (go_simp; done)⟩) hHeld ?_
            try simp only [Act.put, List.setIfInBounds_toArray, List.set_cons_zero, List.set_cons_succ]
            refine AnyE.take (i := 7) (.int .i64 (u : Int)) rfl (by kernel_rfl) (by kernel_rfl) (by kernel_rfl) (by kernel_rfl) (fun _ _ _ h => h) (.inl ⟨by kernel_rfl, fun wy hy => by (go_simp; done)⟩) hHeld ?_
            try simp only [Act.put, List.setIfInBounds_toArray, List.set_cons_zero, List.set_cons_succ]
            refine AnyE.take (i := 8) (.pointer (some ⟨g, off + u * 3, none⟩)) rfl (by kernel_rfl) (by kernel_rfl) (by kernel_rfl) (by kernel_rfl) (fun _ _ _ h => h) (.inl ⟨by kernel_rfl, fun wy hy => by (go_simp; done)⟩) hHeld ?_
            try simp only [Act.put, List.setIfInBounds_toArray, List.set_cons_zero, List.set_cons_succ]
            refine AnyE.take (i := 9) (.pointer (some ⟨g, off + u * 3 + 1, none⟩)) rfl (by kernel_rfl) (by kernel_rfl) (by kernel_rfl) (by kernel_rfl) (fun _ _ _ h => h) (.inl ⟨by kernel_rfl, fun wy hy => by (go_simp; done)⟩) hHeld ?_
            try simp only [Act.put, List.setIfInBounds_toArray, List.set_cons_zero, List.set_cons_succ]
            refine AnyE.take (i := 10) (.slice ay ny cy) rfl (by kernel_rfl) (by kernel_rfl) (by kernel_rfl) (by kernel_rfl) (fun _ _ _ h => h) (.inl ⟨by kernel_rfl, fun wy hy => by (have q0 := (World.cell?_of_block (a := ⟨g, off + u * 3 + 1, none⟩) (hy.block g lg GN.out)).trans C0.out.2; go_simp; done)⟩) hHeld ?_
            try simp only [Act.put, List.setIfInBounds_toArray, List.set_cons_zero, List.set_cons_succ]
            refine AnyE.take (i := 11) (.int .i64 (ny : Int)) rfl (by kernel_rfl) (by kernel_rfl) (by kernel_rfl) (by kernel_rfl) (fun _ _ _ h => h) (.inl ⟨by kernel_rfl, fun wy hy => by (cases ay <;> go_simp; done)⟩) hHeld ?_
            try simp only [Act.put, List.setIfInBounds_toArray, List.set_cons_zero, List.set_cons_succ]
            refine AnyE.one (i := 12) rfl (by kernel_rfl) (by kernel_rfl) (fun KK hK => ?_)
            have M8 := Lib.hid (HM.out.1.later HB.out)
            have hrd := read_any (s := y.1.1) (x := 0) (y := (ny : Int)) M8.out.dsk (by decide) (by have := HY.out.2.2.2.2; omega)
            rw [HY.out.2.2.1] at hrd
            have HRDD := Lib.hid hrd
            clear hrd
            go_simp
            go_at_call 12
            refine HRDD.out.mono ?_
            rintro e9 Z2 ⟨rv, rfl, hrv, d9, g9⟩
            simp only at hrv
            have g10 := hHeld.trans g9
            have hfm := rd_row hrv (HY.out.2.1).bys (by have := HY.out.2.2.2.2; have := HY.out.2.2.2.1; omega)
            obtain ⟨ra, rcp, hrf⟩ := (OwnO.of_row hrv (HY.out.2.1).bys).form
            rw [← HY.out.2.2.2.1] at hrf
            subst hrf
            have HR9 := Lib.hid (And.intro hfm (And.intro d9 g10))
            clear hHeld hfm hrv d9 g9
            have hHeld := g10
            clear g10
            go_wp2_with fail
            refine hK.out _ _ ⟨fun _ => hHeld, ?_⟩
            clear hK
            try simp only [Act.put, List.setIfInBounds_toArray, List.set_cons_zero, List.set_cons_succ]
            refine AnyE.take (i := 13) (.tuple #[.slice ra ny rcp, .int .i64 0]) rfl (by kernel_rfl) (by kernel_rfl) (by kernel_rfl) (by kernel_rfl) (fun _ _ _ h => h) (.inl ⟨by kernel_rfl, fun wy hy => by (go_simp; done)⟩) hHeld ?_
            try simp only [Act.put, List.setIfInBounds_toArray, List.set_cons_zero, List.set_cons_succ]
            refine AnyE.take (i := 14) (.slice ra ny rcp) rfl (by kernel_rfl) (by kernel_rfl) (by kernel_rfl) (by kernel_rfl) (fun _ _ _ h => h) (.inl ⟨by kernel_rfl, fun wy hy => by (go_simp; done)⟩) hHeld ?_
            try simp only [Act.put, List.setIfInBounds_toArray, List.set_cons_zero, List.set_cons_succ]
            refine AnyE.take (i := 15) (.int .i64 0) rfl (by kernel_rfl) (by kernel_rfl) (by kernel_rfl) (by kernel_rfl) (fun _ _ _ h => h) (.inl ⟨by kernel_rfl, fun wy hy => by (go_simp; done)⟩) hHeld ?_
            try simp only [Act.put, List.setIfInBounds_toArray, List.set_cons_zero, List.set_cons_succ]
            refine AnyE.one (i := 16) rfl (by kernel_rfl) (by kernel_rfl) (fun KK hK => ?_)
            go_simp
            refine hK.out _ _ ⟨fun _ => hHeld, ?_⟩
            clear hK
            try simp only [Act.put, List.setIfInBounds_toArray, List.set_cons_zero, List.set_cons_succ]
            refine AnyE.one (i := 17) rfl (by kernel_rfl) (by kernel_rfl) (fun KK hK => ?_)
            go_simp
            refine hK.out _ _ ⟨fun _ => hHeld, ?_⟩
            clear hK
            try simp only [Act.put, List.setIfInBounds_toArray, List.set_cons_zero, List.set_cons_succ]
            refine AnyE.done (by kernel_rfl) (NoPanic.normal ?_) _
            obtain ⟨Z9, hZ9⟩ : ∃ z, z = Z2 := ⟨_, rfl⟩
            rw [← hZ9] at HR9 ⊢
            clear hZ9 hHeld
            go_simp
            go_step
            have M9 : Hid (Mad w0 Z9 O5 dB (d2.red true)) := HM.out.1.go HR9.out.2.1 HR9.out.2.2
            have B9 := Lib.hid (HM.out.2.1.go HR9.out.2.2)
            have F9 := Lib.hid (HM.out.2.2.go HR9.out.2.2 HLT.out)
            have RV := Lib.hid ((HY.out.2.1.go9 HM.out.2.1 HR9.out.2.2).rd (by have := HY.out.2.2.2.2; have := HY.out.2.2.2.1; omega))
            have hdy := (F9.out.rdF (d := d2) (by rw [HFL.out]; exact (filesP_eq HD2.out.1).symm) HM.out.1.dsk.1).2.1.dat y (List.mem_of_getElem? HX.out)
            obtain ⟨_, _, _, hry⟩ := hdy
            rw [HYV.out] at hry
            have RY := Lib.hid hry
            have c1 := (World.cell?_of_block (a := ⟨g, off + u * 3 + 1, none⟩) (HR9.out.2.2.block g lg GN.out)).trans C0.out.2
            clear hry
            go_wp2_with fail
            refine (num_any _ _).mono ?_
            rintro e10 Z10 ⟨rfl, rfl⟩
            go_wp2_with fail
            refine (same_any HR9.out.1 RV.out).mono ?_
            rintro e11 Z11 ⟨rfl, rfl⟩
            rw [decide_eq_true rfl]
            go_wp2_with fail
            refine (same_any RY.out RV.out).mono ?_
            rintro e12 Z12 ⟨rfl, rfl⟩
            rw [decide_eq_true rfl]
            have hsm := HY.out.2.2.2.2
            go_wp2_with fail
            go_roundw
            case rel => exact ⟨u + 1, d2.red true, by omega, by go_num, by rw [HST.out, ← Int.add_assoc], M9.out, B9.out, F9.out, HD2.out.1, HD2.out.2.1, HD2.out.2.2.1, HD2.out.2.2.2⟩
            case measure => simp [intOf]; omega
          · have k2 : (n1 : Int) ≤ (u : Int) := by omega
            have hlen : (filesP d').length = n1 := by rw [← HFL.out, List.length_map, ← HN1.out]
            have hsum : fr + (totP ((filesP d').take u) : Int) = (size : Int) := by
              rw [List.take_of_length_le (by omega), ← filesP_eq HD2.out.1, totP_perm (filesP_perm HM.out.1.dsk.1.nod), HD2.out.1, HFR.out.1, HCAP.out]
              omega
            have hbl : n1 = L2.length := by
              rw [← hlen, ← filesP_eq HD2.out.1, (filesP_perm HM.out.1.dsk.1.nod).length_eq, HD2.out.1]
              have := congrArg List.length HL2.out
              rw [List.length_map, List.length_map] at this
              exact this.symm
            have hblk := HM.out.2.1.map
            obtain ⟨es, ck, hmp⟩ := hblk
            have q3 : ∀ ty, (Builtin.len_ #[60] ty #[.map (some bk)]).run Try.prog wr = .ok (.int .i64 (n1 : Int)) wr := fun ty => by
              have h := hmp.length ty
              have e : L2.kv.length = n1 := by rw [hbl]; simp [BL.kv]
              rw [e] at h
              exact h
            rw [hsum]
            have HF0 := Lib.hid HFR.out.2
            have hff : d2.cap - (totP d2.fs : Int) = fr := by rw [HD2.out.1, HD2.out.2.1, HFR.out.1]
            have HFREE := Lib.hid (free_dsk HM.out.1.dsk)
            rw [hff] at HFREE
            have hfr0 := HFR.out.2.1
            have HBL := Lib.hid hbl
            clear hbl hlen hsum hmp hff hlu
            go_wp2_with fail
            refine HFREE.out.mono ?_
            rintro e10 Z10 ⟨rfl, b10⟩
            have HE := Lib.hid (And.intro (HM.out.1.later b10) (HM.out.2.1.below b10))
            clear b10
            go_wp2
            go_roundw
            case rel => exact ⟨t + 1, O5, P2, d2, L2, by omega, by go_num, HE.out.1, HE.out.2, by rw [HL2.out, HD2.out.1], HD2.out.2.1.trans HCAP.out, HD2.out.2.2.1, HD2.out.2.2.2⟩
            case measure => simp [intOf]; omega
    · have j1 : (nA : Int) ≤ (t : Int) := by omega
      clear hlt
      go_wp2_with fail
      refine (crash_any HM.out.1.dsk (RdI4.mad HR.out.2 HM.out.1) HN.out.2).mono ?_
      rintro e w5 ⟨rfl, O5, d5, g5⟩
      have M5 := Lib.hid (HM.out.1.go d5 g5)
      have HCAP : Hid ((crashD d cuts).2.cap = (size : Int)) := HL.out.2
      obtain ⟨d9, hd9⟩ : ∃ d9, d9 = (crashD d cuts).2 := ⟨_, rfl⟩
      obtain ⟨cn, hcn⟩ : ∃ cn : Int, cn = ((crashD d cuts).1 : Int) := ⟨_, rfl⟩
      rw [← hd9] at M5 HCAP
      rw [← hcn]
      clear d5 g5 HM HL HCM hd9 hcn
      go_wp2_with fail
      refine (files_rd M5.out.dsk).mono ?_
      rintro e w6 ⟨a1, n1, k1, l1, rfl, f1, b6, r1⟩
      have M6 := Lib.hid (M5.out.later b6)
      have HF1 := Lib.hid (And.intro f1 r1)
      clear f1 b6 r1
      go_wp2_with fail
      refine (free_dsk M6.out.dsk).mono ?_
      rintro e w7 ⟨rfl, b7⟩
      have M7 := Lib.hid (M6.out.later b7)
      have HRF := Lib.hid (HF1.out.2.2.1.later b7)
      have hn256 := HF1.out.2.2.2.1
      clear b7
      have hfr : ∃ fr, fr = d9.cap - (totP d9.fs : Int) := ⟨_, rfl⟩
      obtain ⟨fr, hfr⟩ := hfr
      rw [← hfr]
      have HFR := Lib.hid hfr
      clear hfr
      go_wp2_with fail
      go_loopw [22, 23] (fun s i wx => ∃ u : Nat, u ≤ n1 ∧ i = .int .i64 (u : Int) ∧ s = .int .i64 (fr + (totP ((l1.map (·.1)).take u) : Int)) ∧ wx = w7) (fun _ i _ => n1 - (intOf i).toNat)
      case atStart => exact ⟨0, Nat.zero_le _, rfl, by simp [totP], rfl⟩
      case round =>
        obtain ⟨u, hu, rfl, rfl, rfl⟩ := hrel
        by_cases hlu : u < n1
        · have k2 : (u : Int) < (n1 : Int) := by omega
          have k3 : (0 : Int) ≤ (u : Int) := by omega
          have hx : ∃ y, l1[u]? = some y := ⟨_, List.getElem?_eq_getElem (by rw [← HF1.out.2.1]; exact hlu)⟩
          obtain ⟨y, hx⟩ := hx
          have hcx := HRF.out.cel u y hx
          obtain ⟨g, hcx⟩ := hcx
          obtain ⟨off, hcx⟩ := hcx
          have hag := hcx.1
          subst hag
          have hdx := HRF.out.dat y (List.mem_of_getElem? hx)
          obtain ⟨ay, hdx⟩ := hdx
          obtain ⟨cy, hdx⟩ := hdx
          have hsm := HF1.out.2.2.2.2 y (List.mem_of_getElem? hx)
          have c1 := hcx.2.2.1
          rw [hdx.1] at c1
          have hny : ∃ ny, ny = y.1.2.1.length := ⟨_, rfl⟩
          obtain ⟨ny, hny⟩ := hny
          rw [← hny] at c1 hsm
          have hstep : (totP ((l1.map (·.1)).take (u + 1)) : Int) = (totP ((l1.map (·.1)).take u) : Int) + (ny : Int) := by
            have e : (l1.map (·.1))[u]? = some y.1 := by rw [List.getElem?_map, hx]; rfl
            rw [List.take_add_one, e, totP_append, hny]
            simp [totP]
          have hbd := totP_take (l1.map (·.1)) u
          have hall : (totP (l1.map (·.1)) : Int) ≤ 67108864 := by rw [HF1.out.1]; exact files_tot M7.out.dsk.1
          have hf0 : 0 ≤ fr ∧ fr ≤ 67108864 := by have := M7.out.dsk.1.tot; have := M7.out.dsk.1.cap1; have := HFR.out; omega
          obtain ⟨tu, htu⟩ : ∃ tu : Int, tu = (totP ((l1.map (·.1)).take u) : Int) := ⟨_, rfl⟩
          rw [← htu] at hstep ⊢
          have hb1 : 0 ≤ fr + tu ∧ fr + tu ≤ 200000000 := by omega
          have HST := Lib.hid hstep
          clear hcx hdx hx hny hbd hall hf0 hstep htu
          go_wp2
          go_roundw
          case rel => exact ⟨u + 1, by omega, by go_num, by rw [HST.out, ← Int.add_assoc], trivial⟩
          case measure => simp [intOf]; omega
        · have k2 : (n1 : Int) ≤ (u : Int) := by omega
          have hsum : fr + (totP ((l1.map (·.1)).take u) : Int) = (size : Int) := by
            rw [List.take_of_length_le (by rw [List.length_map, ← HF1.out.2.1]; omega), HF1.out.1, totP_perm (filesP_perm M7.out.dsk.1.nod), HFR.out, HCAP.out]
            omega
          rw [hsum]
          go_wp2
          go_ret
          exact ⟨by simp, M7.out.bel⟩
end Go.Proofs.Ytbheifelfeekmaa
