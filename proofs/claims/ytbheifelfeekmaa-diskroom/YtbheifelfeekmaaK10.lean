import Derived.Test.YtbheifelfeekmaaK09
namespace Go.Proofs.Ytbheifelfeekmaa
open Go.RowKit Go.MapKept Go.Sort
set_option linter.unusedVariables false
set_option linter.unusedSimpArgs false
variable {w w' W X : World} {O O' : Nat → Prop} {dB : Nat} {d : Dk4}
structure DidD where
  kind : Int
  file : Int
  too : Int
  a : Option Addr
  n : Nat
  k : Nat
  bs : List Nat
def DidD.act (d : Dk4) (x : DidD) : Int × Dk4 := actD d x.kind x.file x.too x.bs
structure RdDid (w : World) (a : Option Addr) (k : Nat) (xs : List DidD) : Prop where
  cap : xs.length ≤ k ∧ k ≤ maxLen
  cel : ∀ i x, xs[i]? = some x → ∃ g off, a = some ⟨g, off, none⟩ ∧ w.cell? ⟨g, off + i * 4, none⟩ = some (.int .i64 x.kind) ∧ w.cell? ⟨g, off + i * 4 + 1, none⟩ = some (.int .i64 x.file) ∧ w.cell? ⟨g, off + i * 4 + 2, none⟩ = some (.int .i64 x.too) ∧ w.cell? ⟨g, off + i * 4 + 3, none⟩ = some (.slice x.a x.n x.k)
  dat : ∀ x ∈ xs, RdA w (fun i => w.heap.size ≤ i) (.slice x.a x.n x.k) x.bs
theorem RdA.mad {v : Value} {bs : List Nat} (h : RdA w (fun i => w.heap.size ≤ i) v bs) (m : Mad w X O dB d) : RdA X O v bs := ⟨h.1.later m.bel, fun b off n c e n0 z => h.2 b off n c e n0 (m.own b z)⟩
theorem RdI4.mad {a : Option Addr} {k : Nat} {js : List Int} (h : RdI4 w (fun i => w.heap.size ≤ i) a k js) (m : Mad w X O dB d) : RdI4 X O a k js := by
  refine ⟨h.cap, fun i j hj => ?_⟩
  obtain ⟨b, off, e, hn, hc⟩ := h.cel i j hj
  exact ⟨b, off, e, fun z => hn (m.own b z), (m.bel.cell (p := ⟨b, off + i, none⟩) (World.block_lt_of_cell? _ _ hc)).trans hc⟩
theorem RdA.of_rd {v : Value} {bs : List Nat} (h : Rd w v bs) : RdA w (fun i => w.heap.size ≤ i) v bs := by
  refine ⟨h, fun b off n c hv n0 z => ?_⟩
  obtain ⟨_, a, cap, h2, _, _, _, _, h7⟩ := h
  rw [hv] at h2
  simp only [Value.slice.injEq] at h2
  obtain ⟨ha, hn, _⟩ := h2
  rcases h7 with rfl | ⟨b2, off2, h8, hc⟩
  · exact n0 hn
  · rw [h8] at ha
    simp only [Option.some.injEq, Addr.mk.injEq] at ha
    have hl := World.block_lt_of_cell? _ _ (hc 0 (by omega))
    simp only at hl
    omega
end Go.Proofs.Ytbheifelfeekmaa

namespace Go.Proofs.Ytbheifelfeekmaa
open Go.RowKit Go.MapKept Go.Sort
set_option linter.unusedVariables false
set_option linter.unusedSimpArgs false
variable {w w' W X X' : World} {O O' O1 O2 : Nat → Prop} {dB cB : Nat} {d c : Dk4}
structure Two (w X : World) (O1 O2 : Nat → Prop) (dB cB : Nat) (d c : Dk4) : Prop where
  l : Mad w X O1 dB d
  r : Mad w X O2 cB c
  ap : ∀ i, O1 i → ¬ O2 i
theorem Two.sym (h : Two w X O1 O2 dB cB d c) : Two w X O2 O1 cB dB c d := ⟨h.r, h.l, fun i a b => h.ap i b a⟩
theorem Two.later (h : Two w X O1 O2 dB cB d c) (b : Below X.heap.size X X') : Two w X' O1 O2 dB cB d c := ⟨h.l.later b, h.r.later b, h.ap⟩
theorem Two.goL {d' : Dk4} (h : Two w X O1 O2 dB cB d c) (k : Dsk X' O' dB d') (g : Go4 X X' O1 O') : Two w X' O' O2 dB cB d' c := by
  have hbel : Below w.heap.size w X' := h.l.bel.trans (g.below h.l.bel.size h.l.own)
  refine ⟨⟨k, hbel, fun i hi => (g.new i hi).elim (h.l.own i) (fun q => Nat.le_trans h.l.bel.size q)⟩, ⟨h.r.dsk.kept (fun i hi => g.block i (h.r.dsk.lt i hi) (fun z => h.ap i z hi)) g.size, hbel, h.r.own⟩, fun i hi h2 => ?_⟩
  rcases g.new i hi with z | z
  · exact h.ap i z h2
  · have := h.r.dsk.lt i h2
    omega
theorem Two.goR {c' : Dk4} (h : Two w X O1 O2 dB cB d c) (k : Dsk X' O' cB c') (g : Go4 X X' O2 O') : Two w X' O1 O' dB cB d c' := (h.sym.goL k g).sym
theorem Two.left {r : Int × Dk4} {e : Ending} (h : Two w X O1 O2 dB cB d c) (k : AnsD X O1 dB r e X') : e = .returned (.int .i64 r.1) ∧ ∃ O', Two w X' O' O2 dB cB r.2 c := by
  obtain ⟨h1, O', h2, h3⟩ := k
  exact ⟨h1, O', h.goL h2 h3⟩
theorem Two.right {r : Int × Dk4} {e : Ending} (h : Two w X O1 O2 dB cB d c) (k : AnsD X O2 cB r e X') : e = .returned (.int .i64 r.1) ∧ ∃ O', Two w X' O1 O' dB cB d r.2 ∧ Go4 X X' O2 O' := by
  obtain ⟨h1, O', h2, h3⟩ := k
  exact ⟨h1, O', h.goR h2 h3, h3⟩
theorem Two.new (h : Mad w X O1 dB d) (k : Mad X X' O2 cB c) : Two w X' O1 O2 dB cB d c := by
  refine ⟨h.later k.bel, ⟨k.dsk, h.bel.trans (k.bel.mono h.bel.size), fun i hi => Nat.le_trans h.bel.size (k.own i hi)⟩, fun i a b => ?_⟩
  have h1 := h.dsk.lt i a
  have h2 := k.own i b
  omega
theorem FLs.rdF {B n k : Nat} {a : Option Addr} {l : List (PF × Value)} {d : Dk4} (h : FLs w B (.slice a n k) n l) (hl : l.map (·.1) = filesP d) (ok : d.Ok) : n = l.length ∧ RdF4 w a k l ∧ n ≤ 256 ∧ ∀ x ∈ l, x.1.2.1.length ≤ 67108864 := by
  have hs := filesP_small ok
  have hx : ∀ x ∈ l, x.1.2.1.length ≤ 67108864 := fun x hx => hs.1 x.1 (by rw [← hl]; exact List.mem_map.2 ⟨x, hx, rfl⟩)
  have h1 := h.rd (fun x hx2 => by have := hx x hx2; omega)
  refine ⟨h1.1, h1.2, ?_, hx⟩
  have := congrArg List.length hl
  rw [List.length_map] at this
  have := hs.2
  omega
theorem reach_down {s : ByteArray} (hD : Dsk w O dB d) (hd : d.down = true) : Calls Try.prog 41 #[.pointer (some ⟨dB, 0, none⟩), .string s] w fun e w' => e = .returned (.tuple #[.pointer none, .int .i64 3]) ∧ Below w.heap.size w w' := by
  obtain ⟨ok, mb, fl, hM, hfl⟩ := hD
  obtain ⟨es, clock, hm⟩ := hM.map
  refine (reach_any hM.box hm s).mono ?_
  rintro e w' ⟨rfl, b⟩
  have : reaN d.down (fl.map (fun f => (f.nm, f.b))) s = (none, 3) := by
    unfold reaN rdyN
    rw [hd]
    rfl
  rw [this]
  exact ⟨rfl, b⟩
set_option maxRecDepth 100000 in
theorem read_down {s : ByteArray} (hD : Dsk w O dB d) (hd : d.down = true) (x y : Int) : Calls Try.prog 12 #[.pointer (some ⟨dB, 0, none⟩), .string s, .int .i64 x, .int .i64 y] w fun e w' => e = .returned (.tuple #[.slice none 0 0, .int .i64 3]) ∧ Below w.heap.size w w' := by
  have HC := Lib.hid (reach_down (s := s) hD hd)
  clear hD hd
  go_enter Try.func12, Try.ntmps12
  go_wp2_with fail
  refine HC.out.mono ?_
  rintro e w2 ⟨rfl, b⟩
  go_wp2
  go_ret2
  exact ⟨rfl, b⟩
end Go.Proofs.Ytbheifelfeekmaa

namespace Go.Proofs.Ytbheifelfeekmaa
open Go.RowKit Go.MapKept Go.Sort
set_option linter.unusedVariables false
set_option linter.unusedSimpArgs false
variable {w w' W X X' : World} {O O' O1 O2 : Nat → Prop} {dB cB : Nat} {d c : Dk4}
theorem FLs.same {B n : Nat} {v : Value} {l : List (PF × Value)} (h : FLs w B v n l) (k : ∀ i, B ≤ i → i < w.heap.size → w'.heap[i]? = w.heap[i]?) : FLs w' B v n l := by
  refine ⟨h.len, ⟨h.row.1, ?_⟩, fun x hx => (h.dat x hx).kept (fun q hq => ⟨k q ((h.dat x hx).blk q hq) ?_, (h.dat x hx).blk q hq⟩)⟩
  · rcases h.row.2 with h2 | ⟨q, cap, cur, h3, h4, h5, h6⟩
    · exact .inl h2
    · exact .inr ⟨q, cap, cur, h3, h4, by rw [k q h4 (Array.getElem?_eq_some_iff.1 h5).1]; exact h5, h6⟩
  · obtain ⟨cur, ht⟩ := (h.dat x hx).typ hq
    exact (Array.getElem?_eq_some_iff.1 ht).1
theorem files_rd (hD : Dsk w O dB d) : Calls Try.prog 22 #[.pointer (some ⟨dB, 0, none⟩)] w fun e w' => ∃ a n k l, e = .returned (.slice a n k) ∧ l.map (·.1) = filesP d ∧ Below w.heap.size w w' ∧ n = l.length ∧ RdF4 w' a k l ∧ n ≤ 256 ∧ ∀ x ∈ l, x.1.2.1.length ≤ 67108864 := by
  refine (files_any hD).mono ?_
  rintro e w' ⟨a, n, k, l, rfl, h1, h2, h3⟩
  have h4 := h1.rdF h2 hD.1
  exact ⟨a, n, k, l, rfl, h2, h3, h4.1, h4.2.1, h4.2.2.1, h4.2.2.2⟩
theorem FLs.small {B n k : Nat} {a : Option Addr} {l : List (PF × Value)} {l0 : List (PF × Value)} (h : FLs w B (.slice a n k) n l) (hl : l.map (·.1) = l0.map (·.1)) (hs : ∀ x ∈ l0, x.1.2.1.length ≤ 67108864) : n = l.length ∧ RdF4 w a k l := by
  refine h.rd (fun x hx => ?_)
  have hm : x.1 ∈ l0.map (·.1) := by rw [← hl]; exact List.mem_map.2 ⟨x, hx, rfl⟩
  obtain ⟨y, hy, e⟩ := List.mem_map.1 hm
  have := hs y hy
  rw [← e]
  omega
structure Idle (w X : World) (O : Nat → Prop) (dB : Nat) (d : Dk4) (A B : Nat) (S : World) : Prop where
  mad : Mad w X O dB d
  fr : ∀ i, A ≤ i → i < B → X.heap[i]? = S.heap[i]?
  own : ∀ i, O i → i < A ∨ B ≤ i
  size : B ≤ X.heap.size
theorem Idle.later {A B : Nat} {S : World} (h : Idle w X O dB d A B S) (b : Below X.heap.size X X') : Idle w X' O dB d A B S :=
  ⟨h.mad.later b, fun i h1 h2 => (b.block i (Nat.lt_of_lt_of_le h2 h.size)).trans (h.fr i h1 h2), h.own, Nat.le_trans h.size b.size⟩
theorem Idle.step {A B : Nat} {S : World} {r : Int × Dk4} {e : Ending} (h : Idle w X O dB d A B S) (k : AnsD X O dB r e X') : e = .returned (.int .i64 r.1) ∧ ∃ O', Idle w X' O' dB r.2 A B S := by
  obtain ⟨h1, O2, h2, h3⟩ := k
  refine ⟨h1, O2, ⟨h2, h.mad.bel.trans (h3.below h.mad.bel.size h.mad.own), fun i hi => (h3.new i hi).elim (h.mad.own i) (fun q => Nat.le_trans h.mad.bel.size q)⟩, fun i p q => ?_, fun i hi => ?_, Nat.le_trans h.size h3.size⟩
  · refine (h3.block i (Nat.lt_of_lt_of_le q h.size) (fun z => ?_)).trans (h.fr i p q)
    rcases h.own i z with y | y <;> omega
  · rcases h3.new i hi with z | z
    · exact h.own i z
    · exact .inr (Nat.le_trans h.size z)
set_option maxRecDepth 100000 in
set_option maxHeartbeats 8000000 in
theorem diskStops_walk {aA : Option Addr} {nA kA : Nat} {acts : List DidD} {n : Int} (hA : nA = acts.length) (hr : RdDid w aA kA acts) :
    Calls Try.prog 5 #[.slice aA nA kA, .int .i64 n] w fun e w' => e = .returned (.bool true) ∧ Below w.heap.size w w' := by
  have hax : nA ≤ 9223372036854775807 := by have := hr.cap; unfold maxLen at this; omega
  have HA := Lib.hid hA
  have HR := Lib.hid hr
  have HMADE := fun W => Lib.hid (made_any (n := 4096) (by decide) (by decide) W)
  clear hA hr
  go_enter Try.func5, Try.ntmps5
  go_upto_region 1 with fail
  go_cut [22] from 17 (fun s wc => ∃ b : Bool, s = .bool b ∧ (b = false → 1 ≤ n ∧ n ≤ 200) ∧ wc = w)
  case first =>
    by_cases h1 : n < 1
    · go_wp2_with fail
      go_meet
      case rel => exact ⟨true, rfl, by simp, rfl⟩
    · by_cases h2 : (200 : Int) < n
      · go_wp2_with fail
        go_meet
        case rel => exact ⟨true, rfl, by simp, rfl⟩
      · go_wp2_with fail
        go_meet
        case rel => exact ⟨false, rfl, fun _ => ⟨by omega, by omega⟩, rfl⟩
  case rest =>
    obtain ⟨b, rfl, hb, rfl⟩ := hcut
    go_upto_if 22 with fail
    go_cut [1] from 17 (fun s wx => ∃ N : Nat, 1 ≤ N ∧ N ≤ 200 ∧ s = .int .i64 (N : Int) ∧ wx = wc)
    case first =>
      cases b with
      | true =>
        go_wp2_with fail
        go_meet
        case rel => exact ⟨3, by omega, by omega, rfl, rfl⟩
      | false =>
        obtain ⟨q1, q2⟩ := hb rfl
        go_wp2_with fail
        go_meet
        case rel => exact ⟨n.toNat, by omega, by omega, by rw [Int.toNat_of_nonneg (by omega)], rfl⟩
    case rest =>
      obtain ⟨N, hN1, hN2, rfl, rfl⟩ := hcut
      clear hb
      go_wp2_with fail
      refine (HMADE _).out.mono ?_
      rintro e w1 ⟨O1, dB, c1, rfl, m1⟩
      have M1 := Lib.hid m1
      clear m1
      go_wp2_with fail
      refine (HMADE _).out.mono ?_
      rintro e w2 ⟨O2, cB, c2, rfl, m2⟩
      have T0 := Lib.hid (Two.new M1.out m2)
      clear m2
      go_wp2_with fail
      refine (arm_any T0.out.l.dsk (N : Int) (by omega)).mono ?_
      rintro e w3 ⟨rfl, d3, g3⟩
      have T1 := Lib.hid (T0.out.goL d3 g3)
      clear d3 g3
      go_wp2_with fail
      go_loopw [6, 7, 8] (fun cv kv i wr => ∃ (t k : Nat) (O1 O2 : Nat → Prop) (d c : Dk4), t ≤ nA ∧ i = .int .i64 (t : Int) ∧ kv = .int .i64 (k : Int) ∧ k < N ∧ cv = .pointer (some ⟨cB, 0, none⟩) ∧ Two wc wr O1 O2 dB cB d c ∧ Like d c ∧ d.arm = (N : Int) - (k : Int)) (fun _ _ i _ => nA - (intOf i).toNat)
      case atStart => exact ⟨0, 0, O1, O2, _, _, Nat.zero_le _, rfl, rfl, by omega, rfl, T1.out, ⟨rfl, rfl, rfl, rfl, rfl⟩, by unfold armD; simp <;> omega⟩
      case round =>
        obtain ⟨t, k, O1, O2, d, c, ht, rfl, rfl, hk, rfl, htwo, hlike, harm⟩ := hrel
        have HT := Lib.hid (And.intro htwo (And.intro hlike harm))
        clear htwo hlike harm
        have hdd := HT.out.2.1.2.2.1
        by_cases hlt : t < nA
        · have j1 : (t : Int) < (nA : Int) := by omega
          have j2 : (0 : Int) ≤ (t : Int) := by omega
          skip
          have hx : ∃ x, acts[t]? = some x := ⟨_, List.getElem?_eq_getElem (by rw [← HA.out]; exact hlt)⟩
          obtain ⟨x, hx⟩ := hx
          have hcx := HR.out.cel t x hx
          obtain ⟨g, hcx⟩ := hcx
          obtain ⟨off, hcx⟩ := hcx
          have hag := hcx.1
          subst hag
          have lg := World.block_lt_of_cell? _ _ hcx.2.1
          simp only at lg
          have HCX := Lib.hid hcx.2
          have HDX := Lib.hid (HR.out.dat x (List.mem_of_getElem? hx))
          clear hcx hx
          have hrd : ∃ rd, rd = actD d x.kind x.file x.too x.bs := ⟨_, rfl⟩
          obtain ⟨rd, hrd⟩ := hrd
          have hrc : ∃ rc, rc = actD c x.kind x.file x.too x.bs := ⟨_, rfl⟩
          obtain ⟨rc, hrc⟩ := hrc
          obtain ⟨re, d'⟩ := rd
          obtain ⟨rf, c'⟩ := rc
          have HOUT := Lib.hid (fun hk => act_out (kind := x.kind) (file := x.file) (too := x.too) (bs := x.bs) HT.out.2.1 hk)
          have HNON := Lib.hid (fun hk => act_none (kind := x.kind) (file := x.file) (too := x.too) (bs := x.bs) (d := d) hk)
          have HAD := Lib.hid (act_any (kind := x.kind) (file := x.file) (too := x.too) HT.out.1.l.dsk (HDX.out.mad HT.out.1.l))
          rw [← hrd] at HOUT HNON HAD
          rw [← hrc] at HOUT
          have HRC := Lib.hid hrc
          clear hrd hrc
          have HDW := Lib.hid (down_any HT.out.1.l.dsk)
          rw [hdd] at HDW
          go_wp2_with fail
          refine HDW.out.mono ?_
          rintro e w4 ⟨rfl, rfl⟩
          have q0 := (HT.out.1.l.bel.cell (p := ⟨g, off + t * 4, none⟩) lg).trans HCX.out.1
          have q1 := (HT.out.1.l.bel.cell (p := ⟨g, off + t * 4 + 1, none⟩) lg).trans HCX.out.2.1
          have q2 := (HT.out.1.l.bel.cell (p := ⟨g, off + t * 4 + 2, none⟩) lg).trans HCX.out.2.2.1
          have q3 := (HT.out.1.l.bel.cell (p := ⟨g, off + t * 4 + 3, none⟩) lg).trans HCX.out.2.2.2
          clear HDW
          go_wp2_with fail
          refine HAD.out.mono ?_
          intro e w5 hans
          have hst := HT.out.1.left hans
          simp only at hst
          have he := hst.1
          have hst2 := hst.2
          obtain ⟨O5, t5⟩ := hst2
          subst he
          have T5 := Lib.hid t5
          clear hans hst t5 q0 q1 q2 q3 HAD
          have q0 := (T5.out.l.bel.cell (p := ⟨g, off + t * 4, none⟩) lg).trans HCX.out.1
          by_cases hk1 : x.kind < 1
          · have hz := HNON.out (by omega)
            have HZ := Lib.hid hz
            clear hz
            go_wp2
            go_roundw
            case rel =>
              have hz := HZ.out
              simp only [Prod.mk.injEq] at hz
              obtain ⟨_, rfl⟩ := hz
              exact ⟨t + 1, k, O5, O2, _, c, by omega, by go_num, rfl, hk, rfl, T5.out, HT.out.2.1, HT.out.2.2⟩
            case measure => simp [intOf]; omega
          by_cases hk5 : 5 < x.kind
          · have hz := HNON.out (by omega)
            have HZ := Lib.hid hz
            clear hz
            go_wp2
            go_roundw
            case rel =>
              have hz := HZ.out
              simp only [Prod.mk.injEq] at hz
              obtain ⟨_, rfl⟩ := hz
              exact ⟨t + 1, k, O5, O2, _, c, by omega, by go_num, rfl, hk, rfl, T5.out, HT.out.2.1, HT.out.2.2⟩
            case measure => simp [intOf]; omega
          have hout := HOUT.out ⟨by omega, by omega⟩
          have HO := Lib.hid hout
          clear hout
          go_wp2_with fail
          refine (files_rd T5.out.r.dsk).mono ?_
          rintro e w6 ⟨a1, n1, k1, l1, rfl, f1, b6, r1⟩
          have T6 := Lib.hid (T5.out.later b6)
          have HF1 := Lib.hid (And.intro f1 r1)
          clear f1 b6 r1 q0
          go_wp2_with fail
          refine (copied_any HF1.out.2.2.1 HF1.out.2.1 HF1.out.2.2.2.1 HF1.out.2.2.2.2).mono ?_
          rintro e w7 ⟨a2, n2, k2, l2, rfl, fl2, m2, b7⟩
          have T7 := Lib.hid (T6.out.later b7)
          have HL2 := Lib.hid (And.intro fl2 m2)
          have HB6 := Lib.hid (fun i (hi : O2 i) => T6.out.r.dsk.lt i hi)
          clear fl2 m2 b7
          have q0 := (T7.out.l.bel.cell (p := ⟨g, off + t * 4, none⟩) lg).trans HCX.out.1
          have q1 := (T7.out.l.bel.cell (p := ⟨g, off + t * 4 + 1, none⟩) lg).trans HCX.out.2.1
          have q2 := (T7.out.l.bel.cell (p := ⟨g, off + t * 4 + 2, none⟩) lg).trans HCX.out.2.2.1
          have q3 := (T7.out.l.bel.cell (p := ⟨g, off + t * 4 + 3, none⟩) lg).trans HCX.out.2.2.2
          have HAC := Lib.hid (act_any (kind := x.kind) (file := x.file) (too := x.too) T7.out.r.dsk (HDX.out.mad T7.out.r))
          rw [← HRC.out] at HAC
          go_wp2_with fail
          refine HAC.out.mono ?_
          intro e w8 hans
          have hst := T7.out.right hans
          simp only at hst
          have he := hst.1
          have hst2 := hst.2
          obtain ⟨O8, hst2⟩ := hst2
          have t8 := hst2.1
          have fl8 := HL2.out.1.go hst2.2 HB6.out
          subst he
          have T8 := Lib.hid t8
          have HL8 := Lib.hid fl8
          clear hans hst hst2 t8 fl8 q0 q1 q2 q3 HAC
          go_wp2_with fail
          refine (num_any _ _).mono ?_
          rintro e w9 ⟨rfl, rfl⟩
          have hout := HO.out
          unfold Out at hout
          simp only at hout
          rcases hout with hout | hout
          · have h1 := hout.1
            have h2 := hout.2.1
            have h3 := hout.2.2
            simp only [Prod.mk.injEq, true_and] at h2 h3
            obtain ⟨rfl, rfl⟩ := h2
            subst h3
            clear hout HO HOUT HNON
            have HDW := Lib.hid (down_any T8.out.l.dsk)
            rw [hdd] at HDW
            go_wp2_with fail
            refine (num_any _ _).mono ?_
            rintro e w10 ⟨rfl, rfl⟩
            go_wp2_with fail
            refine (num_any _ _).mono ?_
            rintro e w11 ⟨rfl, rfl⟩
            go_wp2_with fail
            refine HDW.out.mono ?_
            rintro e w12 ⟨rfl, rfl⟩
            go_wp2
            go_roundw
            case rel => exact ⟨t + 1, k, O5, O8, _, _, by omega, by go_num, rfl, hk, rfl, T8.out, HT.out.2.1, HT.out.2.2⟩
            case measure => simp [intOf]; omega
          have h0 := hout.1
          subst h0
          have ho := hout.2.2.2.2
          have HC' := Lib.hid (And.intro hout.2.1 (And.intro hout.2.2.1 hout.2.2.2.1))
          clear hout HO HOUT HNON
          rcases ho with ho | ho
          · have h1 := ho.1
            have h2 := ho.2.1
            subst h2
            have h3 := ho.2.2.1
            have h4 := ho.2.2.2
            have HD' := Lib.hid (And.intro h3 h4)
            have hkN : ¬ ((k : Int) + 1 < (N : Int)) := by have := HT.out.2.2; omega
            clear ho h1 h3 h4
            by_cases hk2 : x.kind = 2
            · have q0 := (T8.out.l.bel.cell (p := ⟨g, off + t * 4, none⟩) lg).trans HCX.out.1
              rw [hk2] at q0
              go_wp2_with fail
              refine (files_rd T8.out.r.dsk).mono ?_
              rintro e w10 ⟨aw, nw, kw, lw, rfl, fw, b10, rw_⟩
              have TT := Lib.hid (T8.out.later b10)
              have HWANT := Lib.hid (And.intro (fw.trans (filesP_eq (c := d') (by rw [HD'.out.2, if_pos (by simp [hk2])]))) (And.intro rw_.1 rw_.2.1))
              clear fw b10 rw_ q0
              have HDW := Lib.hid (down_any TT.out.l.dsk)
              rw [HD'.out.1] at HDW
              go_wp2_with fail
              refine (num_any _ _).mono ?_
              rintro e w20 ⟨rfl, rfl⟩
              go_wp2_with fail
              refine HDW.out.mono ?_
              rintro e w21 ⟨rfl, rfl⟩
              clear HDW
              go_wp2_with fail
              refine (files_rd TT.out.l.dsk).mono ?_
              rintro e w22 ⟨a4, n4, k4, l4, rfl, f4, b22, r4⟩
              have T22 := Lib.hid (TT.out.later b22)
              have HF4 := Lib.hid (And.intro f4 r4)
              have HW2 := Lib.hid (HWANT.out.2.2.later b22)
              clear f4 b22 r4
              go_wp2_with fail
              refine (sameFiles_any HF4.out.2.2.1 HW2.out HF4.out.2.1 HWANT.out.2.1).mono ?_
              rintro e w23 ⟨rfl, b23⟩
              have heq : decide (l4.map (·.1) = lw.map (·.1)) = true := by rw [HF4.out.1, HWANT.out.1]; exact decide_eq_true rfl
              rw [heq]
              have T23 := Lib.hid (T22.out.later b23)
              clear b23 heq HW2 HF4
              go_wp2_with fail
              refine (files_rd T23.out.l.dsk).mono ?_
              rintro e w24 ⟨a5, n5, k5, l5, rfl, f5, b24, r5⟩
              have T24 := Lib.hid (T23.out.later b24)
              have HF5 := Lib.hid (And.intro f5 r5)
              clear f5 b24 r5
              go_wp2_with fail
              refine (copied_any HF5.out.2.2.1 HF5.out.2.1 HF5.out.2.2.2.1 HF5.out.2.2.2.2).mono ?_
              rintro e wS ⟨a6, n6, k6, l6, rfl, fl6, m6, b25⟩
              have T25 := Lib.hid (Idle.mk (S := wS) (T24.out.later b25).l (fun _ _ _ => rfl) (fun i hi => .inl (T24.out.l.dsk.lt i hi)) (Nat.le_refl _))
              have HL6 := Lib.hid (And.intro fl6 m6)
              clear fl6 m6 b25
              go_wp2_with fail
              go_loopw [14] (fun j wy => ∃ (s : Nat) (O' : Nat → Prop), t + 1 ≤ s ∧ s ≤ nA ∧ j = .int .i64 (s : Int) ∧ Idle wc wy O' dB d' w24.heap.size wS.heap.size wS) (fun j _ => nA - (intOf j).toNat)
              case atStart => exact ⟨t + 1, O5, Nat.le_refl _, by omega, by go_num, T25.out⟩
              case round =>
                obtain ⟨s, O', hs1, hs2, rfl, hm⟩ := hrel
                have HM := Lib.hid hm
                clear hm
                by_cases hlt2 : s < nA
                · have j3 : (s : Int) < (nA : Int) := by omega
                  have j4 : (0 : Int) ≤ (s : Int) := by omega
                  have hx : ∃ y, acts[s]? = some y := ⟨_, List.getElem?_eq_getElem (by rw [← HA.out]; exact hlt2)⟩
                  obtain ⟨y, hx⟩ := hx
                  have hcx := HR.out.cel s y hx
                  obtain ⟨gy, hcx⟩ := hcx
                  obtain ⟨offy, hcx⟩ := hcx
                  have hag := hcx.1
                  simp only [Option.some.injEq, Addr.mk.injEq, and_true] at hag
                  obtain ⟨rfl, rfl⟩ := hag
                  have HCY := Lib.hid hcx.2
                  have HDY := Lib.hid (HR.out.dat y (List.mem_of_getElem? hx))
                  clear hcx hx
                  have q0 := (HM.out.mad.bel.cell (p := ⟨g, off + s * 4, none⟩) lg).trans HCY.out.1
                  by_cases hy1 : y.kind < 1
                  · go_wp2
                    go_roundw
                    case rel => exact ⟨s + 1, O', by omega, by omega, by go_num, HM.out⟩
                    case measure => simp [intOf]; omega
                  by_cases hy5 : 5 < y.kind
                  · go_wp2
                    go_roundw
                    case rel => exact ⟨s + 1, O', by omega, by omega, by go_num, HM.out⟩
                    case measure => simp [intOf]; omega
                  have q1 := (HM.out.mad.bel.cell (p := ⟨g, off + s * 4 + 1, none⟩) lg).trans HCY.out.2.1
                  have q2 := (HM.out.mad.bel.cell (p := ⟨g, off + s * 4 + 2, none⟩) lg).trans HCY.out.2.2.1
                  have q3 := (HM.out.mad.bel.cell (p := ⟨g, off + s * 4 + 3, none⟩) lg).trans HCY.out.2.2.2
                  have HAY := Lib.hid (act_any (kind := y.kind) (file := y.file) (too := y.too) HM.out.mad.dsk (HDY.out.mad HM.out.mad))
                  have HDD := Lib.hid (act_down (kind := y.kind) (file := y.file) (too := y.too) (bs := y.bs) HD'.out.1)
                  go_wp2_with fail
                  refine HAY.out.mono ?_
                  intro e wz hans
                  have hst := HM.out.step hans
                  rw [HDD.out.1, HDD.out.2 ⟨by omega, by omega⟩] at hst
                  have he := hst.1
                  have hst2 := hst.2
                  obtain ⟨O9, t9⟩ := hst2
                  subst he
                  have T9 := Lib.hid t9
                  clear hans hst t9 q0 q1 q2 q3 HAY
                  go_wp2_with fail
                  refine (num_any _ _).mono ?_
                  rintro e w30 ⟨rfl, rfl⟩
                  go_wp2
                  go_roundw
                  case rel => exact ⟨s + 1, O9, by omega, by omega, by go_num, T9.out⟩
                  case measure => simp [intOf]; omega
                · have j3 : (nA : Int) ≤ (s : Int) := by omega
                  have HLT := Lib.hid hlt2
                  clear hlt2
                  go_wp2_with fail
                  refine (name4_any 0 _).mono ?_
                  rintro e w30 ⟨rfl, b30⟩
                  have M30 := Lib.hid (HM.out.later b30)
                  clear b30
                  go_wp2_with fail
                  refine (read_down M30.out.mad.dsk HD'.out.1 0 0).mono ?_
                  rintro e w31 ⟨rfl, b31⟩
                  have M31 := Lib.hid (M30.out.later b31)
                  clear b31
                  go_wp2_with fail
                  refine (num_any _ _).mono ?_
                  rintro e w32 ⟨rfl, rfl⟩
                  go_wp2_with fail
                  refine (files_rd M31.out.mad.dsk).mono ?_
                  rintro e w33 ⟨a7, n7, k7, l7, rfl, f7, b33, r7⟩
                  have M33 := Lib.hid (M31.out.later b33)
                  have HF7 := Lib.hid (And.intro f7 r7)
                  clear f7 b33 r7
                  have hfs := (HL6.out.1.same M33.out.fr).small HL6.out.2 HF5.out.2.2.2.2
                  have HFS := Lib.hid hfs
                  clear hfs
                  go_wp2_with fail
                  refine (sameFiles_any HF7.out.2.2.1 HFS.out.2 HF7.out.2.1 HFS.out.1).mono ?_
                  rintro e w34 ⟨rfl, b34⟩
                  have heq : decide (l7.map (·.1) = l6.map (·.1)) = true := by rw [HF7.out.1, HL6.out.2, HF5.out.1]; exact decide_eq_true rfl
                  rw [heq]
                  have M34 := Lib.hid (M33.out.later b34)
                  clear b34 heq
                  go_wp2
                  go_ret
                  exact ⟨by simp, M34.out.mad.bel⟩
            · have q0 := (T8.out.l.bel.cell (p := ⟨g, off + t * 4, none⟩) lg).trans HCX.out.1
              have TT := Lib.hid T8.out
              have hsm := HL8.out.small HL2.out.2 HF1.out.2.2.2.2
              have HWANT := Lib.hid (And.intro ((HL2.out.2.trans HF1.out.1).trans (filesP_eq (c := d') (by rw [HD'.out.2, if_neg (by simp [hk2])]))) hsm)
              clear hsm
              have HDW := Lib.hid (down_any TT.out.l.dsk)
              rw [HD'.out.1] at HDW
              go_wp2_with fail
              refine (num_any _ _).mono ?_
              rintro e w20 ⟨rfl, rfl⟩
              go_wp2_with fail
              refine HDW.out.mono ?_
              rintro e w21 ⟨rfl, rfl⟩
              clear HDW
              go_wp2_with fail
              refine (files_rd TT.out.l.dsk).mono ?_
              rintro e w22 ⟨a4, n4, k4, l4, rfl, f4, b22, r4⟩
              have T22 := Lib.hid (TT.out.later b22)
              have HF4 := Lib.hid (And.intro f4 r4)
              have HW2 := Lib.hid (HWANT.out.2.2.later b22)
              clear f4 b22 r4
              go_wp2_with fail
              refine (sameFiles_any HF4.out.2.2.1 HW2.out HF4.out.2.1 HWANT.out.2.1).mono ?_
              rintro e w23 ⟨rfl, b23⟩
              have heq : decide (l4.map (·.1) = l2.map (·.1)) = true := by rw [HF4.out.1, HWANT.out.1]; exact decide_eq_true rfl
              rw [heq]
              have T23 := Lib.hid (T22.out.later b23)
              clear b23 heq HW2 HF4
              go_wp2_with fail
              refine (files_rd T23.out.l.dsk).mono ?_
              rintro e w24 ⟨a5, n5, k5, l5, rfl, f5, b24, r5⟩
              have T24 := Lib.hid (T23.out.later b24)
              have HF5 := Lib.hid (And.intro f5 r5)
              clear f5 b24 r5
              go_wp2_with fail
              refine (copied_any HF5.out.2.2.1 HF5.out.2.1 HF5.out.2.2.2.1 HF5.out.2.2.2.2).mono ?_
              rintro e wS ⟨a6, n6, k6, l6, rfl, fl6, m6, b25⟩
              have T25 := Lib.hid (Idle.mk (S := wS) (T24.out.later b25).l (fun _ _ _ => rfl) (fun i hi => .inl (T24.out.l.dsk.lt i hi)) (Nat.le_refl _))
              have HL6 := Lib.hid (And.intro fl6 m6)
              clear fl6 m6 b25
              go_wp2_with fail
              go_loopw [14] (fun j wy => ∃ (s : Nat) (O' : Nat → Prop), t + 1 ≤ s ∧ s ≤ nA ∧ j = .int .i64 (s : Int) ∧ Idle wc wy O' dB d' w24.heap.size wS.heap.size wS) (fun j _ => nA - (intOf j).toNat)
              case atStart => exact ⟨t + 1, O5, Nat.le_refl _, by omega, by go_num, T25.out⟩
              case round =>
                obtain ⟨s, O', hs1, hs2, rfl, hm⟩ := hrel
                have HM := Lib.hid hm
                clear hm
                by_cases hlt2 : s < nA
                · have j3 : (s : Int) < (nA : Int) := by omega
                  have j4 : (0 : Int) ≤ (s : Int) := by omega
                  have hx : ∃ y, acts[s]? = some y := ⟨_, List.getElem?_eq_getElem (by rw [← HA.out]; exact hlt2)⟩
                  obtain ⟨y, hx⟩ := hx
                  have hcx := HR.out.cel s y hx
                  obtain ⟨gy, hcx⟩ := hcx
                  obtain ⟨offy, hcx⟩ := hcx
                  have hag := hcx.1
                  simp only [Option.some.injEq, Addr.mk.injEq, and_true] at hag
                  obtain ⟨rfl, rfl⟩ := hag
                  have HCY := Lib.hid hcx.2
                  have HDY := Lib.hid (HR.out.dat y (List.mem_of_getElem? hx))
                  clear hcx hx
                  have q0 := (HM.out.mad.bel.cell (p := ⟨g, off + s * 4, none⟩) lg).trans HCY.out.1
                  by_cases hy1 : y.kind < 1
                  · go_wp2
                    go_roundw
                    case rel => exact ⟨s + 1, O', by omega, by omega, by go_num, HM.out⟩
                    case measure => simp [intOf]; omega
                  by_cases hy5 : 5 < y.kind
                  · go_wp2
                    go_roundw
                    case rel => exact ⟨s + 1, O', by omega, by omega, by go_num, HM.out⟩
                    case measure => simp [intOf]; omega
                  have q1 := (HM.out.mad.bel.cell (p := ⟨g, off + s * 4 + 1, none⟩) lg).trans HCY.out.2.1
                  have q2 := (HM.out.mad.bel.cell (p := ⟨g, off + s * 4 + 2, none⟩) lg).trans HCY.out.2.2.1
                  have q3 := (HM.out.mad.bel.cell (p := ⟨g, off + s * 4 + 3, none⟩) lg).trans HCY.out.2.2.2
                  have HAY := Lib.hid (act_any (kind := y.kind) (file := y.file) (too := y.too) HM.out.mad.dsk (HDY.out.mad HM.out.mad))
                  have HDD := Lib.hid (act_down (kind := y.kind) (file := y.file) (too := y.too) (bs := y.bs) HD'.out.1)
                  go_wp2_with fail
                  refine HAY.out.mono ?_
                  intro e wz hans
                  have hst := HM.out.step hans
                  rw [HDD.out.1, HDD.out.2 ⟨by omega, by omega⟩] at hst
                  have he := hst.1
                  have hst2 := hst.2
                  obtain ⟨O9, t9⟩ := hst2
                  subst he
                  have T9 := Lib.hid t9
                  clear hans hst t9 q0 q1 q2 q3 HAY
                  go_wp2_with fail
                  refine (num_any _ _).mono ?_
                  rintro e w30 ⟨rfl, rfl⟩
                  go_wp2
                  go_roundw
                  case rel => exact ⟨s + 1, O9, by omega, by omega, by go_num, T9.out⟩
                  case measure => simp [intOf]; omega
                · have j3 : (nA : Int) ≤ (s : Int) := by omega
                  have HLT := Lib.hid hlt2
                  clear hlt2
                  go_wp2_with fail
                  refine (name4_any 0 _).mono ?_
                  rintro e w30 ⟨rfl, b30⟩
                  have M30 := Lib.hid (HM.out.later b30)
                  clear b30
                  go_wp2_with fail
                  refine (read_down M30.out.mad.dsk HD'.out.1 0 0).mono ?_
                  rintro e w31 ⟨rfl, b31⟩
                  have M31 := Lib.hid (M30.out.later b31)
                  clear b31
                  go_wp2_with fail
                  refine (num_any _ _).mono ?_
                  rintro e w32 ⟨rfl, rfl⟩
                  go_wp2_with fail
                  refine (files_rd M31.out.mad.dsk).mono ?_
                  rintro e w33 ⟨a7, n7, k7, l7, rfl, f7, b33, r7⟩
                  have M33 := Lib.hid (M31.out.later b33)
                  have HF7 := Lib.hid (And.intro f7 r7)
                  clear f7 b33 r7
                  have hfs := (HL6.out.1.same M33.out.fr).small HL6.out.2 HF5.out.2.2.2.2
                  have HFS := Lib.hid hfs
                  clear hfs
                  go_wp2_with fail
                  refine (sameFiles_any HF7.out.2.2.1 HFS.out.2 HF7.out.2.1 HFS.out.1).mono ?_
                  rintro e w34 ⟨rfl, b34⟩
                  have heq : decide (l7.map (·.1) = l6.map (·.1)) = true := by rw [HF7.out.1, HL6.out.2, HF5.out.1]; exact decide_eq_true rfl
                  rw [heq]
                  have M34 := Lib.hid (M33.out.later b34)
                  clear b34 heq
                  go_wp2
                  go_ret
                  exact ⟨by simp, M34.out.mad.bel⟩
          · have h1 := ho.1
            have h2 := ho.2.1
            subst h2
            have h3 := ho.2.2.1
            have h5 := ho.2.2.2.2.2
            have HD' := Lib.hid ho.2.2.2
            have hkN : (k : Int) + 1 < (N : Int) := by have := HT.out.2.2; omega
            have HDW := Lib.hid (down_any T8.out.l.dsk)
            rw [h3] at HDW
            have H3 := Lib.hid h3
            have H1 := Lib.hid h1
            clear ho h5 h3 h1
            go_wp2_with fail
            refine (num_any _ _).mono ?_
            rintro e w10 ⟨rfl, rfl⟩
            go_wp2_with fail
            refine HDW.out.mono ?_
            rintro e w11 ⟨rfl, rfl⟩
            go_wp2
            go_roundw
            case rel =>
              refine ⟨t + 1, k + 1, O5, O8, d', c', by omega, by go_num, by go_num, by omega, rfl, T8.out, ⟨HD'.out.1, by rw [HD'.out.2.1, HC'.out.2.2], H3.out, HC'.out.2.1, HC'.out.1⟩, ?_⟩
              rw [HD'.out.2.2]
              have := HT.out.2.2
              rw [if_pos (by omega)]
              omega
            case measure => simp [intOf]; omega
        · have j1 : (nA : Int) ≤ (t : Int) := by omega
          have HDN := Lib.hid (And.intro hdd hlt)
          clear hlt hdd
          go_wp2_with fail
          refine (files_rd HT.out.1.l.dsk).mono ?_
          rintro e w4 ⟨a1, n1, k1, l1, rfl, f1, b4, r1⟩
          have T4 := Lib.hid (HT.out.1.later b4)
          have HF1 := Lib.hid (And.intro f1 r1)
          clear f1 b4 r1
          go_wp2_with fail
          refine (files_rd T4.out.r.dsk).mono ?_
          rintro e w5 ⟨a2, n2, k2, l2, rfl, f2, b5, r2⟩
          have T5 := Lib.hid (T4.out.later b5)
          have HF2 := Lib.hid (And.intro f2 r2)
          have HF3 := Lib.hid (HF1.out.2.2.1.later b5)
          clear f2 b5 r2
          go_wp2_with fail
          refine (sameFiles_any HF3.out HF2.out.2.2.1 HF1.out.2.1 HF2.out.2.1).mono ?_
          rintro e w6 ⟨rfl, b6⟩
          have heq : decide (l1.map (·.1) = l2.map (·.1)) = true := by rw [HF1.out.1, HF2.out.1]; exact decide_eq_true (filesP_eq HT.out.2.1.1)
          rw [heq]
          have T6 := Lib.hid (T5.out.later b6)
          have HDW := Lib.hid (down_any T6.out.l.dsk)
          rw [HDN.out.1] at HDW
          clear b6 heq
          go_wp2_with fail
          refine HDW.out.mono ?_
          rintro e w7 ⟨rfl, rfl⟩
          go_wp2
          go_ret
          exact ⟨by simp, T6.out.l.bel⟩
end Go.Proofs.Ytbheifelfeekmaa

namespace Go.Proofs.Ytbheifelfeekmaa
open Go.RowKit Go.MapKept Go.Sort
set_option linter.unusedVariables false
set_option linter.unusedSimpArgs false
variable {w w' W X X' : World} {O O' O1 O2 : Nat → Prop} {dB cB : Nat} {d c : Dk4}
theorem act_calm {kind file too : Int} {bs : List Nat} (ok : d.Ok) (h : d.down = false ∧ d.arm = 0) : (actD d kind file too bs).2.down = false ∧ (actD d kind file too bs).2.arm = 0 := by
  have := (act_twin (kind := kind) (file := file) (too := too) (bs := bs) (⟨List.Perm.refl _, ok.nod, rfl, h.1, h.1, h.2, h.2⟩ : Twin d d)).2
  exact ⟨this.dn, this.da⟩
theorem free_twin (h : Twin d c) : d.cap - (totP d.fs : Int) = c.cap - (totP c.fs : Int) := by rw [h.cap, totP_perm h.fs]
theorem Idle.step2 {A B : Nat} {S : World} {r : Int × Dk4} {e : Ending} (h : Idle w X O1 dB d A B S) (k : Two w X O1 O2 dB cB d c) (ha : AnsD X O1 dB r e X') : e = .returned (.int .i64 r.1) ∧ ∃ O', Two w X' O' O2 dB cB r.2 c ∧ Idle w X' O' dB r.2 A B S := by
  obtain ⟨h1, O5, h2, h3⟩ := ha
  refine ⟨h1, O5, k.goL h2 h3, ⟨h2, h.mad.bel.trans (h3.below h.mad.bel.size h.mad.own), fun i hi => (h3.new i hi).elim (h.mad.own i) (fun q => Nat.le_trans h.mad.bel.size q)⟩, fun i p q => ?_, fun i hi => ?_, Nat.le_trans h.size h3.size⟩
  · refine (h3.block i (Nat.lt_of_lt_of_le q h.size) (fun z => ?_)).trans (h.fr i p q)
    rcases h.own i z with y | y <;> omega
  · rcases h3.new i hi with z | z
    · exact h.own i z
    · exact .inr (Nat.le_trans h.size z)
set_option maxRecDepth 100000 in
set_option maxHeartbeats 8000000 in
theorem diskTwins_walk {aA aB aC : Option Addr} {nA kA nB kB nC kC : Nat} {acts more alone : List DidD} (hA : nA = acts.length) (hrA : RdDid w aA kA acts) (hB : nB = more.length) (hrB : RdDid w aB kB more) (hC : nC = alone.length) (hrC : RdDid w aC kC alone) :
    Calls Try.prog 7 #[.slice aA nA kA, .slice aB nB kB, .slice aC nC kC] w fun e w' => e = .returned (.bool true) ∧ Below w.heap.size w w' := by
  have hax : nA ≤ 9223372036854775807 := by have := hrA.cap; unfold maxLen at this; omega
  have hbx : nB ≤ 9223372036854775807 := by have := hrB.cap; unfold maxLen at this; omega
  have hcx : nC ≤ 9223372036854775807 := by have := hrC.cap; unfold maxLen at this; omega
  have HN := Lib.hid (And.intro hA (And.intro hB hC))
  have HRA := Lib.hid hrA
  have HRB := Lib.hid hrB
  have HRC := Lib.hid hrC
  have HMADE := Lib.hid (made_any (n := 4096) (by decide) (by decide) w)
  clear hA hB hC hrA hrB hrC
  go_enter Try.func7, Try.ntmps7
  go_wp2_with fail
  refine HMADE.out.mono ?_
  rintro e w1 ⟨O1, dB, c1, rfl, m1⟩
  have M1 := Lib.hid m1
  clear m1 HMADE
  go_wp2_with fail
  go_loopw [8] (fun i wr => ∃ (t : Nat) (O : Nat → Prop) (d : Dk4), t ≤ nA ∧ i = .int .i64 (t : Int) ∧ Mad w wr O dB d ∧ d.down = false ∧ d.arm = 0) (fun i _ => nA - (intOf i).toNat)
  case atStart => exact ⟨0, O1, _, Nat.zero_le _, rfl, M1.out, rfl, rfl⟩
  case round =>
    obtain ⟨t, O, d, ht, rfl, m, hcalm⟩ := hrel
    have HM := Lib.hid m
    have HCM := Lib.hid hcalm
    clear m hcalm
    by_cases hlt : t < nA
    · have j1 : (t : Int) < (nA : Int) := by omega
      have j2 : (0 : Int) ≤ (t : Int) := by omega
      have hx : ∃ x, acts[t]? = some x := ⟨_, List.getElem?_eq_getElem (by rw [← HN.out.1]; exact hlt)⟩
      obtain ⟨x, hx⟩ := hx
      have hcx := HRA.out.cel t x hx
      obtain ⟨g, hcx⟩ := hcx
      obtain ⟨off, hcx⟩ := hcx
      have hag := hcx.1
      subst hag
      have lg := World.block_lt_of_cell? _ _ hcx.2.1
      simp only at lg
      have q0 := (HM.out.bel.cell (p := ⟨g, off + t * 4, none⟩) lg).trans hcx.2.1
      have q1 := (HM.out.bel.cell (p := ⟨g, off + t * 4 + 1, none⟩) lg).trans hcx.2.2.1
      have q2 := (HM.out.bel.cell (p := ⟨g, off + t * 4 + 2, none⟩) lg).trans hcx.2.2.2.1
      have q3 := (HM.out.bel.cell (p := ⟨g, off + t * 4 + 3, none⟩) lg).trans hcx.2.2.2.2
      have hra := RdA.mad (HRA.out.dat x (List.mem_of_getElem? hx)) HM.out
      have HC := Lib.hid (act_any (kind := x.kind) (file := x.file) (too := x.too) HM.out.dsk hra)
      have HC2 := Lib.hid (act_calm (kind := x.kind) (file := x.file) (too := x.too) (bs := x.bs) HM.out.dsk.1 HCM.out)
      clear hcx hra hx
      go_wp2_with fail
      refine HC.out.mono ?_
      intro e w3 hans
      have hst := HM.out.step hans
      have he := hst.1
      have hst2 := hst.2
      obtain ⟨O3, m3⟩ := hst2
      subst he
      have HM3 := Lib.hid m3
      clear hans hst m3 q0 q1 q2 q3
      go_wp2
      go_roundw
      case rel => exact ⟨t + 1, O3, _, by omega, by go_num, HM3.out, HC2.out.1, HC2.out.2⟩
      case measure => simp [intOf]; omega
    · have j1 : (nA : Int) ≤ (t : Int) := by omega
      clear hlt
      go_wp2_with fail
      refine (cap_any HM.out.dsk).mono ?_
      rintro e w4 ⟨rfl, rfl⟩
      go_wp2_with fail
      refine (files_rd HM.out.dsk).mono ?_
      rintro e w5 ⟨a1, n1, k1, l1, rfl, f1, b5, r1⟩
      have HM5 := Lib.hid (HM.out.later b5)
      have HF1 := Lib.hid (And.intro f1 r1)
      have HLD := Lib.hid (load_any (n := d.cap) (m := n1) r1.2.1.g (by rw [List.length_map]; exact r1.1))
      have hlt2 := load_twin HM.out.dsk.1 HCM.out.1 HCM.out.2
      obtain ⟨c, hc1, htw⟩ := hlt2
      have e1 : (l1.map fun x => (x.1.g, x.2)).map (·.1) = (filesP d).map PF.g := by rw [← f1, List.map_map, List.map_map]; rfl
      rw [e1, hc1] at HLD
      have HTW := Lib.hid htw
      clear f1 b5 r1 hc1 htw e1
      go_wp2_with fail
      refine HLD.out.mono ?_
      intro e w6 hld
      unfold LoadP at hld
      obtain ⟨p, rfl, b6, _, hp⟩ := hld
      have hp2 := hp rfl
      obtain ⟨O2, cB, hp1, m6⟩ := hp2
      subst hp1
      have T0 := Lib.hid (Two.new HM5.out m6)
      clear b6 hp m6 HLD
      go_wp2_with fail
      refine (num_any _ _).mono ?_
      rintro e w7 ⟨rfl, rfl⟩
      go_wp2_with fail
      go_loopw [11] (fun i wr => ∃ (t : Nat) (O1 O2 : Nat → Prop) (d c : Dk4), t ≤ nB ∧ i = .int .i64 (t : Int) ∧ Two w wr O1 O2 dB cB d c ∧ Twin d c) (fun i _ => nB - (intOf i).toNat)
      case atStart => exact ⟨0, O, O2, d, c, Nat.zero_le _, rfl, T0.out, HTW.out⟩
      case round =>
        clear HTW T0 HF1 HM5 HCM HM
        obtain ⟨t2, O1, O2, d, c, ht2, rfl, htwo, htw⟩ := hrel
        have HT := Lib.hid (And.intro htwo htw)
        clear htwo htw
        by_cases hlt : t2 < nB
        · have j3 : (t2 : Int) < (nB : Int) := by omega
          have j4 : (0 : Int) ≤ (t2 : Int) := by omega
          have hx : ∃ x, more[t2]? = some x := ⟨_, List.getElem?_eq_getElem (by rw [← HN.out.2.1]; exact hlt)⟩
          obtain ⟨x, hx⟩ := hx
          have hcx := HRB.out.cel t2 x hx
          obtain ⟨g, hcx⟩ := hcx
          obtain ⟨off, hcx⟩ := hcx
          have hag := hcx.1
          subst hag
          have lg := World.block_lt_of_cell? _ _ hcx.2.1
          simp only at lg
          have CX := Lib.hid hcx.2
          have HDX := Lib.hid (HRB.out.dat x (List.mem_of_getElem? hx))
          have HACT := Lib.hid (act_twin (kind := x.kind) (file := x.file) (too := x.too) (bs := x.bs) HT.out.2)
          have hrd : ∃ rd, rd = actD d x.kind x.file x.too x.bs := ⟨_, rfl⟩
          obtain ⟨rd, hrd⟩ := hrd
          have hrc : ∃ rc, rc = actD c x.kind x.file x.too x.bs := ⟨_, rfl⟩
          obtain ⟨rc, hrc⟩ := hrc
          rw [← hrd, ← hrc] at HACT
          have HRDC := Lib.hid (And.intro hrd hrc)
          clear hcx hx hrd hrc
          obtain ⟨re, d'⟩ := rd
          obtain ⟨rf, c'⟩ := rc
          have hre := HACT.out.1
          simp only at hre
          subst hre
          go_upto_region 14 with fail
          refine wp_region_noPanic ?_
          refine wp_region_anyE (S := fun wx => Below w.heap.size w wx) (E := fun j => true) (by kernel_rfl) ?_
          have hHeld : Below w.heap.size w wr.drew := HT.out.1.l.bel.trans (((Below.refl _ _).drew).mono HT.out.1.l.bel.size)
          have T4 := Lib.hid (HT.out.1.later ((Below.refl wr.heap.size wr).drew))
          have hZ0 : ∃ z, z = wr.drew := ⟨_, rfl⟩
          obtain ⟨Z0, hZ0⟩ := hZ0
          rw [← hZ0] at T4 hHeld ⊢
          clear hZ0
          refine AnyE.take (i := 0) (.pointer (some ⟨dB, 0, none⟩)) rfl (by kernel_rfl) (by kernel_rfl) (by kernel_rfl) (by kernel_rfl) (fun _ _ _ h => h) (.inl ⟨by kernel_rfl, fun wy hy => by (go_simp; done)⟩) hHeld ?_
          try simp only [Act.put, List.setIfInBounds_toArray, List.set_cons_zero, List.set_cons_succ]
          refine AnyE.take (i := 1) (.slice (some ⟨g, off, none⟩) nB kB) rfl (by kernel_rfl) (by kernel_rfl) (by kernel_rfl) (by kernel_rfl) (fun _ _ _ h => h) (.inl ⟨by kernel_rfl, fun wy hy => by (go_simp; done)⟩) hHeld ?_
          try simp only [Act.put, List.setIfInBounds_toArray, List.set_cons_zero, List.set_cons_succ]
          refine AnyE.take (i := 2) (.int .i64 (t2 : Int)) rfl (by kernel_rfl) (by kernel_rfl) (by kernel_rfl) (by kernel_rfl) (fun _ _ _ h => h) (.inl ⟨by kernel_rfl, fun wy hy => by (go_simp; done)⟩) hHeld ?_
          try simp only [Act.put, List.setIfInBounds_toArray, List.set_cons_zero, List.set_cons_succ]
          refine AnyE.take (i := 3) (.pointer (some ⟨g, off + t2 * 4, none⟩)) rfl (by kernel_rfl) (by kernel_rfl) (by kernel_rfl) (by kernel_rfl) (fun _ _ _ h => h) (.inl ⟨by kernel_rfl, fun wy hy => by (go_simp; done)⟩) hHeld ?_
          try simp only [Act.put, List.setIfInBounds_toArray, List.set_cons_zero, List.set_cons_succ]
          refine AnyE.take (i := 4) (.agg #[.int .i64 x.kind, .int .i64 x.file, .int .i64 x.too, .slice x.a x.n x.k]) rfl (by kernel_rfl) (by kernel_rfl) (by kernel_rfl) (by kernel_rfl) (fun _ _ _ h => h) (.inl ⟨by kernel_rfl, fun wy hy => by (have q0 := (hy.cell (p := ⟨g, off + t2 * 4, none⟩) lg).trans CX.out.1; have q1 := (hy.cell (p := ⟨g, off + t2 * 4 + 1, none⟩) lg).trans CX.out.2.1; have q2 := (hy.cell (p := ⟨g, off + t2 * 4 + 2, none⟩) lg).trans CX.out.2.2.1; have q3 := (hy.cell (p := ⟨g, off + t2 * 4 + 3, none⟩) lg).trans CX.out.2.2.2; go_simp; done)⟩) hHeld ?_
          try simp only [Act.put, List.setIfInBounds_toArray, List.set_cons_zero, List.set_cons_succ]
          refine AnyE.take (i := 7) (.pointer (some ⟨cB, 0, none⟩)) rfl (by kernel_rfl) (by kernel_rfl) (by kernel_rfl) (by kernel_rfl) (fun _ _ _ h => h) (.inl ⟨by kernel_rfl, fun wy hy => by (go_simp; done)⟩) hHeld ?_
          try simp only [Act.put, List.setIfInBounds_toArray, List.set_cons_zero, List.set_cons_succ]
          refine AnyE.take (i := 8) (.slice (some ⟨g, off, none⟩) nB kB) rfl (by kernel_rfl) (by kernel_rfl) (by kernel_rfl) (by kernel_rfl) (fun _ _ _ h => h) (.inl ⟨by kernel_rfl, fun wy hy => by (go_simp; done)⟩) hHeld ?_
          try simp only [Act.put, List.setIfInBounds_toArray, List.set_cons_zero, List.set_cons_succ]
          refine AnyE.take (i := 9) (.int .i64 (t2 : Int)) rfl (by kernel_rfl) (by kernel_rfl) (by kernel_rfl) (by kernel_rfl) (fun _ _ _ h => h) (.inl ⟨by kernel_rfl, fun wy hy => by (go_simp; done)⟩) hHeld ?_
          try simp only [Act.put, List.setIfInBounds_toArray, List.set_cons_zero, List.set_cons_succ]
          refine AnyE.take (i := 10) (.pointer (some ⟨g, off + t2 * 4, none⟩)) rfl (by kernel_rfl) (by kernel_rfl) (by kernel_rfl) (by kernel_rfl) (fun _ _ _ h => h) (.inl ⟨by kernel_rfl, fun wy hy => by (go_simp; done)⟩) hHeld ?_
          try simp only [Act.put, List.setIfInBounds_toArray, List.set_cons_zero, List.set_cons_succ]
          refine AnyE.take (i := 11) (.agg #[.int .i64 x.kind, .int .i64 x.file, .int .i64 x.too, .slice x.a x.n x.k]) rfl (by kernel_rfl) (by kernel_rfl) (by kernel_rfl) (by kernel_rfl) (fun _ _ _ h => h) (.inl ⟨by kernel_rfl, fun wy hy => by (have q0 := (hy.cell (p := ⟨g, off + t2 * 4, none⟩) lg).trans CX.out.1; have q1 := (hy.cell (p := ⟨g, off + t2 * 4 + 1, none⟩) lg).trans CX.out.2.1; have q2 := (hy.cell (p := ⟨g, off + t2 * 4 + 2, none⟩) lg).trans CX.out.2.2.1; have q3 := (hy.cell (p := ⟨g, off + t2 * 4 + 3, none⟩) lg).trans CX.out.2.2.2; go_simp; done)⟩) hHeld ?_
          try simp only [Act.put, List.setIfInBounds_toArray, List.set_cons_zero, List.set_cons_succ]
          refine AnyE.one (i := 5) rfl (by kernel_rfl) (by kernel_rfl) (fun KK hK => ?_)
          go_simp
          go_at_call 21
          have HAD := Lib.hid (act_any (kind := x.kind) (file := x.file) (too := x.too) T4.out.l.dsk (HDX.out.mad T4.out.l))
          rw [← HRDC.out.1] at HAD
          refine HAD.out.mono ?_
          intro e9 Z5 hans
          have hst := T4.out.left hans
          simp only at hst
          have he := hst.1
          have hst2 := hst.2
          obtain ⟨O5, t5⟩ := hst2
          subst he
          have T5 := Lib.hid t5
          clear hans hst t5 HAD hHeld
          go_wp2_with fail
          have hHeld := T5.out.l.bel
          refine hK.out _ _ ⟨fun _ => hHeld, ?_⟩
          clear hK
          try simp only [Act.put, List.setIfInBounds_toArray, List.set_cons_zero, List.set_cons_succ]
          refine AnyE.one (i := 6) rfl (by kernel_rfl) (by kernel_rfl) (fun KK hK => ?_)
          go_simp
          go_at_call 14
          refine (num_any _ _).mono ?_
          rintro e10 Z6 ⟨rfl, rfl⟩
          go_wp2_with fail
          have hHeld := T5.out.l.bel
          refine hK.out _ _ ⟨fun _ => hHeld, ?_⟩
          clear hK
          try simp only [Act.put, List.setIfInBounds_toArray, List.set_cons_zero, List.set_cons_succ]
          refine AnyE.one (i := 12) rfl (by kernel_rfl) (by kernel_rfl) (fun KK hK => ?_)
          go_simp
          go_at_call 21
          have HAC := Lib.hid (act_any (kind := x.kind) (file := x.file) (too := x.too) T5.out.r.dsk (HDX.out.mad T5.out.r))
          rw [← HRDC.out.2] at HAC
          refine HAC.out.mono ?_
          intro e11 Z7 hans
          have hst := T5.out.right hans
          simp only at hst
          have he := hst.1
          have hst2 := hst.2
          obtain ⟨O6, t6, _⟩ := hst2
          subst he
          have T6 := Lib.hid t6
          clear hans hst t6 HAC hHeld
          go_wp2_with fail
          have hHeld := T6.out.l.bel
          refine hK.out _ _ ⟨fun _ => hHeld, ?_⟩
          clear hK
          try simp only [Act.put, List.setIfInBounds_toArray, List.set_cons_zero, List.set_cons_succ]
          refine AnyE.one (i := 13) rfl (by kernel_rfl) (by kernel_rfl) (fun KK hK => ?_)
          go_simp
          go_at_call 14
          refine (num_any _ _).mono ?_
          rintro e12 Z8 ⟨rfl, rfl⟩
          go_wp2_with fail
          have hHeld := T6.out.l.bel
          refine hK.out _ _ ⟨fun _ => hHeld, ?_⟩
          clear hK
          try simp only [Act.put, List.setIfInBounds_toArray, List.set_cons_zero, List.set_cons_succ]
          refine AnyE.take (i := 14) (.bool false) rfl (by kernel_rfl) (by kernel_rfl) (by kernel_rfl) (by kernel_rfl) (fun _ _ _ h => h) (.inl ⟨by kernel_rfl, fun wy hy => by (go_simp; done)⟩) hHeld ?_
          try simp only [Act.put, List.setIfInBounds_toArray, List.set_cons_zero, List.set_cons_succ]
          refine AnyE.done (by kernel_rfl) (NoPanic.normal ?_) _
          obtain ⟨Z9, hZ9⟩ : ∃ z, z = Z8 := ⟨_, rfl⟩
          rw [← hZ9] at T6 ⊢
          clear hZ9 hHeld
          go_simp
          go_step
          go_wp2
          go_roundw
          case rel => exact ⟨t2 + 1, O5, O6, _, _, by omega, by go_num, T6.out, HACT.out.2⟩
          case measure => simp [intOf]; omega
        · have j3 : (nB : Int) ≤ (t2 : Int) := by omega
          clear hlt
          go_wp2_with fail
          refine (files_rd HT.out.1.l.dsk).mono ?_
          rintro e w8 ⟨a2, n2, k2, l2, rfl, f2, b8, r2⟩
          have T8 := Lib.hid (HT.out.1.later b8)
          have HF2 := Lib.hid (And.intro f2 r2)
          clear f2 b8 r2
          go_wp2_with fail
          refine (files_rd T8.out.r.dsk).mono ?_
          rintro e w9 ⟨a3, n3, k3, l3, rfl, f3, b9, r3⟩
          have T9 := Lib.hid (T8.out.later b9)
          have HF3 := Lib.hid (And.intro f3 r3)
          have HF2R := Lib.hid (HF2.out.2.2.1.later b9)
          clear f3 b9 r3
          go_wp2_with fail
          refine (sameFiles_any HF2R.out HF3.out.2.2.1 HF2.out.2.1 HF3.out.2.1).mono ?_
          rintro e w10 ⟨rfl, b10⟩
          have heq : decide (l2.map (·.1) = l3.map (·.1)) = true := by rw [HF2.out.1, HF3.out.1]; exact decide_eq_true (filesP_perm2 HT.out.2.fs HT.out.2.nod)
          rw [heq]
          have T10 := Lib.hid (T9.out.later b10)
          clear b10 heq HF2R HF3 HF2
          go_wp2_with fail
          refine (free_dsk T10.out.l.dsk).mono ?_
          rintro e w11 ⟨rfl, b11⟩
          have T11 := Lib.hid (T10.out.later b11)
          clear b11
          go_wp2_with fail
          refine (free_dsk T11.out.r.dsk).mono ?_
          rintro e w12 ⟨rfl, b12⟩
          rw [← free_twin HT.out.2]
          have T12 := Lib.hid (T11.out.later b12)
          clear b12
          obtain ⟨fr, hfr⟩ : ∃ fr, fr = d.cap - (totP d.fs : Int) := ⟨_, rfl⟩
          rw [← hfr]
          clear hfr
          go_wp2_with fail
          refine (files_rd T12.out.r.dsk).mono ?_
          rintro e w13 ⟨a4, n4, k4, l4, rfl, f4, b13, r4⟩
          have T13 := Lib.hid (T12.out.later b13)
          have HF4 := Lib.hid (And.intro f4 r4)
          clear f4 b13 r4
          go_wp2_with fail
          refine (copied_any HF4.out.2.2.1 HF4.out.2.1 HF4.out.2.2.2.1 HF4.out.2.2.2.2).mono ?_
          rintro e wS ⟨a6, n6, k6, l6, rfl, fl6, m6, b14⟩
          have T14 := Lib.hid (T13.out.later b14)
          have HL6 := Lib.hid (And.intro fl6 m6)
          have HID := Lib.hid (Idle.mk (S := wS) (A := w13.heap.size) (B := wS.heap.size) T14.out.l (fun _ _ _ => rfl) (fun i hi => .inl (T13.out.l.dsk.lt i hi)) (Nat.le_refl _))
          have HAP := Lib.hid (fun i (hi : O2 i) => T13.out.r.dsk.lt i hi)
          clear fl6 m6 b14
          go_wp2_with fail
          go_loopw [13] (fun i wr => ∃ (s : Nat) (O1 : Nat → Prop) (d : Dk4), s ≤ nC ∧ i = .int .i64 (s : Int) ∧ Two w wr O1 O2 dB cB d c ∧ Idle w wr O1 dB d w13.heap.size wS.heap.size wS) (fun i _ => nC - (intOf i).toNat)
          case atStart => exact ⟨0, O1, d, Nat.zero_le _, rfl, T14.out, HID.out⟩
          case round =>
            have HTW := Lib.hid HT.out.2
            have HW4 := Lib.hid HF4.out.1
            clear HID T14 HF4 T13 T12 T11 T10 T9 T8 HT
            obtain ⟨s, O1, d, hs, rfl, htwo, hid⟩ := hrel
            have HT := Lib.hid (And.intro htwo hid)
            clear htwo hid
            by_cases hlt : s < nC
            · have j5 : (s : Int) < (nC : Int) := by omega
              have j6 : (0 : Int) ≤ (s : Int) := by omega
              have hx : ∃ x, alone[s]? = some x := ⟨_, List.getElem?_eq_getElem (by rw [← HN.out.2.2]; exact hlt)⟩
              obtain ⟨x, hx⟩ := hx
              have hcx := HRC.out.cel s x hx
              obtain ⟨g, hcx⟩ := hcx
              obtain ⟨off, hcx⟩ := hcx
              have hag := hcx.1
              subst hag
              have lg := World.block_lt_of_cell? _ _ hcx.2.1
              simp only at lg
              have q0 := (HT.out.1.l.bel.cell (p := ⟨g, off + s * 4, none⟩) lg).trans hcx.2.1
              have q1 := (HT.out.1.l.bel.cell (p := ⟨g, off + s * 4 + 1, none⟩) lg).trans hcx.2.2.1
              have q2 := (HT.out.1.l.bel.cell (p := ⟨g, off + s * 4 + 2, none⟩) lg).trans hcx.2.2.2.1
              have q3 := (HT.out.1.l.bel.cell (p := ⟨g, off + s * 4 + 3, none⟩) lg).trans hcx.2.2.2.2
              have hra := RdA.mad (HRC.out.dat x (List.mem_of_getElem? hx)) HT.out.1.l
              have HC := Lib.hid (act_any (kind := x.kind) (file := x.file) (too := x.too) HT.out.1.l.dsk hra)
              clear hcx hra hx
              go_wp2_with fail
              refine HC.out.mono ?_
              intro e wz hans
              have hst := HT.out.2.step2 HT.out.1 hans
              have he := hst.1
              have hst2 := hst.2
              obtain ⟨O9, t9, i9⟩ := hst2
              subst he
              have T9 := Lib.hid (And.intro t9 i9)
              clear hans hst t9 i9 q0 q1 q2 q3 HC
              go_wp2
              go_roundw
              case rel => exact ⟨s + 1, O9, _, by omega, by go_num, T9.out.1, T9.out.2⟩
              case measure => simp [intOf]; omega
            · have j5 : (nC : Int) ≤ (s : Int) := by omega
              have HLT := Lib.hid hlt
              clear hlt
              go_wp2_with fail
              refine (files_rd HT.out.1.r.dsk).mono ?_
              rintro e w33 ⟨a7, n7, k7, l7, rfl, f7, b33, r7⟩
              have M33 := Lib.hid (HT.out.1.later b33)
              have I33 := Lib.hid (HT.out.2.later b33)
              have HF7 := Lib.hid (And.intro f7 r7)
              clear f7 b33 r7
              have hfs := (HL6.out.1.same I33.out.fr).small (HL6.out.2.trans (HW4.out.trans HF7.out.1.symm)) HF7.out.2.2.2.2
              have HFS := Lib.hid hfs
              clear hfs
              go_wp2_with fail
              refine (sameFiles_any HF7.out.2.2.1 HFS.out.2 HF7.out.2.1 HFS.out.1).mono ?_
              rintro e w34 ⟨rfl, b34⟩
              have heq : decide (l7.map (·.1) = l6.map (·.1)) = true := by rw [HF7.out.1, HL6.out.2, HW4.out]; exact decide_eq_true rfl
              rw [heq]
              have M34 := Lib.hid (M33.out.later b34)
              clear b34 heq
              have HDW := Lib.hid (down_any M34.out.r.dsk)
              rw [HTW.out.tn] at HDW
              go_wp2_with fail
              refine HDW.out.mono ?_
              rintro e w35 ⟨rfl, rfl⟩
              go_wp2
              go_ret
              exact ⟨by simp, M34.out.l.bel⟩
end Go.Proofs.Ytbheifelfeekmaa
