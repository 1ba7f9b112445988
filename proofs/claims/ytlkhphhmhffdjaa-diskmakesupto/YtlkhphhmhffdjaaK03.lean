import Derived.Test.YtlkhphhmhffdjaaK02
set_option linter.unusedSimpArgs false
set_option linter.unusedVariables false
namespace Go.Proofs.Ytlkhphhmhffdjaa
open Go.RowKit Go.MapKept

structure Dk4 where
 fs : List PF
 cap : Int
 arm : Int
 down : Bool
 c : Nat → Int
structure Dk4.Ok (d : Dk4) : Prop where
 cap0 : 0 ≤ d.cap
 cap1 : d.cap ≤ 67108864
 tot : (totP d.fs : Int) ≤ d.cap
 arm0 : 0 ≤ d.arm
 arm1 : d.arm ≤ 9223372036854775807
 nam : ∀ p ∈ d.fs, DkName p.1
 cnt : d.fs.length ≤ 256
 syn : ∀ p ∈ d.fs, p.2.2 ≤ p.2.1.length
 nod : (d.fs.map (·.1)).Nodup
def Dsk (w : World) (O : Nat → Prop) (dB : Nat) (d : Dk4) : Prop := d.Ok ∧ ∃ mb fl, DskM w O dB mb fl d.cap d.arm d.down d.c ∧ fl.map FE.pf = d.fs
variable {w w' W : World} {O O' : Nat → Prop} {dB : Nat} {d : Dk4}
theorem Dsk.kept (h : Dsk w O dB d) (k : ∀ i, O i → w'.heap[i]? = w.heap[i]?) (hs : w.heap.size ≤ w'.heap.size) : Dsk w' O dB d := by
 obtain ⟨ok, mb, fl, h, e⟩ := h
 exact ⟨ok, mb, fl, h.kept k hs, e⟩
theorem Dsk.lt (h : Dsk w O dB d) : ∀ i, O i → i < w.heap.size := by
 obtain ⟨ok, mb, fl, h, e⟩ := h
 exact h.lt
theorem Dsk.below (h : Dsk w O dB d) (hb : Below w.heap.size w w') : Dsk w' O dB d := h.kept (fun i hi => hb.block i (h.lt i hi)) hb.size
def actP (d : Dk4) (torn : Bool) (fs' : List PF) (c' : Nat → Int) : Int × Dk4 :=
 if d.arm = 1 then (3, if torn = true then ⟨fs', d.cap, 0, true, setCt c' 0 (wrap64 (c' 0 + 1))⟩ else ⟨d.fs, d.cap, 0, true, d.c⟩)
 else (0, ⟨fs', d.cap, if 0 < d.arm then d.arm - 1 else 0, d.down, setCt c' 0 (wrap64 (c' 0 + 1))⟩)
structure FsOk (cap : Int) (fs : List PF) : Prop where
 tot : (totP fs : Int) ≤ cap
 nam : ∀ p ∈ fs, DkName p.1
 cnt : fs.length ≤ 256
 syn : ∀ p ∈ fs, p.2.2 ≤ p.2.1.length
 nod : (fs.map (·.1)).Nodup
theorem Dk4.Ok.fs (h : d.Ok) : FsOk d.cap d.fs := ⟨h.tot, h.nam, h.cnt, h.syn, h.nod⟩
theorem Dk4.Ok.mk2 (h : d.Ok) {fs' : List PF} (f : FsOk d.cap fs') {a : Int} (h0 : 0 ≤ a) (h1 : a ≤ 9223372036854775807) (b : Bool) (c' : Nat → Int) : (⟨fs', d.cap, a, b, c'⟩ : Dk4).Ok := ⟨h.cap0, h.cap1, f.tot, h0, h1, f.nam, f.cnt, f.syn, f.nod⟩
theorem settle_no {g : Nat} {caps : Array Value} {torn : Bool} {ea : Nat} {x : Int} {u : FrameMode} (hD : Dsk w O dB d) (hx : ¬ x = 0) (he : w.cell? ⟨ea, 0, none⟩ = some (.int .i64 x)) :
  CallsD Try.prog 45 #[.pointer (some ⟨dB, 0, none⟩), .pointer (some ⟨ea, 0, none⟩), .agg #[.func (Fn.func g) #[] caps, .bool torn]] u w fun e u' w' => u' = u ∧ e = .returned (.tuple #[]) ∧ w'.cell? ⟨ea, 0, none⟩ = some (.int .i64 x) ∧ ∃ O2, Dsk w' O2 dB d ∧ Go4 w w' (fun i => O i ∨ i = ea) (fun i => O2 i ∨ i = ea) := by
 refine (settle_err (dB := dB) hx he).mono ?_
 rintro e u' w' ⟨rfl, rfl, h1, h2⟩
 exact ⟨rfl, rfl, h1, O, hD.below h2, Go4.of_below h2⟩
theorem settle_yes {g : Nat} {caps : Array Value} {torn : Bool} {ea mb : Nat} {fl : List FE} {u : FrameMode} {fs' : List PF} {c' : Nat → Int} (ok : d.Ok) (hD : DskM w O dB mb fl d.cap d.arm d.down d.c) (hfs : fl.map FE.pf = d.fs) (he : w.cell? ⟨ea, 0, none⟩ = some (.int .i64 0)) (hz : w.frozen? ⟨ea, 0, none⟩ = false) (hn : ¬ O ea)
  (hg : ∀ w, (callFunc g caps).run Try.prog w = .ok (.enter g caps) w) (hf : FsOk d.cap fs') (hQ : DoesQ w O dB mb fl d.cap d.c ea g caps (fun fl2 c2 => fl2.map FE.pf = fs' ∧ c2 = c')) :
  CallsD Try.prog 45 #[.pointer (some ⟨dB, 0, none⟩), .pointer (some ⟨ea, 0, none⟩), .agg #[.func (Fn.func g) #[] caps, .bool torn]] u w fun e u' w' => u' = u ∧ e = .returned (.tuple #[]) ∧ w'.cell? ⟨ea, 0, none⟩ = some (.int .i64 (actP d torn fs' c').1) ∧ ∃ O2, Dsk w' O2 dB (actP d torn fs' c').2 ∧ Go4 w w' (fun i => O i ∨ i = ea) (fun i => O2 i ∨ i = ea) := by
 have a0 := ok.arm0
 have a1 := ok.arm1
 unfold actP
 by_cases h1 : d.arm = 1
 ·rw [if_pos h1]
  cases torn with
  | false =>
   refine (settle_stop h1 hD he hz hn).mono ?_
   rintro e u' w' ⟨rfl, rfl, h2, h3, h4⟩
   exact ⟨rfl, rfl, h2, O, ⟨ok.mk2 ok.fs (by omega) (by omega) _ _, mb, fl, h3, hfs⟩, h4⟩
  | true =>
   refine (settle_torn h1 hD he hz hn hg hQ).mono ?_
   rintro e u' w' ⟨rfl, rfl, h2, O2, fl2, c2, ⟨q1, rfl⟩, h3, h4⟩
   exact ⟨rfl, rfl, h2, O2, ⟨ok.mk2 hf (by omega) (by omega) _ _, mb, fl2, h3, q1⟩, h4⟩
 ·rw [if_neg h1]
  by_cases h0 : d.arm = 0
  ·refine (settle_free h0 hD he hz hn hg hQ).mono ?_
   rintro e u' w' ⟨rfl, rfl, h2, O2, fl2, c2, ⟨q1, rfl⟩, h3, h4⟩
   rw [if_neg (by omega)]
   exact ⟨rfl, rfl, h2, O2, ⟨ok.mk2 hf (by omega) (by omega) _ _, mb, fl2, h3, q1⟩, h4⟩
  ·refine (settle_more (by omega) a1 hD he hz hn hg hQ).mono ?_
   rintro e u' w' ⟨rfl, rfl, h2, O2, fl2, c2, ⟨q1, rfl⟩, h3, h4⟩
   rw [if_pos (by omega)]
   exact ⟨rfl, rfl, h2, O2, ⟨ok.mk2 hf (by omega) (by omega) _ _, mb, fl2, h3, q1⟩, h4⟩
def AnsD (w : World) (O : Nat → Prop) (dB : Nat) (r : Int × Dk4) (e : Ending) (w' : World) : Prop := e = .returned (.int .i64 r.1) ∧ ∃ O2, Dsk w' O2 dB r.2 ∧ Go4 w w' O O2
theorem door4 {fn : Func} {tmps : Array Value} {k ea : Nat} {fv : Value} {r : Int × Dk4} {torn : Bool} {wd : World} (hres : fn.results = #[ResultVar.cell k 53]) (htm : tmps[k]? = some (.pointer (some ⟨ea, 0, none⟩))) (b : Below w.heap.size w wd) (hea : w.heap.size ≤ ea)
  (h : CallsD Try.prog 45 #[.pointer (some ⟨dB, 0, none⟩), .pointer (some ⟨ea, 0, none⟩), .agg #[fv, .bool torn]] .returning wd fun e u' w' => u' = .returning ∧ e = .returned (.tuple #[]) ∧ w'.cell? ⟨ea, 0, none⟩ = some (.int .i64 r.1) ∧ ∃ O2, Dsk w' O2 dB r.2 ∧ Go4 wd w' (fun i => O i ∨ i = ea) (fun i => O2 i ∨ i = ea)) :
  Leaves Try.prog fn tmps (AnsD w O dB r) [{ target := Target.fn (Fn.func 45) #[], args := #[.pointer (some ⟨dB, 0, none⟩), .pointer (some ⟨ea, 0, none⟩), .agg #[fv, .bool torn]] }] .returning wd := by
 refine leaves_cons (f := 45) (args := #[.pointer (some ⟨dB, 0, none⟩), .pointer (some ⟨ea, 0, none⟩), .agg #[fv, .bool torn]]) (by simp) (by simp [go_sem]) ?_
 refine h.mono ?_
 rintro e u' w' ⟨rfl, rfl, hc, O2, hd, hg⟩
 refine ⟨.int .i64 r.1, ?_, rfl, O2, hd, hg.open_ b hea⟩
 simp [results, hres, go_sem, htm, hc, Try.isAgg53]
end Go.Proofs.Ytlkhphhmhffdjaa

namespace Go.Proofs.Ytlkhphhmhffdjaa
open Go.RowKit Go.MapKept
variable {w w' W : World} {O O' : Nat → Prop} {dB : Nat} {d : Dk4}
def createD (d : Dk4) (s : ByteArray) : Int × Dk4 :=
 if rdyN d.down [s] ≠ 0 then (rdyN d.down [s], d)
 else if (atP d.fs s).isSome then (41, d)
 else if 256 ≤ d.fs.length then (44, d)
 else actP d false (setP d.fs (s, [], 0)) d.c
theorem rdy_name {down : Bool} {ss : List ByteArray} (h : rdyN down ss = 0) : ∀ s ∈ ss, DkName s := by
 unfold rdyN chkN at h
 split at h
 ·cases h
 ·split at h
  ·assumption
  ·cases h
theorem atP_none {s : ByteArray} : ∀ {l : List PF}, atP l s = none → ∀ p ∈ l, p.1 ≠ s
 | [], _, p, hp => by cases hp
 | x :: xs, h, p, hp => by
  by_cases e : x.1 = s
  ·rw [atP, if_pos e] at h; cases h
  ·rw [atP, if_neg e] at h
   rcases List.mem_cons.1 hp with rfl | hp
   ·exact e
   ·exact atP_none h p hp
theorem setP_new {f : PF} : ∀ {l : List PF}, (∀ p ∈ l, p.1 ≠ f.1) → setP l f = l ++ [f]
 | [], _ => rfl
 | x :: xs, h => by
  rw [setP, if_neg (h x (by simp)), setP_new (fun p hp => h p (by simp [hp]))]
  rfl
theorem totP_append (a b : List PF) : totP (a ++ b) = totP a + totP b := by
 unfold totP
 rw [List.map_append, List.sum_append]
theorem fsOk_create {d : Dk4} (ok : d.Ok) {s : ByteArray} (hs : DkName s) (hn : atP d.fs s = none) (hc : ¬ 256 ≤ d.fs.length) : FsOk d.cap (setP d.fs (s, [], 0)) := by
 have e := setP_new (f := (s, [], 0)) (atP_none hn)
 rw [e]
 refine ⟨?_, fun p hp => ?_, by simp; omega, fun p hp => ?_, ?_⟩
 ·rw [totP_append]
  have := ok.tot
  simp [totP] at this ⊢
  exact this
 ·rcases List.mem_append.1 hp with h | h
  ·exact ok.nam p h
  ·simp at h; subst h; exact hs
 ·rcases List.mem_append.1 hp with h | h
  ·exact ok.syn p h
  ·simp at h; subst h; simp
 ·rw [List.map_append, List.nodup_append]
  refine ⟨ok.nod, by simp, fun a ha b hb => ?_⟩
  obtain ⟨p, hp, rfl⟩ := List.mem_map.1 ha
  simp at hb
  subst hb
  exact atP_none hn p hp
set_option maxRecDepth 100000 in
set_option maxHeartbeats 2000000 in
theorem create_any {s : ByteArray} (hD : Dsk w O dB d) : Calls Try.prog 24 #[.pointer (some ⟨dB, 0, none⟩), .string s] w (AnsD w O dB (createD d s)) := by
 have hmf : ∀ (fn : Fn) (first cap : Array Value) (w : World), (Instr.makeFunc fn first cap).run Try.prog w = .ok (.func fn first cap) w := fun _ _ _ _ => rfl
 obtain ⟨R, hR⟩ : ∃ R, R = createD d s := ⟨_, rfl⟩
 rw [← hR]
 have HR := Lib.hid hR
 have HD := Lib.hid hD
 clear hR hD
 go_enter_defers Try.func24, Try.ntmps24
 go_upto_region 2 with fail
 clear hmf
 have cs : (((w.alloc (.cells #[.pointer (some ⟨dB, 0, none⟩)] 39)).alloc (.cells #[.string s] 9)).alloc (.cells #[.int .i64 0] 53)).cell? ⟨w.heap.size, 0, none⟩ = some (.pointer (some ⟨dB, 0, none⟩)) ∧ (((w.alloc (.cells #[.pointer (some ⟨dB, 0, none⟩)] 39)).alloc (.cells #[.string s] 9)).alloc (.cells #[.int .i64 0] 53)).cell? ⟨w.heap.size + 1, 0, none⟩ = some (.string s) ∧ (((w.alloc (.cells #[.pointer (some ⟨dB, 0, none⟩)] 39)).alloc (.cells #[.string s] 9)).alloc (.cells #[.int .i64 0] 53)).cell? ⟨w.heap.size + 1 + 1, 0, none⟩ = some (.int .i64 0) ∧ (((w.alloc (.cells #[.pointer (some ⟨dB, 0, none⟩)] 39)).alloc (.cells #[.string s] 9)).alloc (.cells #[.int .i64 0] 53)).frozen? ⟨w.heap.size + 1 + 1, 0, none⟩ = false ∧ (((w.alloc (.cells #[.pointer (some ⟨dB, 0, none⟩)] 39)).alloc (.cells #[.string s] 9)).alloc (.cells #[.int .i64 0] 53)).heap.size = w.heap.size + 1 + 1 + 1 := by
  refine ⟨?_, ?_, ?_, ?_, ?_⟩ <;> simp [go_sem]
 have b0 : Below w.heap.size w (((w.alloc (.cells #[.pointer (some ⟨dB, 0, none⟩)] 39)).alloc (.cells #[.string s] 9)).alloc (.cells #[.int .i64 0] 53)) := (((Below.refl _ _).alloc (Nat.le_refl _) _).alloc (by simp) _).alloc (by simp; omega) _
 obtain ⟨W0, hW0⟩ : ∃ W0, W0 = (((w.alloc (.cells #[.pointer (some ⟨dB, 0, none⟩)] 39)).alloc (.cells #[.string s] 9)).alloc (.cells #[.int .i64 0] 53)) := ⟨_, rfl⟩
 rw [← hW0] at cs b0 ⊢
 obtain ⟨ea, hea⟩ : ∃ ea, ea = w.heap.size + 1 + 1 := ⟨_, rfl⟩
 obtain ⟨q, hq⟩ : ∃ q, q = w.heap.size + 1 := ⟨_, rfl⟩
 obtain ⟨p, hp⟩ : ∃ p, p = w.heap.size := ⟨_, rfl⟩
 rw [← hea, ← hq, ← hp] at cs ⊢
 obtain ⟨cp, cq, ce, ze, sz⟩ := cs
 have D0 := HD.out.below b0
 obtain ⟨HOK, mb, fl, hM, hfl⟩ := D0
 obtain ⟨es, clock, hm⟩ := hM.map
 have HW := Lib.hid (And.intro hea (And.intro hq (And.intro hp sz)))
 have np : ¬ O p := fun h => by have := HD.out.lt p h; omega
 have nq : ¬ O q := fun h => by have := HD.out.lt q h; omega
 have ne : ¬ O ea := fun h => by have := HD.out.lt ea h; omega
 have npe : p ≠ ea := by omega
 have nqe : q ≠ ea := by omega
 have le : ea < W0.heap.size := by omega
 have lp : p < W0.heap.size := by omega
 have lq : q < W0.heap.size := by omega
 have HB := Lib.hid b0
 have HM := Lib.hid hM
 have HFL := Lib.hid hfl
 have HMP := Lib.hid hm
 have HN := Lib.hid (And.intro np (And.intro nq ne))
 clear hW0 b0 hea hq hp sz hM hfl hm np nq ne
 -- ready
 have b1 := (Below.refl W0.heap.size W0).alloc (Nat.le_refl _) (.cells #[.string s] 9)
 have r1 := rdN1 W0 s
 have c1 : (W0.alloc (.cells #[.string s] 9)).cell? ⟨p, 0, none⟩ = some (.pointer (some ⟨dB, 0, none⟩)) ∧ (W0.alloc (.cells #[.string s] 9)).cell? ⟨q, 0, none⟩ = some (.string s) ∧ (W0.alloc (.cells #[.string s] 9)).cell? ⟨ea, 0, none⟩ = some (.int .i64 0) ∧ (W0.alloc (.cells #[.string s] 9)).frozen? ⟨ea, 0, none⟩ = false := by
  refine ⟨(b1.cell (p := ⟨p, 0, none⟩) lp).trans cp, (b1.cell (p := ⟨q, 0, none⟩) lq).trans cq, (b1.cell (p := ⟨ea, 0, none⟩) le).trans ce, (b1.frozen (p := ⟨ea, 0, none⟩) le).trans ze⟩
 obtain ⟨W1, hW1⟩ : ∃ W1, W1 = W0.alloc (.cells #[.string s] 9) := ⟨_, rfl⟩
 rw [← hW1] at b1 r1 c1
 have M1 := HM.out.below b1
 have HC := Lib.hid (ready_any M1.box r1)
 have HW1 := Lib.hid hW1
 have HB1 := Lib.hid (HB.out.trans (b1.mono HB.out.size))
 have HM1 := Lib.hid M1
 have HC1 := Lib.hid c1
 obtain ⟨kk, hk⟩ : ∃ k, k = rdyN d.down [s] := ⟨_, rfl⟩
 simp only [List.length_cons, List.length_nil, Nat.zero_add] at HC
 rw [← hk] at HC
 have HKK := Lib.hid hk
 clear hW1 b1 r1 c1 M1 hk
 go_wp2_with fail
 rw [← HW1.out]
 refine HC.out.mono ?_
 rintro e w2 ⟨rfl, rfl⟩
 clear cp cq ce ze
 obtain ⟨cp, cq, ce, ze⟩ := HC1.out
 have hle : w.heap.size ≤ ea := by have := HW.out.1; omega
 have Hst : ∀ X : World, Below w.heap.size w X ∧ DskM X O dB mb fl d.cap d.arm d.down d.c → ∀ x : Value, Below w.heap.size w (X.setCell ⟨ea, 0, none⟩ x) ∧ DskM (X.setCell ⟨ea, 0, none⟩ x) O dB mb fl d.cap d.arm d.down d.c := fun X h x => ⟨h.1.setCell hle _, h.2.off ⟨ea, 0, none⟩ HN.out.2.2 x⟩
 have HST := Lib.hid Hst
 have H2 := Lib.hid (And.intro HB1.out HM1.out)
 clear Hst
 by_cases h0 : kk = 0
 ·subst h0
  go_upto_region 5 with fail
  have hX := HST.out _ H2.out (.int .i64 0)
  have cX : (w2.setCell ⟨ea, 0, none⟩ (.int .i64 0)).cell? ⟨p, 0, none⟩ = some (.pointer (some ⟨dB, 0, none⟩)) ∧ (w2.setCell ⟨ea, 0, none⟩ (.int .i64 0)).cell? ⟨q, 0, none⟩ = some (.string s) ∧ (w2.setCell ⟨ea, 0, none⟩ (.int .i64 0)).cell? ⟨ea, 0, none⟩ = some (.int .i64 0) ∧ (w2.setCell ⟨ea, 0, none⟩ (.int .i64 0)).frozen? ⟨ea, 0, none⟩ = false := by
   have npe2 := Ne.symm npe
   have nqe2 := Ne.symm nqe
   refine ⟨?_, ?_, ?_, ?_⟩ <;> simp [go_sem, cp, cq, ce, ze, npe, nqe, npe2, nqe2]
  obtain ⟨X, hX0⟩ : ∃ X, X = w2.setCell ⟨ea, 0, none⟩ (.int .i64 0) := ⟨_, rfl⟩
  rw [← hX0] at hX cX ⊢
  have HX := Lib.hid hX
  have HCX := Lib.hid cX
  clear hX hX0 cX cp cq ce ze
  obtain ⟨es2, clock2, hm2⟩ := HX.out.2.map
  have HM2 := Lib.hid hm2
  have lmb := hm2.lt
  have ldb := HX.out.2.box.lt
  have lpX := World.block_lt_of_cell? _ _ HCX.out.1
  have lqX := World.block_lt_of_cell? _ _ HCX.out.2.1
  clear hm2
  obtain ⟨P0, hP0⟩ : ∃ P0, P0 = ptrO (atN (fl.map FE.nb) s) := ⟨_, rfl⟩
  have HP0 := Lib.hid hP0
  have BD : Below X.heap.size X X.drew := (Below.refl _ _).drew
  refine wp_region_noPanic ?_
  refine wp_region_anyE (S := fun wx => Below X.heap.size X wx) (E := fun j => true) (by kernel_rfl) ?_
  have hHeld : Below X.heap.size X X.drew := BD
  have HB := Lib.hid BD
  obtain ⟨Z0, hZ0⟩ : ∃ z, z = X.drew := ⟨_, rfl⟩
  rw [← hZ0] at HB hHeld ⊢
  clear hZ0 BD
  refine AnyE.take (i := 0) (.pointer (some ⟨dB, 0, none⟩)) rfl (by kernel_rfl) (by kernel_rfl) (by kernel_rfl) (by kernel_rfl) (fun _ _ _ h => h) (.inl ⟨by kernel_rfl, fun wy hy => by (have q0 := (hy.cell (p := ⟨p, 0, none⟩) lpX).trans HCX.out.1; go_simp; done)⟩) hHeld ?_
  try simp only [Act.put, List.setIfInBounds_toArray, List.set_cons_zero, List.set_cons_succ]
  refine AnyE.take (i := 1) (.pointer (some ⟨dB, 0, none⟩)) rfl (by kernel_rfl) (by kernel_rfl) (by kernel_rfl) (by kernel_rfl) (fun _ _ _ h => h) (.inl ⟨by kernel_rfl, fun wy hy => by (go_simp; done)⟩) hHeld ?_
  try simp only [Act.put, List.setIfInBounds_toArray, List.set_cons_zero, List.set_cons_succ]
  refine AnyE.take (i := 2) (.pointer (some ⟨dB, 0, none⟩)) rfl (by kernel_rfl) (by kernel_rfl) (by kernel_rfl) (by kernel_rfl) (fun _ _ _ h => h) (.inl ⟨by kernel_rfl, fun wy hy => by (go_simp; done)⟩) hHeld ?_
  try simp only [Act.put, List.setIfInBounds_toArray, List.set_cons_zero, List.set_cons_succ]
  refine AnyE.take (i := 3) (.map (some mb)) rfl (by kernel_rfl) (by kernel_rfl) (by kernel_rfl) (by kernel_rfl) (fun _ _ _ h => h) (.inl ⟨by kernel_rfl, fun wy hy => by (have q0 := (HX.out.2.box.kept (hy.block _ ldb)).cells.1; go_simp; done)⟩) hHeld ?_
  try simp only [Act.put, List.setIfInBounds_toArray, List.set_cons_zero, List.set_cons_succ]
  refine AnyE.take (i := 4) (.string s) rfl (by kernel_rfl) (by kernel_rfl) (by kernel_rfl) (by kernel_rfl) (fun _ _ _ h => h) (.inl ⟨by kernel_rfl, fun wy hy => by (have q0 := (hy.cell (p := ⟨q, 0, none⟩) lqX).trans HCX.out.2.1; go_simp; done)⟩) hHeld ?_
  try simp only [Act.put, List.setIfInBounds_toArray, List.set_cons_zero, List.set_cons_succ]
  refine AnyE.take (i := 5) (P0) rfl (by kernel_rfl) (by kernel_rfl) (by kernel_rfl) (by kernel_rfl) (fun _ _ _ h => h) (.inl ⟨by kernel_rfl, fun wy hy => by (have q0 := (HM2.out.kept (hy.block _ lmb)).look s; have q1 : P0 = ptrO (atN (fl.map (fun f => (f.nm, f.b))) s) := HP0.out; rw [← q1] at q0; go_simp; done)⟩) hHeld ?_
  try simp only [Act.put, List.setIfInBounds_toArray, List.set_cons_zero, List.set_cons_succ]
  have hZ : Below w.heap.size w Z0 ∧ DskM Z0 O dB mb fl d.cap d.arm d.down d.c := ⟨HX.out.1.trans (HB.out.mono HX.out.1.size), HX.out.2.below HB.out⟩
  have cZ : Z0.cell? ⟨p, 0, none⟩ = some (.pointer (some ⟨dB, 0, none⟩)) ∧ Z0.cell? ⟨q, 0, none⟩ = some (.string s) ∧ Z0.cell? ⟨ea, 0, none⟩ = some (.int .i64 0) ∧ Z0.frozen? ⟨ea, 0, none⟩ = false := by
   have leX := World.block_lt_of_cell? _ _ HCX.out.2.2.1
   exact ⟨(HB.out.cell (p := ⟨p, 0, none⟩) lpX).trans HCX.out.1, (HB.out.cell (p := ⟨q, 0, none⟩) lqX).trans HCX.out.2.1, (HB.out.cell (p := ⟨ea, 0, none⟩) leX).trans HCX.out.2.2.1, (HB.out.frozen (p := ⟨ea, 0, none⟩) leX).trans HCX.out.2.2.2⟩
  have HZ := Lib.hid hZ
  have HCZ := Lib.hid cZ
  have hbZ := (HM2.out.kept (HB.out.block _ lmb)).blk
  have hlen : es2.size = fl.length := by rw [HM2.out.len, List.length_map]
  have HLEN := Lib.hid hlen
  have HBZ := Lib.hid hbZ
  have hat : atP d.fs s = (atF fl s).map (fun f => (f.dat, f.syn)) := by rw [← HFL.out, atF_pf]
  have hln : d.fs.length = fl.length := by rw [← HFL.out, List.length_map]
  have HAT := Lib.hid (And.intro hat hln)
  clear hZ cZ hbZ hlen hat hln
  cases hF : atF fl s with
  | some f =>
   have hPv : P0 = .pointer (some ⟨f.b, 0, none⟩) := by rw [HP0.out, atF_nb, hF]; rfl
   have hRR : R = (41, d) := by rw [HR.out, createD, ← HKK.out, if_neg (by simp), HAT.out.1, hF, if_pos (by simp)]
   subst hRR
   rw [hPv]
   clear hPv hF
   refine AnyE.take (i := 6) (.bool true) rfl (by kernel_rfl) (by kernel_rfl) (by kernel_rfl) (by kernel_rfl) (fun _ _ _ h => h) (.inl ⟨by kernel_rfl, fun wy hy => by (go_simp; done)⟩) hHeld ?_
   try simp only [Act.put, List.setIfInBounds_toArray, List.set_cons_zero, List.set_cons_succ]
   refine AnyE.done (by kernel_rfl) (NoPanic.normal ?_) _
   obtain ⟨cp, cq, ce, ze⟩ := HCZ.out
   go_wp2_with fail
   change Leaves _ _ _ _ _ _ _
   refine door4 (k := 4) (ea := ea) rfl rfl (HST.out _ HZ.out _).1 hle ?_
   exact settle_no ⟨HOK, mb, fl, (HST.out _ HZ.out _).2, HFL.out⟩ (by simp) (by simp [go_sem, ce])
  | none =>
   have hPv : P0 = .pointer none := by rw [HP0.out, atF_nb, hF]; rfl
   rw [hPv]
   clear hPv
   have HF := Lib.hid hF
   clear hF
   refine AnyE.take (i := 6) (.bool false) rfl (by kernel_rfl) (by kernel_rfl) (by kernel_rfl) (by kernel_rfl) (fun _ _ _ h => h) (.inl ⟨by kernel_rfl, fun wy hy => by (go_simp; done)⟩) hHeld ?_
   try simp only [Act.put, List.setIfInBounds_toArray, List.set_cons_zero, List.set_cons_succ]
   refine AnyE.done (by kernel_rfl) (NoPanic.normal ?_) _
   obtain ⟨cp, cq, ce, ze⟩ := HCZ.out
   have q0 := HZ.out.2.box.cells.1
   have q1 := HBZ.out
   have q2 : Try.prog.underlying 77 = some (.map (Try.prog.mapKeyOf 77) (Try.prog.mapElemOf 77)) := by kernel_rfl
   have q3 : ∀ ty, (Builtin.len_ #[77] ty #[.map (some mb)]).run Try.prog Z0 = .ok (.int .i64 (fl.length : Int)) Z0 := fun ty => by
    have := run_len_map (P := Try.prog) (w := Z0) 77 ty mb es2 clock2 q2 q1
    rw [HLEN.out] at this
    exact this
   clear q1 q2
   obtain ⟨nn, hnn⟩ : ∃ nn, nn = fl.length := ⟨_, rfl⟩
   rw [← hnn] at q3
   have HNN := Lib.hid hnn
   clear hnn
   by_cases h256 : 256 ≤ nn
   ·have i1 : (256 : Int) ≤ (nn : Int) := by omega
    have hRR : R = (44, d) := by rw [HR.out, createD, ← HKK.out, if_neg (by simp), HAT.out.1, HF.out, if_neg (by simp), if_pos (by rw [HAT.out.2, ← HNN.out]; exact h256)]
    subst hRR
    go_wp2_with fail
    change Leaves _ _ _ _ _ _ _
    refine door4 (k := 4) (ea := ea) rfl rfl (HST.out _ HZ.out _).1 hle ?_
    exact settle_no ⟨HOK, mb, fl, (HST.out _ HZ.out _).2, HFL.out⟩ (by simp) (by simp [go_sem, ce])
   ·have i1 : ¬ (256 : Int) ≤ (nn : Int) := by omega
    have hno : atP d.fs s = none := by rw [HAT.out.1, HF.out]; rfl
    have h256b : ¬ 256 ≤ d.fs.length := by rw [HAT.out.2, ← HNN.out]; exact h256
    have hnm : DkName s := rdy_name HKK.out.symm s (by simp)
    have hRR : R = actP d false (setP d.fs (s, [], 0)) d.c := by rw [HR.out, createD, ← HKK.out, if_neg (by simp), hno, if_neg (by simp), if_neg h256b]
    subst hRR
    go_wp2_with fail
    change Leaves _ _ _ _ _ _ _
    refine door4 (k := 4) (ea := ea) rfl rfl (HST.out _ HZ.out _).1 hle ?_
    have npe2 := Ne.symm npe
    have nqe2 := Ne.symm nqe
    refine settle_yes HOK (HST.out _ HZ.out _).2 HFL.out (by simp [go_sem, ce]) (by simp [go_sem, ze]) HN.out.2.2 (fun w => by simp [go_sem]) (fsOk_create HOK hnm hno h256b) ?_
    have lpZ := World.block_lt_of_cell? _ _ cp
    have lqZ := World.block_lt_of_cell? _ _ cq
    intro arm1 down1 V hV gV
    have vp : V.cell? ⟨p, 0, none⟩ = some (.pointer (some ⟨dB, 0, none⟩)) := (World.cell?_of_block (a := ⟨p, 0, none⟩) (gV.block p (by simpa [World.setCell] using lpZ) (fun h => h.elim HN.out.1 npe))).trans (by simp [go_sem, cp, npe, npe2])
    have vq : V.cell? ⟨q, 0, none⟩ = some (.string s) := (World.cell?_of_block (a := ⟨q, 0, none⟩) (gV.block q (by simpa [World.setCell] using lqZ) (fun h => h.elim HN.out.2.1 nqe))).trans (by simp [go_sem, cq, nqe, nqe2])
    have := create1_any hV vp vq (by have := hnm.2.1; omega) HF.out
    rw [HFL.out] at this
    exact this
 ·have h0n : (kk != 0) = true := by simp [h0]
  have hRR : R = (kk, d) := by rw [HR.out, createD, ← HKK.out, if_pos h0]
  subst hRR
  go_wp2_with fail
  change Leaves _ _ _ _ _ _ _
  refine door4 (k := 4) (ea := ea) rfl rfl (HST.out _ (HST.out _ H2.out _) _).1 hle ?_
  exact settle_no ⟨HOK, mb, fl, (HST.out _ (HST.out _ H2.out _) _).2, HFL.out⟩ h0 (by simp [go_sem, ce])
end Go.Proofs.Ytlkhphhmhffdjaa

namespace Go.Proofs.Ytlkhphhmhffdjaa
open Go.RowKit Go.MapKept

theorem atP_mem {s : ByteArray} {v : List Nat × Nat} : ∀ {l : List PF}, atP l s = some v → (s, v) ∈ l
 | x :: xs, h => by
  by_cases e : x.1 = s
  ·rw [atP, if_pos e] at h
   cases h
   rw [← e]
   simp
  ·rw [atP, if_neg e] at h
   exact List.mem_cons_of_mem _ (atP_mem h)
theorem setP_mem {f x : PF} : ∀ {l : List PF}, x ∈ setP l f → x = f ∨ x ∈ l
 | [], h => by simp [setP] at h; exact .inl h
 | y :: l, h => by
  by_cases e : y.1 = f.1
  ·rw [setP, if_pos e] at h
   rcases List.mem_cons.1 h with h | h
   ·exact .inl h
   ·exact .inr (by simp [h])
  ·rw [setP, if_neg e] at h
   rcases List.mem_cons.1 h with rfl | h
   ·exact .inr (by simp)
   ·exact (setP_mem h).imp id (fun h => by simp [h])
theorem setP_names {f : PF} {v : List Nat × Nat} : ∀ {l : List PF}, atP l f.1 = some v → (setP l f).map (·.1) = l.map (·.1)
 | x :: xs, h => by
  by_cases e : x.1 = f.1
  ·rw [setP, if_pos e]
   simp [e]
  ·rw [atP, if_neg e] at h
   rw [setP, if_neg e, List.map_cons, setP_names h]
   rfl
theorem totP_set {f : PF} {v : List Nat × Nat} : ∀ {l : List PF}, atP l f.1 = some v → totP (setP l f) + v.1.length = totP l + f.2.1.length
 | x :: xs, h => by
  by_cases e : x.1 = f.1
  ·rw [atP, if_pos e] at h
   cases h
   rw [setP, if_pos e]
   simp only [totP, List.map_cons, List.sum_cons]
   omega
  ·rw [atP, if_neg e] at h
   have := totP_set h
   rw [setP, if_neg e]
   simp only [totP, List.map_cons, List.sum_cons] at this ⊢
   omega
theorem totP_put (f : PF) : ∀ l : List PF, totP (setP l f) ≤ totP l + f.2.1.length
 | [] => by simp [setP, totP]
 | x :: xs => by
  have := totP_put f xs
  by_cases e : x.1 = f.1
  ·rw [setP, if_pos e]
   simp only [totP, List.map_cons, List.sum_cons]
   omega
  ·rw [setP, if_neg e]
   simp only [totP, List.map_cons, List.sum_cons] at this ⊢
   omega
theorem lenP_put (f : PF) : ∀ l : List PF, (setP l f).length ≤ l.length + 1
 | [] => by simp [setP]
 | x :: xs => by
  have := lenP_put f xs
  by_cases e : x.1 = f.1
  ·rw [setP, if_pos e]
   simp
  ·rw [setP, if_neg e]
   simp only [List.length_cons]
   omega
theorem delP_sub (s : ByteArray) : ∀ l : List PF, (delP l s).Sublist l
 | [] => List.Sublist.refl _
 | x :: xs => by
  by_cases h : x.1 = s
  ·rw [delP, if_pos h]; exact List.sublist_cons_self _ _
  ·rw [delP, if_neg h]; exact (delP_sub s xs).cons_cons _
theorem totP_del {s : ByteArray} {v : List Nat × Nat} : ∀ {l : List PF}, atP l s = some v → totP (delP l s) + v.1.length = totP l ∧ (delP l s).length + 1 = l.length
 | x :: xs, h => by
  by_cases e : x.1 = s
  ·rw [atP, if_pos e] at h
   cases h
   rw [delP, if_pos e]
   refine ⟨?_, rfl⟩
   simp only [totP, List.map_cons, List.sum_cons]
   omega
  ·rw [atP, if_neg e] at h
   have i := totP_del h
   rw [delP, if_neg e]
   refine ⟨?_, by simp only [List.length_cons]; omega⟩
   have i1 := i.1
   simp only [totP, List.map_cons, List.sum_cons] at i1 ⊢
   omega
theorem setP_nodup {f : PF} : ∀ {l : List PF}, (l.map (·.1)).Nodup → ((setP l f).map (·.1)).Nodup
 | l, hn => by
  cases h : atP l f.1 with
  | some v => rw [setP_names h]; exact hn
  | none =>
   rw [setP_new (atP_none h), List.map_append, List.nodup_append]
   refine ⟨hn, by simp, fun a ha b hb => ?_⟩
   obtain ⟨p, hp, rfl⟩ := List.mem_map.1 ha
   simp at hb
   subst hb
   exact atP_none h p hp
theorem fsOk_set {d : Dk4} (ok : d.Ok) {s : ByteArray} {v : List Nat × Nat} (h : atP d.fs s = some v) {dat : List Nat} {syn : Nat} (h1 : totP d.fs + dat.length ≤ d.cap.toNat + v.1.length) (h2 : syn ≤ dat.length) : FsOk d.cap (setP d.fs (s, dat, syn)) := by
 have t := totP_set (f := (s, dat, syn)) h
 have c0 := ok.cap0
 refine ⟨?_, fun p hp => ?_, ?_, fun p hp => ?_, setP_nodup ok.nod⟩
 ·simp only at t
  omega
 ·rcases setP_mem hp with rfl | hp
  ·exact ok.nam (s, v) (atP_mem h)
  ·exact ok.nam p hp
 ·have : ((setP d.fs (s, dat, syn)).map (·.1)).length = (d.fs.map (·.1)).length := by rw [setP_names h]
  rw [List.length_map, List.length_map] at this
  rw [this]
  exact ok.cnt
 ·rcases setP_mem hp with rfl | hp
  ·exact h2
  ·exact ok.syn p hp
theorem fsOk_del {d : Dk4} (ok : d.Ok) {s : ByteArray} : FsOk d.cap (delP d.fs s) := by
 have sub := delP_sub s d.fs
 have t : totP (delP d.fs s) ≤ totP d.fs := by
  cases h : atP d.fs s with
  | some v => have := (totP_del h).1; omega
  | none =>
   have : delP d.fs s = d.fs := by
    have key : ∀ l : List PF, atP l s = none → delP l s = l := by
     intro l
     induction l with
     | nil => intro _; rfl
     | cons x xs ih =>
      intro h
      by_cases e : x.1 = s
      ·rw [atP, if_pos e] at h; cases h
      ·rw [atP, if_neg e] at h
       rw [delP, if_neg e, ih h]
    exact key _ h
   rw [this]
   exact Nat.le_refl _
 have := ok.tot
 exact ⟨by omega, fun p hp => ok.nam p (sub.mem hp), Nat.le_trans sub.length_le ok.cnt, fun p hp => ok.syn p (sub.mem hp), ok.nod.sublist (sub.map _)⟩
theorem fsOk_ren {d : Dk4} (ok : d.Ok) {s t : ByteArray} {v : List Nat × Nat} (h : atP d.fs s = some v) (ht : DkName t) : FsOk d.cap (setP (delP d.fs s) (t, v)) := by
 have sub := delP_sub s d.fs
 have f := fsOk_del ok (s := s)
 have t1 := totP_del h
 have t2 := totP_put (t, v) (delP d.fs s)
 have t3 := lenP_put (t, v) (delP d.fs s)
 have t4 := ok.cnt
 have t5 := ok.tot
 refine ⟨by simp only at t2; omega, fun p hp => ?_, by omega, fun p hp => ?_, setP_nodup f.nod⟩
 ·rcases setP_mem hp with rfl | hp
  ·exact ht
  ·exact f.nam p hp
 ·rcases setP_mem hp with rfl | hp
  ·exact ok.syn (s, v) (atP_mem h)
  ·exact f.syn p hp
def reaE (d : Dk4) (s : ByteArray) : Int := if rdyN d.down [s] = 0 then (if (atP d.fs s).isSome then 0 else 42) else rdyN d.down [s]
theorem reaN_eq {d : Dk4} {fl : List FE} {s : ByteArray} (h : fl.map FE.pf = d.fs) : (reaN d.down (fl.map FE.nb) s).2 = reaE d s := by
 unfold reaN reaE
 have e1 : (atN (fl.map FE.nb) s).isSome = (atP d.fs s).isSome := by rw [← h, atF_pf, atF_nb]; cases atF fl s <;> rfl
 split
 ·simp only
  rw [e1]
 ·rfl
theorem reaN_ok {d : Dk4} {fl : List FE} {s : ByteArray} (h : fl.map FE.pf = d.fs) (h0 : reaE d s = 0) : rdyN d.down [s] = 0 ∧ ∃ f, atF fl s = some f ∧ (reaN d.down (fl.map FE.nb) s).1 = some f.b ∧ atP d.fs s = some (f.dat, f.syn) := by
 unfold reaE at h0
 split at h0
 ·rename_i hr
  refine ⟨hr, ?_⟩
  unfold reaN
  rw [if_pos hr]
  simp only
  rw [← h, atF_pf] at h0 ⊢
  rw [atF_nb]
  cases hf : atF fl s with
  | none => rw [hf] at h0; simp at h0
  | some f => exact ⟨f, rfl, rfl, rfl⟩
 ·rename_i hr
  exact absurd h0 hr
end Go.Proofs.Ytlkhphhmhffdjaa

namespace Go.Proofs.Ytlkhphhmhffdjaa
open Go.RowKit Go.MapKept
variable {w w' W : World} {O O' : Nat → Prop} {dB : Nat} {d : Dk4}
theorem set_same {w : World} {a : Addr} {u v : Value} (h : w.cell? a = some u) : (w.setCell a v).cell? a = some v := by
 simp [go_sem, h]
theorem set_ne {w : World} {a b i k : Nat} {u v : Value} (h : w.cell? ⟨b, i, none⟩ = some u) (hb : b ≠ a) : (w.setCell ⟨a, k, none⟩ v).cell? ⟨b, i, none⟩ = some u := (World.cell?_of_block (a := ⟨b, i, none⟩) (heap_setCell_other _ _ _ _ hb)).trans h
theorem totP_mem {s : ByteArray} {v : List Nat × Nat} {l : List PF} (h : atP l s = some v) : v.1.length ≤ totP l := by
 have := (totP_del h).1
 omega
def syncD (d : Dk4) (s : ByteArray) : Int × Dk4 :=
 if reaE d s ≠ 0 then (reaE d s, d) else actP d false (setP d.fs (s, ((atP d.fs s).getD ([], 0)).1, ((atP d.fs s).getD ([], 0)).1.length)) (setCt d.c 2 (wrap64 (d.c 2 + 1)))
def deleteD (d : Dk4) (s : ByteArray) : Int × Dk4 :=
 if reaE d s ≠ 0 then (reaE d s, d) else actP d false (delP d.fs s) (setCt d.c 4 (wrap64 (d.c 4 + 1)))
set_option maxRecDepth 100000 in
set_option maxHeartbeats 2000000 in
theorem sync_any {s : ByteArray} (hD : Dsk w O dB d) : Calls Try.prog 57 #[.pointer (some ⟨dB, 0, none⟩), .string s] w (AnsD w O dB (syncD d s)) := by
 have hmf : ∀ (fn : Fn) (first cap : Array Value) (w : World), (Instr.makeFunc fn first cap).run Try.prog w = .ok (.func fn first cap) w := fun _ _ _ _ => rfl
 obtain ⟨R, hR⟩ : ∃ R, R = syncD d s := ⟨_, rfl⟩
 rw [← hR]
 have HR := Lib.hid hR
 have HD := Lib.hid hD
 clear hR hD
 go_enter_defers Try.func57, Try.ntmps57
 go_upto_region 3 with fail
 clear hmf
 have cs : ((((w.alloc (.cells #[.pointer (some ⟨dB, 0, none⟩)] 39)).alloc (.cells #[.int .i64 0] 53)).alloc (.cells #[.pointer none] 76)).cell? ⟨w.heap.size, 0, none⟩ = some (.pointer (some ⟨dB, 0, none⟩)) ∧ (((w.alloc (.cells #[.pointer (some ⟨dB, 0, none⟩)] 39)).alloc (.cells #[.int .i64 0] 53)).alloc (.cells #[.pointer none] 76)).frozen? ⟨w.heap.size, 0, none⟩ = false ∧ (((w.alloc (.cells #[.pointer (some ⟨dB, 0, none⟩)] 39)).alloc (.cells #[.int .i64 0] 53)).alloc (.cells #[.pointer none] 76)).cell? ⟨w.heap.size + 1, 0, none⟩ = some (.int .i64 0) ∧ (((w.alloc (.cells #[.pointer (some ⟨dB, 0, none⟩)] 39)).alloc (.cells #[.int .i64 0] 53)).alloc (.cells #[.pointer none] 76)).frozen? ⟨w.heap.size + 1, 0, none⟩ = false ∧ (((w.alloc (.cells #[.pointer (some ⟨dB, 0, none⟩)] 39)).alloc (.cells #[.int .i64 0] 53)).alloc (.cells #[.pointer none] 76)).cell? ⟨w.heap.size + 1 + 1, 0, none⟩ = some (.pointer none) ∧ (((w.alloc (.cells #[.pointer (some ⟨dB, 0, none⟩)] 39)).alloc (.cells #[.int .i64 0] 53)).alloc (.cells #[.pointer none] 76)).frozen? ⟨w.heap.size + 1 + 1, 0, none⟩ = false) ∧ (((w.alloc (.cells #[.pointer (some ⟨dB, 0, none⟩)] 39)).alloc (.cells #[.int .i64 0] 53)).alloc (.cells #[.pointer none] 76)).heap.size = w.heap.size + 3 := by
  refine ⟨?_, ?_⟩ <;> simp [go_sem]
 have b0 : Below w.heap.size w (((w.alloc (.cells #[.pointer (some ⟨dB, 0, none⟩)] 39)).alloc (.cells #[.int .i64 0] 53)).alloc (.cells #[.pointer none] 76)) := ((((Below.refl _ _).alloc (Nat.le_refl _) _).alloc (by simp) _).alloc (by simp; omega) _)
 obtain ⟨W0, hW0⟩ : ∃ W0, W0 = (((w.alloc (.cells #[.pointer (some ⟨dB, 0, none⟩)] 39)).alloc (.cells #[.int .i64 0] 53)).alloc (.cells #[.pointer none] 76)) := ⟨_, rfl⟩
 rw [← hW0] at cs b0 ⊢
 obtain ⟨fv, h_fv⟩ : ∃ x, x = w.heap.size + 1 + 1 := ⟨_, rfl⟩
 obtain ⟨ea, h_ea⟩ : ∃ x, x = w.heap.size + 1 := ⟨_, rfl⟩
 obtain ⟨p, h_p⟩ : ∃ x, x = w.heap.size := ⟨_, rfl⟩
 rw [← h_fv, ← h_ea, ← h_p] at cs ⊢
 obtain ⟨⟨c_p, z_p, c_ea, z_ea, c_fv, z_fv⟩, sz⟩ := cs
 obtain ⟨HOK, mb, fl, hM, hfl⟩ := HD.out.below b0
 obtain ⟨es, clock, hm⟩ := hM.map
 have HN : Hid (¬ O p ∧ ¬ O ea ∧ ¬ O fv) := Lib.hid (by
  refine ⟨fun h => by have := HD.out.lt _ h; omega, fun h => by have := HD.out.lt _ h; omega, fun h => by have := HD.out.lt _ h; omega⟩)
 have HLE : Hid (w.heap.size ≤ p ∧ p < W0.heap.size ∧ w.heap.size ≤ ea ∧ ea < W0.heap.size ∧ w.heap.size ≤ fv ∧ fv < W0.heap.size) := Lib.hid (by refine ⟨by omega, by omega, by omega, by omega, by omega, by omega⟩)
 have n_p_ea : p ≠ ea := by omega
 have n_p_fv : p ≠ fv := by omega
 have n_ea_p : ea ≠ p := by omega
 have n_ea_fv : ea ≠ fv := by omega
 have n_fv_p : fv ≠ p := by omega
 have n_fv_ea : fv ≠ ea := by omega
 have HM := Lib.hid hM
 have HFL := Lib.hid hfl
 have HB := Lib.hid b0
 have HRC := Lib.hid (reach_any hM.box hm s)
 clear hW0 b0 hM hfl hm sz h_p h_ea h_fv
 obtain ⟨rp, hrp⟩ : ∃ rp, rp = ptrO (reaN d.down (fl.map fun f => (f.nm, f.b)) s).1 := ⟨_, rfl⟩
 obtain ⟨rc, hrc⟩ : ∃ rc, rc = (reaN d.down (fl.map fun f => (f.nm, f.b)) s).2 := ⟨_, rfl⟩
 rw [← hrp, ← hrc] at HRC
 have hrc2 : rc = reaE d s := hrc.trans (reaN_eq HFL.out)
 have HRP := Lib.hid (And.intro hrp hrc2)
 clear hrp hrc hrc2
 go_wp2_with fail
 refine HRC.out.mono ?_
 rintro e w2 ⟨rfl, b2⟩
 have hN2 : Below w.heap.size w w2 ∧ DskM w2 O dB mb fl d.cap d.arm d.down d.c := ⟨HB.out.trans (b2.mono HB.out.size), HM.out.below b2⟩
 have Hst : ∀ X : World, Below w.heap.size w X ∧ DskM X O dB mb fl d.cap d.arm d.down d.c → ∀ (a : Nat) (x : Value), w.heap.size ≤ a → ¬ O a → Below w.heap.size w (X.setCell ⟨a, 0, none⟩ x) ∧ DskM (X.setCell ⟨a, 0, none⟩ x) O dB mb fl d.cap d.arm d.down d.c := fun X h a x h1 h2 => ⟨h.1.setCell h1 _, h.2.off ⟨a, 0, none⟩ h2 x⟩
 have HST := Lib.hid Hst
 have H2 := Lib.hid hN2
 have d_p : w2.cell? ⟨p, 0, none⟩ = some (.pointer (some ⟨dB, 0, none⟩)) := (b2.cell (p := ⟨p, 0, none⟩) HLE.out.2.1).trans c_p
 have e_p : w2.frozen? ⟨p, 0, none⟩ = false := (b2.frozen (p := ⟨p, 0, none⟩) HLE.out.2.1).trans z_p
 have d_ea : w2.cell? ⟨ea, 0, none⟩ = some (.int .i64 0) := (b2.cell (p := ⟨ea, 0, none⟩) HLE.out.2.2.2.1).trans c_ea
 have e_ea : w2.frozen? ⟨ea, 0, none⟩ = false := (b2.frozen (p := ⟨ea, 0, none⟩) HLE.out.2.2.2.1).trans z_ea
 have d_fv : w2.cell? ⟨fv, 0, none⟩ = some (.pointer none) := (b2.cell (p := ⟨fv, 0, none⟩) HLE.out.2.2.2.2.2).trans c_fv
 have e_fv : w2.frozen? ⟨fv, 0, none⟩ = false := (b2.frozen (p := ⟨fv, 0, none⟩) HLE.out.2.2.2.2.2).trans z_fv
 clear c_p z_p c_ea z_ea c_fv z_fv
 clear hN2 b2 Hst
 by_cases h0 : rc = 0
 ·subst h0
  have hq := reaN_ok HFL.out HRP.out.2.symm
  obtain ⟨hr0, f, hF, hb, hat⟩ := hq
  have hrp2 : rp = .pointer (some ⟨f.b, 0, none⟩) := by
   have : (reaN d.down (fl.map fun f => (f.nm, f.b)) s).1 = some f.b := hb
   rw [HRP.out.1, this]
   rfl
  have hm := atF_mem hF
  have hnm : DkName s := rdy_name hr0 s (by simp)
  have hsy : f.syn ≤ f.dat.length := HOK.syn _ (atP_mem hat)
  have hto := totP_set (f := (s, f.dat, f.dat.length)) hat
  have hRR : R = actP d false (setP d.fs (s, f.dat, f.dat.length)) (setCt d.c 2 (wrap64 (d.c 2 + 1))) := by
   rw [HR.out, syncD, if_neg (by rw [← HRP.out.2]; simp), hat]
   rfl
  subst hRR
  rw [hrp2]
  have HF := Lib.hid (And.intro hF (And.intro hm (And.intro hat hsy)))
  clear hr0 hF hb hat hrp2 hm hsy hto
  go_wp2_with fail
  change Leaves _ _ _ _ _ _ _
  refine door4 (k := 4) (ea := ea) rfl rfl (HST.out _ (HST.out _ (HST.out _ H2.out fv _ HLE.out.2.2.2.2.1 HN.out.2.2) ea _ HLE.out.2.2.1 HN.out.2.1) ea _ HLE.out.2.2.1 HN.out.2.1).1 HLE.out.2.2.1 ?_
  refine settle_yes HOK (HST.out _ (HST.out _ (HST.out _ H2.out fv _ HLE.out.2.2.2.2.1 HN.out.2.2) ea _ HLE.out.2.2.1 HN.out.2.1) ea _ HLE.out.2.2.1 HN.out.2.1).2 HFL.out (set_same (set_same (set_ne d_ea n_ea_fv))) (by rw [World.frozen?_setCell, World.frozen?_setCell, World.frozen?_setCell]; exact e_ea) HN.out.2.1 (fun w => by simp [go_sem]) (fsOk_set HOK HF.out.2.2.1 (by have := HOK.tot; have := HOK.cap0; simp only; omega) (Nat.le_refl _)) ?_
  have lpZ := World.block_lt_of_cell? _ _ d_p
  have lfZ := World.block_lt_of_cell? _ _ d_fv
  intro arm1 down1 V hV gV
  have vp : V.cell? ⟨p, 0, none⟩ = some (.pointer (some ⟨dB, 0, none⟩)) := (World.cell?_of_block (a := ⟨p, 0, none⟩) (gV.block p (by simpa [World.setCell] using lpZ) (fun h => h.elim HN.out.1 n_p_ea))).trans (by simp [go_sem, d_p, n_p_ea, n_ea_p, n_p_fv, n_fv_p])
  have vf : V.cell? ⟨fv, 0, none⟩ = some (.pointer (some ⟨f.b, 0, none⟩)) := (World.cell?_of_block (a := ⟨fv, 0, none⟩) (gV.block fv (by simpa [World.setCell] using lfZ) (fun h => h.elim HN.out.2.2 n_fv_ea))).trans (by simp [go_sem, d_fv, n_fv_ea, n_ea_fv])
  have hfn : f.nm = s := HF.out.2.1.2
  have := sync1_any hV vf vp HN.out.1 (by rw [hfn]; exact HF.out.1) (by have := totP_mem HF.out.2.2.1; simp only at this; have := HOK.tot; have := HOK.cap1; omega)
  rw [HFL.out, hfn] at this
  exact this
 ·have hRR : R = (rc, d) := by rw [HR.out, syncD, if_pos (by rw [← HRP.out.2]; exact h0), ← HRP.out.2]
  subst hRR
  have hpo : ∃ q, rp = .pointer q := by rw [HRP.out.1]; unfold ptrO; exact ⟨_, rfl⟩
  obtain ⟨q, rfl⟩ := hpo
  go_wp2_with fail
  change Leaves _ _ _ _ _ _ _
  refine door4 (k := 4) (ea := ea) rfl rfl (HST.out _ (HST.out _ (HST.out _ H2.out fv _ HLE.out.2.2.2.2.1 HN.out.2.2) ea _ HLE.out.2.2.1 HN.out.2.1) ea _ HLE.out.2.2.1 HN.out.2.1).1 HLE.out.2.2.1 ?_
  exact settle_no ⟨HOK, mb, fl, (HST.out _ (HST.out _ (HST.out _ H2.out fv _ HLE.out.2.2.2.2.1 HN.out.2.2) ea _ HLE.out.2.2.1 HN.out.2.1) ea _ HLE.out.2.2.1 HN.out.2.1).2, HFL.out⟩ h0 (set_same (set_same (set_ne d_ea n_ea_fv)))
set_option maxRecDepth 100000 in
set_option maxHeartbeats 2000000 in
theorem delete_any {s : ByteArray} (hD : Dsk w O dB d) : Calls Try.prog 59 #[.pointer (some ⟨dB, 0, none⟩), .string s] w (AnsD w O dB (deleteD d s)) := by
 have hmf : ∀ (fn : Fn) (first cap : Array Value) (w : World), (Instr.makeFunc fn first cap).run Try.prog w = .ok (.func fn first cap) w := fun _ _ _ _ => rfl
 obtain ⟨R, hR⟩ : ∃ R, R = deleteD d s := ⟨_, rfl⟩
 rw [← hR]
 have HR := Lib.hid hR
 have HD := Lib.hid hD
 clear hR hD
 go_enter_defers Try.func59, Try.ntmps59
 go_upto_region 2 with fail
 clear hmf
 have cs : ((((w.alloc (.cells #[.pointer (some ⟨dB, 0, none⟩)] 39)).alloc (.cells #[.string s] 9)).alloc (.cells #[.int .i64 0] 53)).cell? ⟨w.heap.size, 0, none⟩ = some (.pointer (some ⟨dB, 0, none⟩)) ∧ (((w.alloc (.cells #[.pointer (some ⟨dB, 0, none⟩)] 39)).alloc (.cells #[.string s] 9)).alloc (.cells #[.int .i64 0] 53)).frozen? ⟨w.heap.size, 0, none⟩ = false ∧ (((w.alloc (.cells #[.pointer (some ⟨dB, 0, none⟩)] 39)).alloc (.cells #[.string s] 9)).alloc (.cells #[.int .i64 0] 53)).cell? ⟨w.heap.size + 1, 0, none⟩ = some (.string s) ∧ (((w.alloc (.cells #[.pointer (some ⟨dB, 0, none⟩)] 39)).alloc (.cells #[.string s] 9)).alloc (.cells #[.int .i64 0] 53)).frozen? ⟨w.heap.size + 1, 0, none⟩ = false ∧ (((w.alloc (.cells #[.pointer (some ⟨dB, 0, none⟩)] 39)).alloc (.cells #[.string s] 9)).alloc (.cells #[.int .i64 0] 53)).cell? ⟨w.heap.size + 1 + 1, 0, none⟩ = some (.int .i64 0) ∧ (((w.alloc (.cells #[.pointer (some ⟨dB, 0, none⟩)] 39)).alloc (.cells #[.string s] 9)).alloc (.cells #[.int .i64 0] 53)).frozen? ⟨w.heap.size + 1 + 1, 0, none⟩ = false) ∧ (((w.alloc (.cells #[.pointer (some ⟨dB, 0, none⟩)] 39)).alloc (.cells #[.string s] 9)).alloc (.cells #[.int .i64 0] 53)).heap.size = w.heap.size + 3 := by
  refine ⟨?_, ?_⟩ <;> simp [go_sem]
 have b0 : Below w.heap.size w (((w.alloc (.cells #[.pointer (some ⟨dB, 0, none⟩)] 39)).alloc (.cells #[.string s] 9)).alloc (.cells #[.int .i64 0] 53)) := ((((Below.refl _ _).alloc (Nat.le_refl _) _).alloc (by simp) _).alloc (by simp; omega) _)
 obtain ⟨W0, hW0⟩ : ∃ W0, W0 = (((w.alloc (.cells #[.pointer (some ⟨dB, 0, none⟩)] 39)).alloc (.cells #[.string s] 9)).alloc (.cells #[.int .i64 0] 53)) := ⟨_, rfl⟩
 rw [← hW0] at cs b0 ⊢
 obtain ⟨ea, h_ea⟩ : ∃ x, x = w.heap.size + 1 + 1 := ⟨_, rfl⟩
 obtain ⟨q, h_q⟩ : ∃ x, x = w.heap.size + 1 := ⟨_, rfl⟩
 obtain ⟨p, h_p⟩ : ∃ x, x = w.heap.size := ⟨_, rfl⟩
 rw [← h_ea, ← h_q, ← h_p] at cs ⊢
 obtain ⟨⟨c_p, z_p, c_q, z_q, c_ea, z_ea⟩, sz⟩ := cs
 obtain ⟨HOK, mb, fl, hM, hfl⟩ := HD.out.below b0
 obtain ⟨es, clock, hm⟩ := hM.map
 have HN : Hid (¬ O p ∧ ¬ O q ∧ ¬ O ea) := Lib.hid (by
  refine ⟨fun h => by have := HD.out.lt _ h; omega, fun h => by have := HD.out.lt _ h; omega, fun h => by have := HD.out.lt _ h; omega⟩)
 have HLE : Hid (w.heap.size ≤ p ∧ p < W0.heap.size ∧ w.heap.size ≤ q ∧ q < W0.heap.size ∧ w.heap.size ≤ ea ∧ ea < W0.heap.size) := Lib.hid (by refine ⟨by omega, by omega, by omega, by omega, by omega, by omega⟩)
 have n_p_q : p ≠ q := by omega
 have n_p_ea : p ≠ ea := by omega
 have n_q_p : q ≠ p := by omega
 have n_q_ea : q ≠ ea := by omega
 have n_ea_p : ea ≠ p := by omega
 have n_ea_q : ea ≠ q := by omega
 have HM := Lib.hid hM
 have HFL := Lib.hid hfl
 have HB := Lib.hid b0
 have HRC := Lib.hid (reach_any hM.box hm s)
 clear hW0 b0 hM hfl hm sz h_p h_q h_ea
 obtain ⟨rp, hrp⟩ : ∃ rp, rp = ptrO (reaN d.down (fl.map fun f => (f.nm, f.b)) s).1 := ⟨_, rfl⟩
 obtain ⟨rc, hrc⟩ : ∃ rc, rc = (reaN d.down (fl.map fun f => (f.nm, f.b)) s).2 := ⟨_, rfl⟩
 rw [← hrp, ← hrc] at HRC
 have hrc2 : rc = reaE d s := hrc.trans (reaN_eq HFL.out)
 have HRP := Lib.hid (And.intro hrp hrc2)
 clear hrp hrc hrc2
 go_wp2_with fail
 refine HRC.out.mono ?_
 rintro e w2 ⟨rfl, b2⟩
 have hN2 : Below w.heap.size w w2 ∧ DskM w2 O dB mb fl d.cap d.arm d.down d.c := ⟨HB.out.trans (b2.mono HB.out.size), HM.out.below b2⟩
 have Hst : ∀ X : World, Below w.heap.size w X ∧ DskM X O dB mb fl d.cap d.arm d.down d.c → ∀ (a : Nat) (x : Value), w.heap.size ≤ a → ¬ O a → Below w.heap.size w (X.setCell ⟨a, 0, none⟩ x) ∧ DskM (X.setCell ⟨a, 0, none⟩ x) O dB mb fl d.cap d.arm d.down d.c := fun X h a x h1 h2 => ⟨h.1.setCell h1 _, h.2.off ⟨a, 0, none⟩ h2 x⟩
 have HST := Lib.hid Hst
 have H2 := Lib.hid hN2
 have d_p : w2.cell? ⟨p, 0, none⟩ = some (.pointer (some ⟨dB, 0, none⟩)) := (b2.cell (p := ⟨p, 0, none⟩) HLE.out.2.1).trans c_p
 have e_p : w2.frozen? ⟨p, 0, none⟩ = false := (b2.frozen (p := ⟨p, 0, none⟩) HLE.out.2.1).trans z_p
 have d_q : w2.cell? ⟨q, 0, none⟩ = some (.string s) := (b2.cell (p := ⟨q, 0, none⟩) HLE.out.2.2.2.1).trans c_q
 have e_q : w2.frozen? ⟨q, 0, none⟩ = false := (b2.frozen (p := ⟨q, 0, none⟩) HLE.out.2.2.2.1).trans z_q
 have d_ea : w2.cell? ⟨ea, 0, none⟩ = some (.int .i64 0) := (b2.cell (p := ⟨ea, 0, none⟩) HLE.out.2.2.2.2.2).trans c_ea
 have e_ea : w2.frozen? ⟨ea, 0, none⟩ = false := (b2.frozen (p := ⟨ea, 0, none⟩) HLE.out.2.2.2.2.2).trans z_ea
 clear c_p z_p c_q z_q c_ea z_ea
 clear hN2 b2 Hst
 by_cases h0 : rc = 0
 ·subst h0
  have hq := reaN_ok HFL.out HRP.out.2.symm
  obtain ⟨hr0, f, hF, hb, hat⟩ := hq
  have hRR : R = actP d false (delP d.fs s) (setCt d.c 4 (wrap64 (d.c 4 + 1))) := by
   rw [HR.out, deleteD, if_neg (by rw [← HRP.out.2]; simp)]
  subst hRR
  clear hr0 hF hb hat
  go_wp2_with fail
  change Leaves _ _ _ _ _ _ _
  refine door4 (k := 4) (ea := ea) rfl rfl (HST.out _ (HST.out _ H2.out ea _ HLE.out.2.2.2.2.1 HN.out.2.2) ea _ HLE.out.2.2.2.2.1 HN.out.2.2).1 HLE.out.2.2.2.2.1 ?_
  refine settle_yes HOK (HST.out _ (HST.out _ H2.out ea _ HLE.out.2.2.2.2.1 HN.out.2.2) ea _ HLE.out.2.2.2.2.1 HN.out.2.2).2 HFL.out (set_same (set_same d_ea)) (by rw [World.frozen?_setCell, World.frozen?_setCell]; exact e_ea) HN.out.2.2 (fun w => by simp [go_sem]) (fsOk_del HOK) ?_
  have lpZ := World.block_lt_of_cell? _ _ d_p
  have lqZ := World.block_lt_of_cell? _ _ d_q
  intro arm1 down1 V hV gV
  have vp : V.cell? ⟨p, 0, none⟩ = some (.pointer (some ⟨dB, 0, none⟩)) := (World.cell?_of_block (a := ⟨p, 0, none⟩) (gV.block p (by simpa [World.setCell] using lpZ) (fun h => h.elim HN.out.1 n_p_ea))).trans (set_ne (set_ne d_p n_p_ea) n_p_ea)
  have vq : V.cell? ⟨q, 0, none⟩ = some (.string s) := (World.cell?_of_block (a := ⟨q, 0, none⟩) (gV.block q (by simpa [World.setCell] using lqZ) (fun h => h.elim HN.out.2.1 n_q_ea))).trans (set_ne (set_ne d_q n_q_ea) n_q_ea)
  have := delete1_any hV vp vq HN.out.1
  rw [HFL.out] at this
  exact this
 ·have hRR : R = (rc, d) := by rw [HR.out, deleteD, if_pos (by rw [← HRP.out.2]; exact h0), ← HRP.out.2]
  subst hRR
  have hpo : ∃ q, rp = .pointer q := by rw [HRP.out.1]; unfold ptrO; exact ⟨_, rfl⟩
  obtain ⟨qq, rfl⟩ := hpo
  go_wp2_with fail
  change Leaves _ _ _ _ _ _ _
  refine door4 (k := 4) (ea := ea) rfl rfl (HST.out _ (HST.out _ H2.out ea _ HLE.out.2.2.2.2.1 HN.out.2.2) ea _ HLE.out.2.2.2.2.1 HN.out.2.2).1 HLE.out.2.2.2.2.1 ?_
  exact settle_no ⟨HOK, mb, fl, (HST.out _ (HST.out _ H2.out ea _ HLE.out.2.2.2.2.1 HN.out.2.2) ea _ HLE.out.2.2.2.2.1 HN.out.2.2).2, HFL.out⟩ h0 (set_same (set_same d_ea))
end Go.Proofs.Ytlkhphhmhffdjaa
