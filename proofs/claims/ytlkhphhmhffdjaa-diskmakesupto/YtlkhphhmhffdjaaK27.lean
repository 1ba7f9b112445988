import Derived.Test.YtlkhphhmhffdjaaK26
set_option linter.unusedSimpArgs false
set_option linter.unusedVariables false
namespace Go.Proofs.Ytlkhphhmhffdjaa
open Go.RowKit Go.MapKept Go.Sort
variable {w w' W X : World} {O O' U U' : Nat → Prop} {wB i : Nat} {z : Int} {qs : List Pr4} {o : OpD} {p : Pr4}
def opC (k : Int) (a : Option Addr) (n c : Nat) (bs : List Nat) : OpD := ⟨k, 0, { data := #[102, 105, 114, 115, 116] }, ⟨#[]⟩, a, n, c, bs, 0, 0, none, 0, 0, [], none, 0, 0, []⟩
theorem rd_nil5 (w : World) : Rd w (.slice none 0 0) [] := ⟨fun x hx => (by cases hx), none, 0, rfl, Nat.le_refl _, by decide, by decide, .inl rfl, .inl rfl⟩
theorem rdOp_C {k : Int} {a : Option Addr} {n c : Nat} {bs : List Nat} (h : RdA w U (.slice a n c) bs) (hb : bs.length ≤ 1048576) : RdOp w U (opC k a n c bs) :=
 ⟨h, hb, ⟨⟨Nat.le_refl _, Nat.zero_le _⟩, fun i j hj => (by simp [opC] at hj)⟩, rfl, fun _ => rfl, by simp [opC], ⟨⟨⟨Nat.le_refl _, Nat.zero_le _⟩, fun i x hx => (by simp [opC] at hx), fun x hx => (by simp [opC] at hx)⟩, fun g off e ne => absurd rfl ne, fun x hx => (by simp [opC] at hx)⟩, rfl, by simp [opC], fun x hx => (by simp [opC] at hx), by simp [opC], by simp [opC], by simp [opC]⟩
theorem Ws.start {Y : World} {p : Pr4} (k : p.T Y) {X : World} (hX : X = ((Y.alloc (.cells #[pv p.dB] 39)).alloc (.cells #[pv p.rB] 41)).alloc (.cells #[.slice (some ⟨Y.heap.size, 0, none⟩) 1 1, .slice (some ⟨Y.heap.size + 1, 0, none⟩) 1 1, .slice none 0 0, .slice none 0 0, .int .i64 0] 37)) :
  Ws X (Y.heap.size + 2) (fun i => p.In i ∨ (Y.heap.size ≤ i ∧ i ≤ Y.heap.size + 2)) 0 [p] ∧ Below Y.heap.size Y X := by
 obtain ⟨Y1, hY1⟩ : ∃ Y1, Y1 = Y.alloc (.cells #[pv p.dB] 39) := ⟨_, rfl⟩
 rw [← hY1] at hX
 obtain ⟨Y2, hY2⟩ : ∃ Y2, Y2 = Y1.alloc (.cells #[pv p.rB] 41) := ⟨_, rfl⟩
 rw [← hY2] at hX
 have s1 : Y1.heap.size = Y.heap.size + 1 := by rw [hY1]; simp
 have s2 : Y2.heap.size = Y.heap.size + 2 := by rw [hY2]; simp [s1]
 have hs : X.heap.size = Y.heap.size + 3 := by rw [hX]; simp [s2]
 have b1 : Below Y.heap.size Y Y1 := by rw [hY1]; exact (Below.refl _ Y).alloc (Nat.le_refl _) _
 have b2 : Below Y1.heap.size Y1 Y2 := by rw [hY2]; exact (Below.refl _ Y1).alloc (Nat.le_refl _) _
 have b3 : Below Y2.heap.size Y2 X := by rw [hX]; exact (Below.refl _ Y2).alloc (Nat.le_refl _) _
 have b : Below Y.heap.size Y X := (b1.trans (b2.mono b1.size)).trans (b3.mono (Nat.le_trans b1.size b2.size))
 have h0 : X.heap[Y.heap.size]? = some (.cells #[pv p.dB] 39 (0, 0)) := by
  rw [b3.block _ (by omega), b2.block _ (by omega), hY1]; exact heap_new _ _
 have h1 : X.heap[Y.heap.size + 1]? = some (.cells #[pv p.rB] 41 (0, 0)) := by
  rw [b3.block _ (by omega), hY2, ← s1]; exact heap_new _ _
 have h2 : X.heap[Y.heap.size + 2]? = some (.cells #[.slice (some ⟨Y.heap.size, 0, none⟩) 1 1, .slice (some ⟨Y.heap.size + 1, 0, none⟩) 1 1, .slice none 0 0, .slice none 0 0, .int .i64 0] 37 (0, 0)) := by
  rw [hX, ← s2]; exact heap_new _ _
 have hlt : ∀ i, p.In i → i < Y.heap.size := fun i hi => T5.lt k i hi
 refine ⟨⟨.slice (some ⟨Y.heap.size, 0, none⟩) 1 1, .slice (some ⟨Y.heap.size + 1, 0, none⟩) 1 1, none, 0, none, 0, 0, [], fun _ => False, ?_⟩, b⟩
 refine ⟨⟨h2, ⟨rfl, .inr ⟨Y.heap.size, 1, #[pv p.dB], rfl, Nat.zero_le _, h0, Nat.le_refl _, by decide, rfl, rfl⟩⟩, ⟨rfl, .inr ⟨Y.heap.size + 1, 1, #[pv p.rB], rfl, Nat.zero_le _, h1, Nat.le_refl _, by decide, rfl, rfl⟩⟩⟩, ?_, ?_, ?_, ?_, fun i hi => hi.elim, by decide, (by simp), ?_, ?_, ?_⟩
 ·exact ⟨rfl, ⟨rfl, fun u hu => (by cases hu), World.ownsRow_nil _ _ _ _⟩, ⟨rfl, World.ownsRow_nil _ _ _ _⟩, fun g e => (by cases e), fun g e => (by cases e), fun x hx => (by cases hx), fun x hx => (by cases hx), fun x hx => (by cases hx), by decide, fun i hi => hi.elim⟩
 ·intro q hq
  rw [List.mem_singleton] at hq
  subst hq
  exact T5.kept k (fun i hi => b.block i (hlt i hi)) b.size
 ·intro i j q1 q2 hne h1 h2
  have e1 := (List.getElem?_eq_some_iff.1 h1).1
  have e2 := (List.getElem?_eq_some_iff.1 h2).1
  simp at e1 e2
  omega
 ·intro q hq i hi hx
  rw [List.mem_singleton] at hq
  subst hq
  have := hlt i hi
  rcases hx with hx | hx | hx | hx
  ·exact hx
  ·omega
  ·simp only [Value.ownBlock, Option.some.injEq] at hx; omega
  ·simp only [Value.ownBlock, Option.some.injEq] at hx; omega
 ·intro i hx
  rcases hx with hx | hx | hx | hx
  ·exact hx.elim
  ·exact .inr (by omega)
  ·simp only [Value.ownBlock, Option.some.injEq] at hx; exact .inr (by omega)
  ·simp only [Value.ownBlock, Option.some.injEq] at hx; exact .inr (by omega)
 ·intro q hq i hi
  rw [List.mem_singleton] at hq
  subst hq
  exact .inl hi
 ·intro i hi
  rcases hi with hi | hi
  ·have := hlt i hi; omega
  ·omega
def StartedP (w : World) (e : Ending) (w' : World) : Prop := ∃ (wB : Nat) (U : Nat → Prop) (z : Int) (qs : List Pr4), e = .returned (.pointer (some ⟨wB, 0, none⟩)) ∧ Ws w' wB U z qs ∧ Lks qs ∧ (∀ p ∈ qs, p.d.down = false ∧ p.d.arm = 0) ∧ 0 < qs.length ∧ z ≤ 4000000000000 ∧ Below w.heap.size w w' ∧ ∀ i, U i → w.heap.size ≤ i
def FRow4 (w : World) (gf b7 : Nat) : Prop := w.heap[gf]? = some (.cells #[.int .i64 1, .int .i64 0, .string { data := #[102, 105, 114, 115, 116] }, .string ⟨#[]⟩, .slice none 0 0, .int .i64 0, .int .i64 0, .slice none 0 0, .slice none 0 0, .int .i64 2, .int .i64 0, .string { data := #[102, 105, 114, 115, 116] }, .string ⟨#[]⟩, .slice (some ⟨b7, 0, none⟩) 1 1, .int .i64 0, .int .i64 0, .slice none 0 0, .slice none 0 0, .int .i64 7, .int .i64 0, .string { data := #[102, 105, 114, 115, 116] }, .string ⟨#[]⟩, .slice none 0 0, .int .i64 0, .int .i64 0, .slice none 0 0, .slice none 0 0, .int .i64 5, .int .i64 0, .string { data := #[102, 105, 114, 115, 116] }, .string ⟨#[]⟩, .slice none 0 0, .int .i64 0, .int .i64 0, .slice none 0 0, .slice none 0 0] 30 (0, 0))
theorem FRow4.cells {gf b7 : Nat} (h : FRow4 w gf b7) (t : Nat) (u : Value) (hu : (#[.int .i64 1, .int .i64 0, .string { data := #[102, 105, 114, 115, 116] }, .string ⟨#[]⟩, .slice none 0 0, .int .i64 0, .int .i64 0, .slice none 0 0, .slice none 0 0, .int .i64 2, .int .i64 0, .string { data := #[102, 105, 114, 115, 116] }, .string ⟨#[]⟩, .slice (some ⟨b7, 0, none⟩) 1 1, .int .i64 0, .int .i64 0, .slice none 0 0, .slice none 0 0, .int .i64 7, .int .i64 0, .string { data := #[102, 105, 114, 115, 116] }, .string ⟨#[]⟩, .slice none 0 0, .int .i64 0, .int .i64 0, .slice none 0 0, .slice none 0 0, .int .i64 5, .int .i64 0, .string { data := #[102, 105, 114, 115, 116] }, .string ⟨#[]⟩, .slice none 0 0, .int .i64 0, .int .i64 0, .slice none 0 0, .slice none 0 0] : Array Value)[t]? = some u) : w.cell? ⟨gf, t, none⟩ = some u := by
 unfold FRow4 at h
 simp only [World.cell?, h]
 simpa using hu
theorem rd_seven {b : Nat} (h : w.heap[b]? = some (.cells #[.int .u8 7] 5 (0, 0))) : Rd w (.slice (some ⟨b, 0, none⟩) 1 1) [7] := by
 refine ⟨by intro x hx; simp at hx; omega, some ⟨b, 0, none⟩, 1, rfl, by simp, by decide, by simp, .inr ⟨_, _, rfl⟩, .inr ⟨b, 0, rfl, fun i hi => ?_⟩⟩
 have hi0 : i = 0 := by simpa using hi
 subst hi0
 unfold World.cell?
 rw [h]
 rfl
set_option maxRecDepth 100000 in
set_option maxHeartbeats 4000000 in
theorem started_any {n : Int} (h1 : 1 ≤ n) (h2 : n ≤ 67108864) : Calls Try.prog 5 #[.int .i64 n] w (StartedP w) := by
 have H1 := Lib.hid (And.intro h1 h2)
 clear h1 h2
 go_enter Try.func5, Try.ntmps5
 go_wp2_with fail
 refine (new4_any (by have := H1.out; omega) (by have := H1.out; omega) _).mono ?_
 rintro e1 Z1 ⟨A1, dB1, he1, k1, b1, a1⟩
 subst he1
 have D1 := Lib.hid (And.intro k1 (And.intro b1 a1))
 clear k1 b1 a1
 go_wp2_with fail
 refine (rNew_any (by have := H1.out; omega) (by have := H1.out; omega) _).mono ?_
 rintro e2 Y ⟨B1, rB1, he2, k2, b2, a2⟩
 subst he2
 have BF := Lib.hid (D1.out.2.1.trans (b2.mono D1.out.2.1.size))
 have tk : T5 Y A1 B1 dB1 rB1 (newD n) (newD n) := ⟨D1.out.1.below b2, k2, fun i hi hi2 => by have := D1.out.1.lt4 i hi; have := a2 i hi2; omega⟩
 have TK := Lib.hid tk
 have hge : ∀ i, (A1 i ∨ B1 i) → w.heap.size ≤ i := fun i hi => hi.elim (D1.out.2.2 i) (fun q => Nat.le_trans D1.out.2.1.size (a2 i q))
 have HGE := Lib.hid hge
 clear k2 b2 a2 tk hge
 go_wp2_with fail
 refine (num4_any _ _).mono ?_
 rintro e3 Y2 ⟨he3, hy2⟩
 subst he3
 rw [hy2]
 clear hy2
 go_upto_region 6 with fail
 have hX : ∃ X, X = ((Y.alloc (.cells #[pv dB1] 39)).alloc (.cells #[pv rB1] 41)).alloc (.cells #[.slice (some ⟨Y.heap.size, 0, none⟩) 1 1, .slice (some ⟨Y.heap.size + 1, 0, none⟩) 1 1, .slice none 0 0, .slice none 0 0, .int .i64 0] 37) := ⟨_, rfl⟩
 obtain ⟨X, hX⟩ := hX
 have st := Ws.start (p := ⟨A1, B1, dB1, rB1, newD n, newD n⟩) TK.out hX
 unfold pv at hX
 rw [← hX]
 have hwB : ∃ wB, wB = Y.heap.size + 2 := ⟨_, rfl⟩
 obtain ⟨wB, hwB⟩ := hwB
 have hwB2 : Y.heap.size + 1 + 1 = wB := by omega
 rw [← hwB] at st
 rw [hwB2]
 have ST := Lib.hid st
 have HUg : Hid (∀ i, (Pr4.In ⟨A1, B1, dB1, rB1, newD n, newD n⟩ i ∨ (Y.heap.size ≤ i ∧ i ≤ wB)) → w.heap.size ≤ i) := fun i hi => hi.elim (HGE.out i) (fun q => Nat.le_trans BF.out.size q.1)
 clear hX st hwB hwB2
 go_upto_region 7 with fail
 have hV : ∃ V, V = (X.alloc (.cells #[.int .u8 7] 5)).alloc (.cells #[.int .i64 1, .int .i64 0, .string { data := #[102, 105, 114, 115, 116] }, .string ⟨#[]⟩, .slice none 0 0, .int .i64 0, .int .i64 0, .slice none 0 0, .slice none 0 0, .int .i64 2, .int .i64 0, .string { data := #[102, 105, 114, 115, 116] }, .string ⟨#[]⟩, .slice (some ⟨X.heap.size, 0, none⟩) 1 1, .int .i64 0, .int .i64 0, .slice none 0 0, .slice none 0 0, .int .i64 7, .int .i64 0, .string { data := #[102, 105, 114, 115, 116] }, .string ⟨#[]⟩, .slice none 0 0, .int .i64 0, .int .i64 0, .slice none 0 0, .slice none 0 0, .int .i64 5, .int .i64 0, .string { data := #[102, 105, 114, 115, 116] }, .string ⟨#[]⟩, .slice none 0 0, .int .i64 0, .int .i64 0, .slice none 0 0, .slice none 0 0] 30) := ⟨_, rfl⟩
 obtain ⟨V, hV⟩ := hV
 have bX := ST.out.2
 have s1 : (X.alloc (.cells #[.int .u8 7] 5)).heap.size = X.heap.size + 1 := by simp
 have b1 : Below X.heap.size X (X.alloc (.cells #[.int .u8 7] 5)) := (Below.refl _ X).alloc (Nat.le_refl _) _
 have b2 : Below (X.alloc (.cells #[.int .u8 7] 5)).heap.size (X.alloc (.cells #[.int .u8 7] 5)) V := by rw [hV]; exact (Below.refl _ _).alloc (Nat.le_refl _) _
 have bV : Below X.heap.size X V := b1.trans (b2.mono b1.size)
 obtain ⟨b7, hb7⟩ : ∃ b7, b7 = X.heap.size := ⟨_, rfl⟩
 obtain ⟨gf, hgf⟩ : ∃ gf, gf = X.heap.size + 1 := ⟨_, rfl⟩
 have f7 : V.heap[b7]? = some (.cells #[.int .u8 7] 5 (0, 0)) := by
  rw [hb7, b2.block _ (by omega)]; exact heap_new _ _
 have ff : FRow4 V gf b7 := by
  unfold FRow4
  rw [hV, hgf, hb7, ← s1]; exact heap_new _ _
 have n7 : ∀ i, (Pr4.In ⟨A1, B1, dB1, rB1, newD n, newD n⟩ i ∨ (Y.heap.size ≤ i ∧ i ≤ wB)) → i < X.heap.size := ST.out.1.lt
 rw [← hV]
 rw [← hgf, ← hb7]
 have S0 := Lib.hid (And.intro (ST.out.1.later bV) (And.intro f7 (And.intro ff (And.intro (BF.out.trans ((bX.trans (bV.mono bX.size)).mono BF.out.size)) (And.intro (fun q => by have := n7 _ q; omega : ¬ (Pr4.In ⟨A1, B1, dB1, rB1, newD n, newD n⟩ gf ∨ (Y.heap.size ≤ gf ∧ gf ≤ wB))) (fun q => by have := n7 _ q; omega : ¬ (Pr4.In ⟨A1, B1, dB1, rB1, newD n, newD n⟩ b7 ∨ (Y.heap.size ≤ b7 ∧ b7 ≤ wB))))))))
 clear hV bX s1 b1 b2 bV hb7 hgf f7 ff n7
 go_wp2_with fail
 go_loopw [9, 10] (fun v _ wr => ∃ (t : Nat) (U : Nat → Prop) (z : Int) (qs : List Pr4), t ≤ 4 ∧ v = .int .i64 (t : Int) ∧ Hid (Ws wr wB U z qs ∧ Lks qs ∧ (∀ p ∈ qs, p.d.down = false ∧ p.d.arm = 0) ∧ 0 < qs.length ∧ z ≤ (t : Int) * 1000000000000 ∧ wr.heap[b7]? = some (.cells #[.int .u8 7] 5 (0, 0)) ∧ FRow4 wr gf b7 ∧ ¬ U gf ∧ ¬ U b7 ∧ Below w.heap.size w wr ∧ ∀ i, U i → w.heap.size ≤ i)) (fun v _ _ => 4 - (intOf v).toNat)
 case atStart => exact ⟨0, _, 0, _, by decide, rfl, S0.out.1, fun p hp => by rw [List.mem_singleton] at hp; subst hp; exact Lk.new n, fun p hp => by rw [List.mem_singleton] at hp; subst hp; exact ⟨rfl, rfl⟩, by simp, by decide, S0.out.2.1, S0.out.2.2.1, S0.out.2.2.2.2.1, S0.out.2.2.2.2.2, S0.out.2.2.2.1, HUg.out⟩
 case round =>
  obtain ⟨t, U, z, qs, ht, rfl, HS⟩ := hrel
  by_cases hlt : t < 4
  ·have ht4 : t = 0 ∨ t = 1 ∨ t = 2 ∨ t = 3 := by omega
   have HZ : Hid (z + 1000000000000 ≤ 4611686018427387904) := by have := HS.out.2.2.2.2.1; show _ ≤ _; omega
   rcases ht4 with rfl | rfl | rfl | rfl
   ·have q0 := HS.out.2.2.2.2.2.2.1.cells 0 _ rfl
    have q1 := HS.out.2.2.2.2.2.2.1.cells 1 _ rfl
    have q2 := HS.out.2.2.2.2.2.2.1.cells 2 _ rfl
    have q3 := HS.out.2.2.2.2.2.2.1.cells 3 _ rfl
    have q4 := HS.out.2.2.2.2.2.2.1.cells 4 _ rfl
    have q5 := HS.out.2.2.2.2.2.2.1.cells 5 _ rfl
    have q6 := HS.out.2.2.2.2.2.2.1.cells 6 _ rfl
    have q7 := HS.out.2.2.2.2.2.2.1.cells 7 _ rfl
    have q8 := HS.out.2.2.2.2.2.2.1.cells 8 _ rfl
    go_wp2_with fail
    have HC := plays_any (o := opC 1 none 0 0 []) HS.out.1 HS.out.2.1 (rdOp_C ⟨rd_nil5 _, fun b off n c e n0 q => (by cases e)⟩ (by simp)) HS.out.2.2.2.1 HZ.out
    unfold OpD.val opC at HC
    simp only at HC
    refine HC.mono ?_
    rintro e9 Z9 ⟨he9, U9, z9, qs9, w9, lk9, g9, hz9, hl9, hc9⟩
    subst he9
    have gb := g9.block b7 (Array.getElem?_eq_some_iff.1 HS.out.2.2.2.2.2.1).1 HS.out.2.2.2.2.2.2.2.2.1
    have gg := g9.block gf (Array.getElem?_eq_some_iff.1 HS.out.2.2.2.2.2.2.1).1 HS.out.2.2.2.2.2.2.2.1
    have H9 := Lib.hid (And.intro w9 (And.intro lk9 (And.intro (hc9 ⟨by decide, by decide, by decide⟩ (by decide) HS.out.2.2.1) (And.intro (Nat.lt_of_lt_of_le HS.out.2.2.2.1 hl9) (And.intro hz9 (And.intro (gb.trans HS.out.2.2.2.2.2.1) (And.intro (show FRow4 Z9 gf b7 from gg.trans HS.out.2.2.2.2.2.2.1) (And.intro (fun q => (g9.new gf q).elim HS.out.2.2.2.2.2.2.2.1 (fun e => by have := (Array.getElem?_eq_some_iff.1 HS.out.2.2.2.2.2.2.1).1; omega)) (And.intro (fun q => (g9.new b7 q).elim HS.out.2.2.2.2.2.2.2.2.1 (fun e => by have := (Array.getElem?_eq_some_iff.1 HS.out.2.2.2.2.2.1).1; omega)) (And.intro (HS.out.2.2.2.2.2.2.2.2.2.1.trans (g9.below HS.out.2.2.2.2.2.2.2.2.2.1.size HS.out.2.2.2.2.2.2.2.2.2.2)) (fun i hi => (g9.new i hi).elim (HS.out.2.2.2.2.2.2.2.2.2.2 i) (fun e => Nat.le_trans HS.out.2.2.2.2.2.2.2.2.2.1.size e))))))))))))
    clear HC w9 lk9 g9 hz9 hl9 hc9 gb gg q0 q1 q2 q3 q4 q5 q6 q7 q8
    go_wp2
    go_roundw
    case rel => exact ⟨1, U9, z9, qs9, by decide, by first | rfl | go_num, H9.out.1, H9.out.2.1, H9.out.2.2.1, H9.out.2.2.2.1, by have := H9.out.2.2.2.2.1; have := HS.out.2.2.2.2.1; omega, H9.out.2.2.2.2.2.1, H9.out.2.2.2.2.2.2.1, H9.out.2.2.2.2.2.2.2.1, H9.out.2.2.2.2.2.2.2.2.1, H9.out.2.2.2.2.2.2.2.2.2.1, H9.out.2.2.2.2.2.2.2.2.2.2⟩
    case measure => simp [intOf]
   ·have q0 := HS.out.2.2.2.2.2.2.1.cells 9 _ rfl
    have q1 := HS.out.2.2.2.2.2.2.1.cells 10 _ rfl
    have q2 := HS.out.2.2.2.2.2.2.1.cells 11 _ rfl
    have q3 := HS.out.2.2.2.2.2.2.1.cells 12 _ rfl
    have q4 := HS.out.2.2.2.2.2.2.1.cells 13 _ rfl
    have q5 := HS.out.2.2.2.2.2.2.1.cells 14 _ rfl
    have q6 := HS.out.2.2.2.2.2.2.1.cells 15 _ rfl
    have q7 := HS.out.2.2.2.2.2.2.1.cells 16 _ rfl
    have q8 := HS.out.2.2.2.2.2.2.1.cells 17 _ rfl
    go_wp2_with fail
    have HC := plays_any (o := opC 2 (some ⟨b7, 0, none⟩) 1 1 [7]) HS.out.1 HS.out.2.1 (rdOp_C ⟨rd_seven HS.out.2.2.2.2.2.1, fun b off n c e n0 q => (by simp only [Value.slice.injEq, Option.some.injEq, Addr.mk.injEq] at e; exact HS.out.2.2.2.2.2.2.2.2.1 (by rw [e.1.1]; exact q))⟩ (by simp)) HS.out.2.2.2.1 HZ.out
    unfold OpD.val opC at HC
    simp only at HC
    refine HC.mono ?_
    rintro e9 Z9 ⟨he9, U9, z9, qs9, w9, lk9, g9, hz9, hl9, hc9⟩
    subst he9
    have gb := g9.block b7 (Array.getElem?_eq_some_iff.1 HS.out.2.2.2.2.2.1).1 HS.out.2.2.2.2.2.2.2.2.1
    have gg := g9.block gf (Array.getElem?_eq_some_iff.1 HS.out.2.2.2.2.2.2.1).1 HS.out.2.2.2.2.2.2.2.1
    have H9 := Lib.hid (And.intro w9 (And.intro lk9 (And.intro (hc9 ⟨by decide, by decide, by decide⟩ (by decide) HS.out.2.2.1) (And.intro (Nat.lt_of_lt_of_le HS.out.2.2.2.1 hl9) (And.intro hz9 (And.intro (gb.trans HS.out.2.2.2.2.2.1) (And.intro (show FRow4 Z9 gf b7 from gg.trans HS.out.2.2.2.2.2.2.1) (And.intro (fun q => (g9.new gf q).elim HS.out.2.2.2.2.2.2.2.1 (fun e => by have := (Array.getElem?_eq_some_iff.1 HS.out.2.2.2.2.2.2.1).1; omega)) (And.intro (fun q => (g9.new b7 q).elim HS.out.2.2.2.2.2.2.2.2.1 (fun e => by have := (Array.getElem?_eq_some_iff.1 HS.out.2.2.2.2.2.1).1; omega)) (And.intro (HS.out.2.2.2.2.2.2.2.2.2.1.trans (g9.below HS.out.2.2.2.2.2.2.2.2.2.1.size HS.out.2.2.2.2.2.2.2.2.2.2)) (fun i hi => (g9.new i hi).elim (HS.out.2.2.2.2.2.2.2.2.2.2 i) (fun e => Nat.le_trans HS.out.2.2.2.2.2.2.2.2.2.1.size e))))))))))))
    clear HC w9 lk9 g9 hz9 hl9 hc9 gb gg q0 q1 q2 q3 q4 q5 q6 q7 q8
    go_wp2
    go_roundw
    case rel => exact ⟨2, U9, z9, qs9, by decide, by first | rfl | go_num, H9.out.1, H9.out.2.1, H9.out.2.2.1, H9.out.2.2.2.1, by have := H9.out.2.2.2.2.1; have := HS.out.2.2.2.2.1; omega, H9.out.2.2.2.2.2.1, H9.out.2.2.2.2.2.2.1, H9.out.2.2.2.2.2.2.2.1, H9.out.2.2.2.2.2.2.2.2.1, H9.out.2.2.2.2.2.2.2.2.2.1, H9.out.2.2.2.2.2.2.2.2.2.2⟩
    case measure => simp [intOf]
   ·have q0 := HS.out.2.2.2.2.2.2.1.cells 18 _ rfl
    have q1 := HS.out.2.2.2.2.2.2.1.cells 19 _ rfl
    have q2 := HS.out.2.2.2.2.2.2.1.cells 20 _ rfl
    have q3 := HS.out.2.2.2.2.2.2.1.cells 21 _ rfl
    have q4 := HS.out.2.2.2.2.2.2.1.cells 22 _ rfl
    have q5 := HS.out.2.2.2.2.2.2.1.cells 23 _ rfl
    have q6 := HS.out.2.2.2.2.2.2.1.cells 24 _ rfl
    have q7 := HS.out.2.2.2.2.2.2.1.cells 25 _ rfl
    have q8 := HS.out.2.2.2.2.2.2.1.cells 26 _ rfl
    go_wp2_with fail
    have HC := plays_any (o := opC 7 none 0 0 []) HS.out.1 HS.out.2.1 (rdOp_C ⟨rd_nil5 _, fun b off n c e n0 q => (by cases e)⟩ (by simp)) HS.out.2.2.2.1 HZ.out
    unfold OpD.val opC at HC
    simp only at HC
    refine HC.mono ?_
    rintro e9 Z9 ⟨he9, U9, z9, qs9, w9, lk9, g9, hz9, hl9, hc9⟩
    subst he9
    have gb := g9.block b7 (Array.getElem?_eq_some_iff.1 HS.out.2.2.2.2.2.1).1 HS.out.2.2.2.2.2.2.2.2.1
    have gg := g9.block gf (Array.getElem?_eq_some_iff.1 HS.out.2.2.2.2.2.2.1).1 HS.out.2.2.2.2.2.2.2.1
    have H9 := Lib.hid (And.intro w9 (And.intro lk9 (And.intro (hc9 ⟨by decide, by decide, by decide⟩ (by decide) HS.out.2.2.1) (And.intro (Nat.lt_of_lt_of_le HS.out.2.2.2.1 hl9) (And.intro hz9 (And.intro (gb.trans HS.out.2.2.2.2.2.1) (And.intro (show FRow4 Z9 gf b7 from gg.trans HS.out.2.2.2.2.2.2.1) (And.intro (fun q => (g9.new gf q).elim HS.out.2.2.2.2.2.2.2.1 (fun e => by have := (Array.getElem?_eq_some_iff.1 HS.out.2.2.2.2.2.2.1).1; omega)) (And.intro (fun q => (g9.new b7 q).elim HS.out.2.2.2.2.2.2.2.2.1 (fun e => by have := (Array.getElem?_eq_some_iff.1 HS.out.2.2.2.2.2.1).1; omega)) (And.intro (HS.out.2.2.2.2.2.2.2.2.2.1.trans (g9.below HS.out.2.2.2.2.2.2.2.2.2.1.size HS.out.2.2.2.2.2.2.2.2.2.2)) (fun i hi => (g9.new i hi).elim (HS.out.2.2.2.2.2.2.2.2.2.2 i) (fun e => Nat.le_trans HS.out.2.2.2.2.2.2.2.2.2.1.size e))))))))))))
    clear HC w9 lk9 g9 hz9 hl9 hc9 gb gg q0 q1 q2 q3 q4 q5 q6 q7 q8
    go_wp2
    go_roundw
    case rel => exact ⟨3, U9, z9, qs9, by decide, by first | rfl | go_num, H9.out.1, H9.out.2.1, H9.out.2.2.1, H9.out.2.2.2.1, by have := H9.out.2.2.2.2.1; have := HS.out.2.2.2.2.1; omega, H9.out.2.2.2.2.2.1, H9.out.2.2.2.2.2.2.1, H9.out.2.2.2.2.2.2.2.1, H9.out.2.2.2.2.2.2.2.2.1, H9.out.2.2.2.2.2.2.2.2.2.1, H9.out.2.2.2.2.2.2.2.2.2.2⟩
    case measure => simp [intOf]
   ·have q0 := HS.out.2.2.2.2.2.2.1.cells 27 _ rfl
    have q1 := HS.out.2.2.2.2.2.2.1.cells 28 _ rfl
    have q2 := HS.out.2.2.2.2.2.2.1.cells 29 _ rfl
    have q3 := HS.out.2.2.2.2.2.2.1.cells 30 _ rfl
    have q4 := HS.out.2.2.2.2.2.2.1.cells 31 _ rfl
    have q5 := HS.out.2.2.2.2.2.2.1.cells 32 _ rfl
    have q6 := HS.out.2.2.2.2.2.2.1.cells 33 _ rfl
    have q7 := HS.out.2.2.2.2.2.2.1.cells 34 _ rfl
    have q8 := HS.out.2.2.2.2.2.2.1.cells 35 _ rfl
    go_wp2_with fail
    have HC := plays_any (o := opC 5 none 0 0 []) HS.out.1 HS.out.2.1 (rdOp_C ⟨rd_nil5 _, fun b off n c e n0 q => (by cases e)⟩ (by simp)) HS.out.2.2.2.1 HZ.out
    unfold OpD.val opC at HC
    simp only at HC
    refine HC.mono ?_
    rintro e9 Z9 ⟨he9, U9, z9, qs9, w9, lk9, g9, hz9, hl9, hc9⟩
    subst he9
    have gb := g9.block b7 (Array.getElem?_eq_some_iff.1 HS.out.2.2.2.2.2.1).1 HS.out.2.2.2.2.2.2.2.2.1
    have gg := g9.block gf (Array.getElem?_eq_some_iff.1 HS.out.2.2.2.2.2.2.1).1 HS.out.2.2.2.2.2.2.2.1
    have H9 := Lib.hid (And.intro w9 (And.intro lk9 (And.intro (hc9 ⟨by decide, by decide, by decide⟩ (by decide) HS.out.2.2.1) (And.intro (Nat.lt_of_lt_of_le HS.out.2.2.2.1 hl9) (And.intro hz9 (And.intro (gb.trans HS.out.2.2.2.2.2.1) (And.intro (show FRow4 Z9 gf b7 from gg.trans HS.out.2.2.2.2.2.2.1) (And.intro (fun q => (g9.new gf q).elim HS.out.2.2.2.2.2.2.2.1 (fun e => by have := (Array.getElem?_eq_some_iff.1 HS.out.2.2.2.2.2.2.1).1; omega)) (And.intro (fun q => (g9.new b7 q).elim HS.out.2.2.2.2.2.2.2.2.1 (fun e => by have := (Array.getElem?_eq_some_iff.1 HS.out.2.2.2.2.2.1).1; omega)) (And.intro (HS.out.2.2.2.2.2.2.2.2.2.1.trans (g9.below HS.out.2.2.2.2.2.2.2.2.2.1.size HS.out.2.2.2.2.2.2.2.2.2.2)) (fun i hi => (g9.new i hi).elim (HS.out.2.2.2.2.2.2.2.2.2.2 i) (fun e => Nat.le_trans HS.out.2.2.2.2.2.2.2.2.2.1.size e))))))))))))
    clear HC w9 lk9 g9 hz9 hl9 hc9 gb gg q0 q1 q2 q3 q4 q5 q6 q7 q8
    go_wp2
    go_roundw
    case rel => exact ⟨4, U9, z9, qs9, by decide, by first | rfl | go_num, H9.out.1, H9.out.2.1, H9.out.2.2.1, H9.out.2.2.2.1, by have := H9.out.2.2.2.2.1; have := HS.out.2.2.2.2.1; omega, H9.out.2.2.2.2.2.1, H9.out.2.2.2.2.2.2.1, H9.out.2.2.2.2.2.2.2.1, H9.out.2.2.2.2.2.2.2.2.1, H9.out.2.2.2.2.2.2.2.2.2.1, H9.out.2.2.2.2.2.2.2.2.2.2⟩
    case measure => simp [intOf]
  ·have j1 : (4 : Int) ≤ (t : Int) := by omega
   clear hlt
   go_wp2
   go_ret
   exact ⟨wB, U, z, qs, rfl, HS.out.1, HS.out.2.1, HS.out.2.2.1, HS.out.2.2.2.1, by have := HS.out.2.2.2.2.1; omega, HS.out.2.2.2.2.2.2.2.2.2.1, HS.out.2.2.2.2.2.2.2.2.2.2⟩
end Go.Proofs.Ytlkhphhmhffdjaa

namespace Go.Proofs.Ytlkhphhmhffdjaa
open Go.RowKit Go.MapKept Go.Sort
variable {w w' W X : World} {O O' U U' : Nat → Prop} {wB i : Nat} {z : Int} {qs : List Pr4} {o : OpD} {p : Pr4}
theorem Ws.holds (h : Ws w wB U z qs) : Calls Try.prog 8 #[.pointer (some ⟨wB, 2, none⟩)] w fun e w' => e = .returned (.bool true) ∧ Below w.heap.size w w' := by
 obtain ⟨vD, vR, aL, cL, aM, cM, n, its, P, h⟩ := h
 exact holds4_any h.wd.box h.bk
theorem Go4.of_b (b : Below w.heap.size w X) (hU : ∀ i, U i → w.heap.size ≤ i) : Go4 w X (fun i => w.heap.size ≤ i) U := ⟨b.os, b.tape, b.output, b.size, fun i hi _ => b.block i hi, fun i hi => .inl (hU i hi)⟩
end Go.Proofs.Ytlkhphhmhffdjaa

namespace Go.Proofs.Ytlkhphhmhffdjaa
open Go.RowKit Go.MapKept Go.Sort
variable {w w' W X : World} {O O' U U' : Nat → Prop} {wB i : Nat} {z : Int} {qs : List Pr4} {o : OpD} {p : Pr4}
def nmB (t : Nat) : ByteArray := ⟨#[102]⟩ ++ str [97 + t / 16, 97 + t % 16]
def fB (t : Nat) : GF × Value := ((nmB t, [], 0), .slice none 0 0)
def pB (t : Nat) : PF := (nmB t, [], 0)
def lB : List PF := (List.range 256).map pB
def decB (s : ByteArray) : Nat := ((s.data.getD 1 0).toNat - 97) * 16 + ((s.data.getD 2 0).toNat - 97)
theorem decB_all : (List.range 256).all (fun t => decB (nmB t) == t) = true := by kernel_rfl
theorem namB_all : (List.range 256).all (fun t => decide (DkName (nmB t))) = true := by kernel_rfl
theorem lB_nod : (lB.map (·.1)).Nodup := by
 have e : lB.map (·.1) = (List.range 256).map nmB := by unfold lB; rw [List.map_map]; rfl
 rw [e]
 refine List.pairwise_map.2 (List.Pairwise.imp_of_mem (fun {a b} ha hb hlt heq => ?_) List.pairwise_lt_range)
 have h1 := List.all_eq_true.1 decB_all a ha
 have h2 := List.all_eq_true.1 decB_all b hb
 simp only [beq_iff_eq] at h1 h2
 rw [heq, h2] at h1
 omega
theorem lB_nam : ∀ p ∈ lB, DkName p.1 := fun p hp => by
 obtain ⟨t, ht, rfl⟩ := List.mem_map.1 hp
 have := List.all_eq_true.1 namB_all t ht
 exact of_decide_eq_true this
theorem lB_len : lB.length = 256 := by unfold lB; rw [List.length_map, List.length_range]
theorem lB_tot : totP lB = 0 := by kernel_rfl
def dB0 : Dk4 := ⟨lB, 9, 0, false, fun _ => 0⟩
theorem loadB : loadD 9 (((List.range 256).map fB).map (·.1)) = (0, dB0) := by
 have e : ((List.range 256).map fB).map (·.1) = lB.map PF.g := by unfold lB; rw [List.map_map, List.map_map]; rfl
 rw [e]
 unfold loadD
 rw [if_neg (by decide), if_neg (by rw [List.length_map, lB_len]; decide), loadL_all lB (newD 9) lB_nam (by simpa [newD] using lB_nod) (fun p hp => by obtain ⟨t, _, rfl⟩ := List.mem_map.1 hp; exact Nat.le_refl _) (by rw [lB_tot]; simp [newD, totP])]
 rfl
def nF1 : ByteArray := { data := #[102, 97, 97] }
def nF2 : ByteArray := { data := #[102, 112, 112] }
def nF3 : ByteArray := { data := #[110, 101, 119] }
def nF0 : ByteArray := { data := #[] }
theorem at_f1 : (atP lB nF1).isSome = true := by kernel_rfl
theorem at_f2 : (atP lB nF2).isSome = true := by kernel_rfl
theorem at_f3 : atP lB nF3 = none := by kernel_rfl
def eB (s : ByteArray) : Int := if s = nF0 then 40 else if s = nF3 then 44 else 41
theorem rdyB (s : ByteArray) (h : DkName s) : rdyN false [s] = 0 := by unfold rdyN chkN; simp [h]
theorem createB (s : ByteArray) (h : s = nF1 ∨ s = nF2 ∨ s = nF3 ∨ s = nF0) : createD dB0 s = (eB s, dB0) := by
 rcases h with rfl | rfl | rfl | rfl
 ·unfold createD
  rw [if_neg (by show ¬ rdyN false [nF1] ≠ 0; rw [rdyB _ (of_decide_eq_true (by kernel_rfl))]; decide), if_pos (show (atP dB0.fs nF1).isSome = true from at_f1)]; rfl
 ·unfold createD
  rw [if_neg (by show ¬ rdyN false [nF2] ≠ 0; rw [rdyB _ (of_decide_eq_true (by kernel_rfl))]; decide), if_pos (show (atP dB0.fs nF2).isSome = true from at_f2)]; rfl
 ·unfold createD
  rw [if_neg (by show ¬ rdyN false [nF3] ≠ 0; rw [rdyB _ (of_decide_eq_true (by kernel_rfl))]; decide), if_neg (by show ¬ (atP lB nF3).isSome = true; rw [at_f3]; decide), if_pos (by show 256 ≤ lB.length; rw [lB_len]; decide)]; rfl
 ·rw [create_bad (of_decide_eq_false (by kernel_rfl)) rfl]; rfl
theorem createBR {r : Dk4} (lk : Lk dB0 r) (s : ByteArray) (h : s = nF1 ∨ s = nF2 ∨ s = nF3 ∨ s = nF0) : createR r s = (eB s, r) := by
 have h1 : (createR r s).1 = eB s := by rw [← (create_lk lk s).1, createB s h]
 have hne : eB s ≠ 0 := by
  unfold eB
  split
  ·decide
  ·split <;> decide
 have hd : r.down = false := lk.down.symm
 have ha : r.arm = 0 := lk.arm.symm
 unfold createR at h1 ⊢
 split
 ·next q => rw [if_pos q] at h1; simp only at h1; rw [h1]
 ·next q =>
  rw [if_neg q] at h1
  split
  ·next q2 => rw [if_pos q2] at h1; simp only at h1; rw [h1]
  ·next q2 =>
   rw [if_neg q2] at h1
   split
   ·next q3 => rw [if_pos q3] at h1; simp only at h1; rw [h1]
   ·next q3 =>
    rw [if_neg q3] at h1
    exfalso
    unfold actP at h1
    rw [if_neg (by rw [ha]; decide)] at h1
    exact hne h1.symm
theorem r_createB {r : Dk4} {O : Nat → Prop} {rB : Nat} {g : Int} (s : ByteArray) (h : RD w O rB r) (lk : Lk dB0 r) (hs : s = nF1 ∨ s = nF2 ∨ s = nF3 ∨ s = nF0) (hg : eB s = g) : Calls Try.prog 23 #[.pointer (some ⟨rB, 0, none⟩), .string s] w fun e w' => e = .returned (.int .i64 g) ∧ ∃ O2, RD w' O2 rB r ∧ Go4 w w' O O2 := by
 have hc := rCreate_any (s := s) h
 rw [createBR lk s hs, hg] at hc
 exact hc
theorem d_createB {O : Nat → Prop} {dB : Nat} {g : Int} (s : ByteArray) (h : Dsk w O dB dB0) (hs : s = nF1 ∨ s = nF2 ∨ s = nF3 ∨ s = nF0) (hg : eB s = g) : Calls Try.prog 24 #[.pointer (some ⟨dB, 0, none⟩), .string s] w fun e w' => e = .returned (.int .i64 g) ∧ ∃ O2, Dsk w' O2 dB dB0 ∧ Go4 w w' O O2 := by
 have hc := create_any (s := s) h
 rw [createB s hs, hg] at hc
 exact hc
theorem row_rdG {B n k : Nat} {a : Option Addr} {l : List (GF × Value)} (hn : n = l.length) (row : w.ownsRow B 60 3 (.slice a n k) n (gCells l)) (hd : ∀ x ∈ l, ∃ ap cp, x.2 = .slice ap x.1.2.1.length cp ∧ Rd w x.2 x.1.2.1) : RdG4 w a k l := by
 have hl : (gCells l).length = n * 3 := by rw [gCells_len, hn]
 rcases Nat.eq_zero_or_pos n with h0 | hp
 ·have : l = [] := List.eq_nil_of_length_eq_zero (by omega)
  subst this
  refine ⟨?_, fun i x h => by simp at h, hd⟩
  rcases row.2 with ⟨e, _⟩ | ⟨g, cap, cur, e, _, _, h4, h5, _⟩
  ·simp only [Value.slice.injEq] at e
   rw [e.2.2]; exact ⟨Nat.le_refl _, by decide⟩
  ·simp only [Value.slice.injEq] at e
   rw [e.2.2]; exact ⟨Nat.zero_le _, h5⟩
 ·obtain ⟨g, rfl, _, _, h4, h5⟩ := row_addr row hp
  refine ⟨⟨by omega, h5⟩, fun i x hx => ?_, hd⟩
  obtain ⟨h0, h1, h2⟩ := gCells_at _ i x hx
  have at_ : ∀ (j : Nat) (u : Value), (gCells l)[j]? = some u → w.cell? ⟨g, j, none⟩ = some u := fun j u hu => by
   have hj := (List.getElem?_eq_some_iff.1 hu).1
   rw [row.cellAt j (by omega)]
   exact hu
  exact ⟨g, 0, rfl, by rw [Nat.zero_add]; exact at_ _ _ h0, by rw [Nat.zero_add]; exact at_ _ _ h1, by rw [Nat.zero_add]; exact at_ _ _ h2⟩
set_option maxRecDepth 100000 in
set_option maxHeartbeats 4000000 in
theorem both_any (w : World) : Calls Try.prog 6 #[] w fun e w' => e = .returned (.bool true) ∧ Below w.heap.size w w' := by
 go_enter Try.func6, Try.ntmps6
 go_wp2_with fail
 go_loopw [1, 2] (fun l v wr => ∃ (t : Nat) (al : Option Addr) (kl : Nat), t ≤ 256 ∧ l = .slice al t kl ∧ v = .int .i64 (t : Int) ∧ Hid (wr.ownsRow w.heap.size 60 3 (.slice al t kl) t (gCells ((List.range t).map fB)) ∧ Below w.heap.size w wr)) (fun _ v _ => 256 - (intOf v).toNat)
 case atStart => exact ⟨0, none, 0, Nat.zero_le _, rfl, rfl, World.ownsRow_nil _ _ _ _, Below.refl _ _⟩
 case round =>
  obtain ⟨t, al, kl, ht, rfl, rfl, HS⟩ := hrel
  have j2 : (0 : Int) ≤ (t : Int) := by omega
  by_cases hlt : t < 256
  ·have j1 : (t : Int) < 256 := by omega
   clear hlt
   have hrd : Rd (wr.alloc (.cells #[.int .u8 ((97 + t / 16 : Nat) : Int), .int .u8 ((97 + t % 16 : Nat) : Int)] 5)) (.slice (some ⟨wr.heap.size, 0, none⟩) 2 2) [97 + t / 16, 97 + t % 16] := by
    refine ⟨by intro x hx; simp at hx; omega, _, 2, rfl, Nat.le_refl _, by decide, by simp, .inr ⟨_, _, rfl⟩, .inr ⟨_, 0, rfl, fun i hi => ?_⟩⟩
    have hi2 : i < 2 := by simpa using hi
    match i, hi2 with
    | 0, _ => simp [go_sem]
    | 1, _ => simp [go_sem]
   have hcw := conv_str hrd
   have p1 : ((97 + t / 16 : Nat) : Int) = 97 + (t : Int) / 16 := by omega
   have p2 : ((97 + t % 16 : Nat) : Int) = 97 + (t : Int) % 16 := by omega
   rw [p1, p2] at hcw
   obtain ⟨s, hs⟩ : ∃ s, s = str [97 + t / 16, 97 + t % 16] := ⟨_, rfl⟩
   rw [← hs] at hcw
   obtain ⟨nm, hnm⟩ : ∃ nm, nm = ((⟨#[102]⟩ : ByteArray) ++ s) := ⟨_, rfl⟩
   have HNM : Hid (nm = nmB t) := by rw [hnm, hs]; rfl
   have hss : 1 + s.size ≤ 9223372036854775807 := by rw [hs]; exact of_decide_eq_true rfl
   have V1 : ∃ V, V = wr.alloc (.cells #[.int .u8 (97 + (t : Int) / 16), .int .u8 (97 + (t : Int) % 16)] 5) := ⟨_, rfl⟩
   obtain ⟨V, hV⟩ := V1
   have ce : (V.alloc (.cells #[.string nm, .slice none 0 0, .int .i64 0] 60)).cell? ⟨V.heap.size, 0, none⟩ = some (.string nm) ∧ (V.alloc (.cells #[.string nm, .slice none 0 0, .int .i64 0] 60)).cell? ⟨V.heap.size, 1, none⟩ = some (.slice none 0 0) ∧ (V.alloc (.cells #[.string nm, .slice none 0 0, .int .i64 0] 60)).cell? ⟨V.heap.size, 2, none⟩ = some (.int .i64 0) := by
    refine ⟨?_, ?_, ?_⟩ <;> simp [go_sem]
   have bV : Below wr.heap.size wr V := by rw [hV]; exact (Below.refl _ _).alloc (Nat.le_refl _) _
   have bW := (Below.refl V.heap.size V).alloc (Nat.le_refl _) (.cells #[.string nm, .slice none 0 0, .int .i64 0] 60)
   have bT := bV.trans (bW.mono bV.size)
   have hrow := row_keep HS.out.1 (fun g e => bT.block g (row_lt HS.out.1 e))
   have hsz : w.heap.size ≤ (V.alloc (.cells #[.string nm, .slice none 0 0, .int .i64 0] 60)).heap.size := Nat.le_trans HS.out.2.size bT.size
   have hsV : V.heap.size = wr.heap.size + 1 := by rw [hV]; simp
   rw [hsV] at ce
   rw [hV, hnm] at ce hrow hsz bT
   have CE := Lib.hid (And.intro ce (And.intro hrow (And.intro hsz bT)))
   clear hrd p1 p2 hsV ce bV bW bT hrow hsz
   rw [hnm] at HNM
   clear hnm hV V nm
   have HSS := Lib.hid hs
   clear hs
   go_wp2_with (at_builtin; refine wpl_file_appendG rfl _ _ rfl (B := w.heap.size) (n := t) (v := .slice al t kl) (cs := gCells ((List.range t).map fB)) rfl CE.out.2.1 rfl CE.out.1 ⟨rfl, rfl, rfl⟩ (by omega) CE.out.2.2.1 ?_; intro a9 k9 X9 own9 b9 g9 n9; refine Hid.out ?_)
   refine Lib.hid ?_
   have F9 := Lib.hid (And.intro own9 (HS.out.2.trans ((CE.out.2.2.2.mono (Nat.le_refl _)).mono HS.out.2.size |>.trans b9)))
   clear own9 b9 g9 n9 hcw
   go_wp2
   go_roundw
   case rel =>
    refine ⟨t + 1, a9, k9, by omega, rfl, by go_num, ?_, F9.out.2⟩
    rw [List.range_succ, List.map_append, gCells_append]
    have e : gCells ([t].map fB) = [.string ((⟨#[102]⟩ : ByteArray) ++ s), .slice none 0 0, .int .i64 0] := by
     rw [HNM.out]; rfl
    rw [e]
    exact F9.out.1
   case measure => simp [intOf]; omega
  ·have htt : t = 256 := by omega
   subst htt
   clear hlt j2
   have rg := row_rdG (by rw [List.length_map, List.length_range]) HS.out.1 (fun x hx => by obtain ⟨t, _, rfl⟩ := List.mem_map.1 hx; exact ⟨none, 0, rfl, rd_nil5 _⟩)
   have HLD0 := load_any (n := 9) (m := 256) rg (by rw [List.length_map, List.length_range])
   rw [loadB] at HLD0
   unfold LoadP at HLD0
   have RG := Lib.hid rg
   have lk0 := load_lk 9 (((List.range 256).map fB).map (·.1))
   rw [loadB] at lk0
   obtain ⟨⟨ee, r0⟩, hr0⟩ : ∃ q, q = loadR 9 (((List.range 256).map fB).map (·.1)) := ⟨_, rfl⟩
   rw [← hr0] at lk0
   obtain ⟨hee, lk1⟩ := lk0
   simp only at hee lk1
   subst hee
   have LK := Lib.hid lk1
   have HR0 := Lib.hid hr0
   clear rg lk1 hr0 ht
   go_wp2_with fail
   refine HLD0.mono ?_
   rintro e1 Z1 ⟨p1, he1, b1, -, y1⟩
   obtain ⟨A1, dB1, hp1, m1⟩ := y1 trivial
   subst hp1
   subst he1
   have D1 := Lib.hid (And.intro m1 b1)
   clear HLD0 m1 b1 y1
   have HLD1 := rLoad_any (n := 9) (m := 256) (RG.out.later D1.out.2) (by rw [List.length_map, List.length_range])
   rw [← HR0.out] at HLD1
   unfold LoadR at HLD1
   go_wp2_with fail
   refine HLD1.mono ?_
   rintro e2 Z2 ⟨p2, he2, b2, -, y2⟩
   obtain ⟨B1, rB1, hp2, m2⟩ := y2 trivial
   subst hp2
   subst he2
   have tk : T5 Z2 A1 B1 dB1 rB1 dB0 r0 := ⟨D1.out.1.dsk.below b2, m2.dsk, fun i hi hi2 => by have := D1.out.1.dsk.lt4 i hi; have := m2.own i hi2; omega⟩
   have BF := HS.out.2.trans ((D1.out.2.trans (b2.mono D1.out.2.size)).mono HS.out.2.size)
   have hge : ∀ i, (A1 i ∨ B1 i) → w.heap.size ≤ i := fun i hi => hi.elim (fun q => Nat.le_trans HS.out.2.size (D1.out.1.own i q)) (fun q => Nat.le_trans HS.out.2.size (Nat.le_trans D1.out.2.size (m2.own i q)))
   have T0 := Lib.hid (And.intro tk (And.intro BF hge))
   clear HLD1 m2 b2 y2 tk BF hge
   go_wp2_with fail
   refine (num4_any _ _).mono ?_
   rintro e3 Z3 ⟨he3, hz3⟩
   subst he3
   rw [hz3]
   clear hz3
   go_upto_region 11 with fail
   have hV : ∃ V, V = Z2.alloc (.cells #[.string { data := #[102, 97, 97] }, .string { data := #[102, 112, 112] }, .string { data := #[110, 101, 119] }, .string { data := #[] }] 9) := ⟨_, rfl⟩
   obtain ⟨V, hV⟩ := hV
   obtain ⟨nb, hnb⟩ : ∃ nb, nb = Z2.heap.size := ⟨_, rfl⟩
   have bV : Below Z2.heap.size Z2 V := by rw [hV]; exact (Below.refl _ Z2).alloc (Nat.le_refl _) _
   have fV : V.heap[nb]? = some (.cells #[.string { data := #[102, 97, 97] }, .string { data := #[102, 112, 112] }, .string { data := #[110, 101, 119] }, .string { data := #[] }] 9 (0, 0)) := by rw [hV, hnb]; exact heap_new _ _
   rw [← hV, ← hnb]
   have S0 := Lib.hid (And.intro (T0.out.1.kept (fun i hi => bV.block i (T0.out.1.lt i hi)) bV.size) (And.intro fV (And.intro (fun q => by have := T0.out.1.lt _ q; omega : ¬ (A1 nb ∨ B1 nb)) (And.intro (T0.out.2.1.trans (bV.mono T0.out.2.1.size)) T0.out.2.2))))
   clear hV hnb bV fV
   go_wp2_with fail
   go_loopw [8, 9] (fun v vg wr => ∃ (t : Nat) (A B : Nat → Prop), t ≤ 4 ∧ v = .int .i64 (t : Int) ∧ Hid (T5 wr A B dB1 rB1 dB0 r0 ∧ wr.heap[nb]? = some (.cells #[.string { data := #[102, 97, 97] }, .string { data := #[102, 112, 112] }, .string { data := #[110, 101, 119] }, .string { data := #[] }] 9 (0, 0)) ∧ ¬ (A nb ∨ B nb) ∧ Below w.heap.size w wr ∧ ∀ i, (A i ∨ B i) → w.heap.size ≤ i)) (fun v _ _ => 4 - (intOf v).toNat)
   case atStart => exact ⟨0, A1, B1, by decide, rfl, S0.out⟩
   case round =>
    clear HS
    obtain ⟨t, A, B, ht, rfl, HS⟩ := hrel
    by_cases hlt : t < 4
    ·have ht4 : t = 0 ∨ t = 1 ∨ t = 2 ∨ t = 3 := by omega
     rcases ht4 with rfl | rfl | rfl | rfl
     ·have q0 : wr.cell? ⟨nb, 0, none⟩ = some (.string { data := #[102, 97, 97] }) := by
       simp only [World.cell?, HS.out.2.1]; rfl
      go_wp2_with fail
      refine (r_createB { data := #[102, 97, 97] } HS.out.1.rd LK.out (.inl rfl) (g := 41) (by kernel_rfl)).mono ?_
      rintro e1 Z1 ⟨he1, B1, rd1, g1⟩
      subst he1
      have t1 := HS.out.1.stepR rd1 g1
      have T1 := Lib.hid t1
      have q0 : Z1.cell? ⟨nb, 0, none⟩ = some (.string { data := #[102, 97, 97] }) := by
       simp only [World.cell?, T1.out.2.block nb (Array.getElem?_eq_some_iff.1 HS.out.2.1).1 HS.out.2.2.1, HS.out.2.1]; rfl
      clear rd1 g1 t1
      go_wp2_with fail
      refine (d_createB { data := #[102, 97, 97] } T1.out.1.dsk (.inl rfl) (g := 41) (by kernel_rfl)).mono ?_
      rintro e2 Z2 ⟨he2, A2, k2, g2⟩
      subst he2
      have t2 := T1.out.1.stepD k2 g2
      have T2 := Lib.hid (And.intro t2.1 (T1.out.2.trans t2.2))
      clear k2 g2 t2 q0
      go_wp2_with fail
      refine (num4_any _ _).mono ?_
      rintro e3 Z3 ⟨he3, hz3⟩
      subst he3
      rw [hz3]
      clear hz3
      go_wp2
      go_roundw
      case rel => exact ⟨1, A2, B1, by decide, by first | rfl | go_num, T2.out.1, (T2.out.2.block nb (Array.getElem?_eq_some_iff.1 HS.out.2.1).1 HS.out.2.2.1).trans HS.out.2.1, fun q => (T2.out.2.new nb q).elim HS.out.2.2.1 (fun e => by have := (Array.getElem?_eq_some_iff.1 HS.out.2.1).1; omega), HS.out.2.2.2.1.trans (T2.out.2.below HS.out.2.2.2.1.size HS.out.2.2.2.2), fun i hi => (T2.out.2.new i hi).elim (HS.out.2.2.2.2 i) (fun e => Nat.le_trans HS.out.2.2.2.1.size e)⟩
      case measure => simp [intOf]
     ·have q0 : wr.cell? ⟨nb, 1, none⟩ = some (.string { data := #[102, 112, 112] }) := by
       simp only [World.cell?, HS.out.2.1]; rfl
      go_wp2_with fail
      refine (r_createB { data := #[102, 112, 112] } HS.out.1.rd LK.out (.inr (.inl rfl)) (g := 41) (by kernel_rfl)).mono ?_
      rintro e1 Z1 ⟨he1, B1, rd1, g1⟩
      subst he1
      have t1 := HS.out.1.stepR rd1 g1
      have T1 := Lib.hid t1
      have q0 : Z1.cell? ⟨nb, 1, none⟩ = some (.string { data := #[102, 112, 112] }) := by
       simp only [World.cell?, T1.out.2.block nb (Array.getElem?_eq_some_iff.1 HS.out.2.1).1 HS.out.2.2.1, HS.out.2.1]; rfl
      clear rd1 g1 t1
      go_wp2_with fail
      refine (d_createB { data := #[102, 112, 112] } T1.out.1.dsk (.inr (.inl rfl)) (g := 41) (by kernel_rfl)).mono ?_
      rintro e2 Z2 ⟨he2, A2, k2, g2⟩
      subst he2
      have t2 := T1.out.1.stepD k2 g2
      have T2 := Lib.hid (And.intro t2.1 (T1.out.2.trans t2.2))
      clear k2 g2 t2 q0
      go_wp2_with fail
      refine (num4_any _ _).mono ?_
      rintro e3 Z3 ⟨he3, hz3⟩
      subst he3
      rw [hz3]
      clear hz3
      go_wp2
      go_roundw
      case rel => exact ⟨2, A2, B1, by decide, by first | rfl | go_num, T2.out.1, (T2.out.2.block nb (Array.getElem?_eq_some_iff.1 HS.out.2.1).1 HS.out.2.2.1).trans HS.out.2.1, fun q => (T2.out.2.new nb q).elim HS.out.2.2.1 (fun e => by have := (Array.getElem?_eq_some_iff.1 HS.out.2.1).1; omega), HS.out.2.2.2.1.trans (T2.out.2.below HS.out.2.2.2.1.size HS.out.2.2.2.2), fun i hi => (T2.out.2.new i hi).elim (HS.out.2.2.2.2 i) (fun e => Nat.le_trans HS.out.2.2.2.1.size e)⟩
      case measure => simp [intOf]
     ·have q0 : wr.cell? ⟨nb, 2, none⟩ = some (.string { data := #[110, 101, 119] }) := by
       simp only [World.cell?, HS.out.2.1]; rfl
      go_wp2_with fail
      refine (r_createB { data := #[110, 101, 119] } HS.out.1.rd LK.out (.inr (.inr (.inl rfl))) (g := 44) (by kernel_rfl)).mono ?_
      rintro e1 Z1 ⟨he1, B1, rd1, g1⟩
      subst he1
      have t1 := HS.out.1.stepR rd1 g1
      have T1 := Lib.hid t1
      have q0 : Z1.cell? ⟨nb, 2, none⟩ = some (.string { data := #[110, 101, 119] }) := by
       simp only [World.cell?, T1.out.2.block nb (Array.getElem?_eq_some_iff.1 HS.out.2.1).1 HS.out.2.2.1, HS.out.2.1]; rfl
      clear rd1 g1 t1
      go_wp2_with fail
      refine (d_createB { data := #[110, 101, 119] } T1.out.1.dsk (.inr (.inr (.inl rfl))) (g := 44) (by kernel_rfl)).mono ?_
      rintro e2 Z2 ⟨he2, A2, k2, g2⟩
      subst he2
      have t2 := T1.out.1.stepD k2 g2
      have T2 := Lib.hid (And.intro t2.1 (T1.out.2.trans t2.2))
      clear k2 g2 t2 q0
      go_wp2_with fail
      refine (num4_any _ _).mono ?_
      rintro e3 Z3 ⟨he3, hz3⟩
      subst he3
      rw [hz3]
      clear hz3
      go_wp2
      go_roundw
      case rel => exact ⟨3, A2, B1, by decide, by first | rfl | go_num, T2.out.1, (T2.out.2.block nb (Array.getElem?_eq_some_iff.1 HS.out.2.1).1 HS.out.2.2.1).trans HS.out.2.1, fun q => (T2.out.2.new nb q).elim HS.out.2.2.1 (fun e => by have := (Array.getElem?_eq_some_iff.1 HS.out.2.1).1; omega), HS.out.2.2.2.1.trans (T2.out.2.below HS.out.2.2.2.1.size HS.out.2.2.2.2), fun i hi => (T2.out.2.new i hi).elim (HS.out.2.2.2.2 i) (fun e => Nat.le_trans HS.out.2.2.2.1.size e)⟩
      case measure => simp [intOf]
     ·have q0 : wr.cell? ⟨nb, 3, none⟩ = some (.string { data := #[] }) := by
       simp only [World.cell?, HS.out.2.1]; rfl
      go_wp2_with fail
      refine (r_createB { data := #[] } HS.out.1.rd LK.out (.inr (.inr (.inr rfl))) (g := 40) (by kernel_rfl)).mono ?_
      rintro e1 Z1 ⟨he1, B1, rd1, g1⟩
      subst he1
      have t1 := HS.out.1.stepR rd1 g1
      have T1 := Lib.hid t1
      have q0 : Z1.cell? ⟨nb, 3, none⟩ = some (.string { data := #[] }) := by
       simp only [World.cell?, T1.out.2.block nb (Array.getElem?_eq_some_iff.1 HS.out.2.1).1 HS.out.2.2.1, HS.out.2.1]; rfl
      clear rd1 g1 t1
      go_wp2_with fail
      refine (d_createB { data := #[] } T1.out.1.dsk (.inr (.inr (.inr rfl))) (g := 40) (by kernel_rfl)).mono ?_
      rintro e2 Z2 ⟨he2, A2, k2, g2⟩
      subst he2
      have t2 := T1.out.1.stepD k2 g2
      have T2 := Lib.hid (And.intro t2.1 (T1.out.2.trans t2.2))
      clear k2 g2 t2 q0
      go_wp2_with fail
      refine (num4_any _ _).mono ?_
      rintro e3 Z3 ⟨he3, hz3⟩
      subst he3
      rw [hz3]
      clear hz3
      go_wp2
      go_roundw
      case rel => exact ⟨4, A2, B1, by decide, by first | rfl | go_num, T2.out.1, (T2.out.2.block nb (Array.getElem?_eq_some_iff.1 HS.out.2.1).1 HS.out.2.2.1).trans HS.out.2.1, fun q => (T2.out.2.new nb q).elim HS.out.2.2.1 (fun e => by have := (Array.getElem?_eq_some_iff.1 HS.out.2.1).1; omega), HS.out.2.2.2.1.trans (T2.out.2.below HS.out.2.2.2.1.size HS.out.2.2.2.2), fun i hi => (T2.out.2.new i hi).elim (HS.out.2.2.2.2 i) (fun e => Nat.le_trans HS.out.2.2.2.1.size e)⟩
      case measure => simp [intOf]
    ·have j1 : (4 : Int) ≤ (t : Int) := by omega
     clear hlt
     go_upto_region 17 with fail
     have hl1 := rename_lk LK.out { data := #[110, 111, 110, 101] } { data := #[102, 97, 97] }
     have hq : ∃ q, q = renameD dB0 { data := #[110, 111, 110, 101] } { data := #[102, 97, 97] } := ⟨_, rfl⟩
     obtain ⟨q, hq⟩ := hq
     have hqr : ∃ q, q = renameR r0 { data := #[110, 111, 110, 101] } { data := #[102, 97, 97] } := ⟨_, rfl⟩
     obtain ⟨qr, hqr⟩ := hqr
     rw [← hq, ← hqr] at hl1
     have HQ := Lib.hid (And.intro hq hqr)
     clear hq hqr
     obtain ⟨ee, d1⟩ := q
     obtain ⟨ee2, r1⟩ := qr
     obtain ⟨hee, lk1⟩ := hl1
     simp only at hee lk1
     subst hee
     have LK1 := Lib.hid lk1
     clear lk1
     have HC := rename_any (s := { data := #[110, 111, 110, 101] }) (t := { data := #[102, 97, 97] }) HS.out.1.dsk
     rw [← HQ.out.1] at HC
     unfold AnsD at HC
     simp only at HC
     go_wp2_with fail
     refine HC.mono ?_
     rintro e1 Z1 ⟨he, O9, k9, g9⟩
     subst he
     have t9 := HS.out.1.stepD k9 g9
     have T1x := Lib.hid t9
     clear HC k9 g9 t9
     go_wp2_with fail
     refine (num4_any _ _).mono ?_
     rintro e1n Z1n ⟨he, hz⟩
     subst he
     rw [hz]
     clear hz
     have HC := rRename_any (s := { data := #[110, 111, 110, 101] }) (t := { data := #[102, 97, 97] }) T1x.out.1.rd
     rw [← HQ.out.2] at HC
     unfold AnsR at HC
     simp only at HC
     go_wp2_with fail
     refine HC.mono ?_
     rintro e1r Y1 ⟨he, O8, k8, g8⟩
     subst he
     have t8 := T1x.out.1.stepR k8 g8
     have T1y := Lib.hid (And.intro t8.1 (T1x.out.2.trans t8.2))
     clear HC k8 g8 t8 HQ
     have hl2 := rename_lk LK1.out { data := #[102, 97, 97] } { data := #[102, 112, 112] }
     have hq : ∃ q, q = renameD d1 { data := #[102, 97, 97] } { data := #[102, 112, 112] } := ⟨_, rfl⟩
     obtain ⟨q, hq⟩ := hq
     have hqr : ∃ q, q = renameR r1 { data := #[102, 97, 97] } { data := #[102, 112, 112] } := ⟨_, rfl⟩
     obtain ⟨qr, hqr⟩ := hqr
     rw [← hq, ← hqr] at hl2
     have HQ := Lib.hid (And.intro hq hqr)
     clear hq hqr
     obtain ⟨ee, d2⟩ := q
     obtain ⟨ee2, r2⟩ := qr
     obtain ⟨hee, lk1⟩ := hl2
     simp only at hee lk1
     subst hee
     have LK2 := Lib.hid lk1
     clear lk1
     have HC := rename_any (s := { data := #[102, 97, 97] }) (t := { data := #[102, 112, 112] }) T1y.out.1.dsk
     rw [← HQ.out.1] at HC
     unfold AnsD at HC
     simp only at HC
     go_wp2_with fail
     refine HC.mono ?_
     rintro e2 Z2 ⟨he, O9, k9, g9⟩
     subst he
     have t9 := T1y.out.1.stepD k9 g9
     have T2x := Lib.hid t9
     clear HC k9 g9 t9
     go_wp2_with fail
     refine (num4_any _ _).mono ?_
     rintro e2n Z2n ⟨he, hz⟩
     subst he
     rw [hz]
     clear hz
     have HC := rRename_any (s := { data := #[102, 97, 97] }) (t := { data := #[102, 112, 112] }) T2x.out.1.rd
     rw [← HQ.out.2] at HC
     unfold AnsR at HC
     simp only at HC
     go_wp2_with fail
     refine HC.mono ?_
     rintro e2r Y2 ⟨he, O8, k8, g8⟩
     subst he
     have t8 := T2x.out.1.stepR k8 g8
     have T2y := Lib.hid (And.intro t8.1 (T2x.out.2.trans t8.2))
     clear HC k8 g8 t8 HQ
     go_wp2_with fail
     refine (files_any T2y.out.1.dsk).mono ?_
     rintro e5 Z5 ⟨a5, n5, k5, l5, he5, f5, hl5, b5⟩
     subst he5
     have T5k := Lib.hid (And.intro (T2y.out.1.kept (fun i hi => b5.block i (T2y.out.1.lt i hi)) b5.size) b5)
     have N5 := Lib.hid (And.intro f5.len hl5)
     clear f5 hl5 b5
     go_wp2_with fail
     refine (rFiles_any T5k.out.1.rd).mono ?_
     rintro e6 Z6 ⟨a7, n7, k7, l7, he6, f7, hl7, b6⟩
     subst he6
     have hnn : n5 = n7 := by
      have h1 := congrArg List.length N5.out.2
      have h2 := congrArg List.length hl7
      rw [List.length_map] at h1 h2
      rw [N5.out.1, f7.len, h1, h2, LK2.out.files T5k.out.1.rd.1.2]
     subst hnn
     have B6 := Lib.hid b6
     clear f7 hl7 b6
     go_wp2
     go_ret
     refine ⟨rfl, ?_⟩
     have bb := HS.out.2.2.2.1.trans ((T1y.out.2.trans T2y.out.2).below HS.out.2.2.2.1.size HS.out.2.2.2.2)
     exact bb.trans ((T5k.out.2.trans (B6.out.mono T5k.out.2.size)).mono bb.size)
end Go.Proofs.Ytlkhphhmhffdjaa
