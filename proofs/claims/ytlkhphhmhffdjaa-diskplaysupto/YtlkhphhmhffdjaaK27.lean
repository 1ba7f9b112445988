import Derived.Test.YtlkhphhmhffdjaaK26
namespace Go.Proofs.Ytlkhphhmhffdjaa
open Go.RowKit Go.MapKept Go.Sort
set_option linter.unusedVariables false
set_option linter.unusedSimpArgs false
variable {w w' W X : World} {O O' U U' : Nat → Prop} {wB i : Nat} {z : Int} {qs : List Pr4} {o : OpD} {p : Pr4}
def opC (k : Int) (a : Option Addr) (n c : Nat) (bs : List Nat) : OpD := ⟨k, 0, { data := #[102, 105, 114, 115, 116] }, ⟨#[]⟩, a, n, c, bs, 0, 0, none, 0, 0, [], none, 0, 0, []⟩
theorem rd_nil5 (w : World) : Rd w (.slice none 0 0) [] := ⟨fun x hx => (by cases hx), none, 0, rfl, Nat.le_refl _, by decide, by decide, .inl rfl, .inl rfl⟩
theorem rdOp_C {k : Int} {a : Option Addr} {n c : Nat} {bs : List Nat} (h : RdA w U (.slice a n c) bs) (hb : bs.length ≤ 1048576) : RdOp w U (opC k a n c bs) :=
 ⟨h, hb, ⟨⟨Nat.le_refl _, Nat.zero_le _⟩, fun i j hj => (by simp [opC] at hj)⟩, rfl, fun _ => rfl, by simp [opC], ⟨⟨⟨Nat.le_refl _, Nat.zero_le _⟩, fun i x hx => (by simp [opC] at hx), fun x hx => (by simp [opC] at hx)⟩, fun g off e ne => absurd rfl ne, fun x hx => (by simp [opC] at hx)⟩, rfl, by simp [opC], fun x hx => (by simp [opC] at hx), by simp [opC], by simp [opC], by simp [opC]⟩
theorem Ws.start {Y : World} {p : Pr4} (k : p.T Y) {X : World} (hX : X = ((Y.alloc (.cells #[pv p.dB] 39)).alloc (.cells #[pv p.rB] 41)).alloc (.cells #[.slice (some ⟨Y.heap.size, 0, none⟩) 1 1, .slice (some ⟨Y.heap.size + 1, 0, none⟩) 1 1, .slice none 0 0, .slice none 0 0, .int .i64 0] 37)) :
  Ws X (Y.heap.size + 2) (fun i => p.In i ∨ (Y.heap.size ≤ i ∧ i ≤ Y.heap.size + 2)) 0 [p] ∧ Below Y.heap.size Y X := by
 obtain ⟨Y1, hY1⟩ : ∃ Y1, Y1 = Y.alloc (.cells #[pv p.dB] 39) := ⟨_, rfl⟩
 rw [← hY1] at hX
 obtain ⟨Y2, hY2⟩ : ∃ Y2, Y2 = Y1.alloc (.cells #[pv p.rB] 41) := ⟨_, rfl⟩
 rw [← hY2] at hX
 have s1 : Y1.heap.size = Y.heap.size + 1 := by rw [hY1]; simp
 have s2 : Y2.heap.size = Y.heap.size + 2 := by rw [hY2]; simp [s1]
 have hs : X.heap.size = Y.heap.size + 3 := by rw [hX]; simp [s2]
 have b1 : Below Y.heap.size Y Y1 := by rw [hY1]; exact (Below.refl _ Y).alloc (Nat.le_refl _) _
 have b2 : Below Y1.heap.size Y1 Y2 := by rw [hY2]; exact (Below.refl _ Y1).alloc (Nat.le_refl _) _
 have b3 : Below Y2.heap.size Y2 X := by rw [hX]; exact (Below.refl _ Y2).alloc (Nat.le_refl _) _
 have b : Below Y.heap.size Y X := (b1.trans (b2.mono b1.size)).trans (b3.mono (Nat.le_trans b1.size b2.size))
 have h0 : X.heap[Y.heap.size]? = some (.cells #[pv p.dB] 39 (0, 0)) := by
  rw [b3.block _ (by omega), b2.block _ (by omega), hY1]; exact heap_new _ _
 have h1 : X.heap[Y.heap.size + 1]? = some (.cells #[pv p.rB] 41 (0, 0)) := by
  rw [b3.block _ (by omega), hY2, ← s1]; exact heap_new _ _
 have h2 : X.heap[Y.heap.size + 2]? = some (.cells #[.slice (some ⟨Y.heap.size, 0, none⟩) 1 1, .slice (some ⟨Y.heap.size + 1, 0, none⟩) 1 1, .slice none 0 0, .slice none 0 0, .int .i64 0] 37 (0, 0)) := by
  rw [hX, ← s2]; exact heap_new _ _
 have hlt : ∀ i, p.In i → i < Y.heap.size := fun i hi => T5.lt k i hi
 refine ⟨⟨.slice (some ⟨Y.heap.size, 0, none⟩) 1 1, .slice (some ⟨Y.heap.size + 1, 0, none⟩) 1 1, none, 0, none, 0, 0, [], fun _ => False, ?_⟩, b⟩
 refine ⟨⟨h2, ⟨rfl, .inr ⟨Y.heap.size, 1, #[pv p.dB], rfl, Nat.zero_le _, h0, Nat.le_refl _, by decide, rfl, rfl⟩⟩, ⟨rfl, .inr ⟨Y.heap.size + 1, 1, #[pv p.rB], rfl, Nat.zero_le _, h1, Nat.le_refl _, by decide, rfl, rfl⟩⟩⟩, ?_, ?_, ?_, ?_, fun i hi => hi.elim, by decide, (by simp), ?_, ?_, ?_⟩
 ·exact ⟨rfl, ⟨rfl, fun u hu => (by cases hu), World.ownsRow_nil _ _ _ _⟩, ⟨rfl, World.ownsRow_nil _ _ _ _⟩, fun g e => (by cases e), fun g e => (by cases e), fun x hx => (by cases hx), fun x hx => (by cases hx), fun x hx => (by cases hx), by decide, fun i hi => hi.elim⟩
 ·intro q hq
  rw [List.mem_singleton] at hq
  subst hq
  exact T5.kept k (fun i hi => b.block i (hlt i hi)) b.size
 ·intro i j q1 q2 hne h1 h2
  have e1 := (List.getElem?_eq_some_iff.1 h1).1
  have e2 := (List.getElem?_eq_some_iff.1 h2).1
  simp at e1 e2
  omega
 ·intro q hq i hi hx
  rw [List.mem_singleton] at hq
  subst hq
  have := hlt i hi
  rcases hx with hx | hx | hx | hx
  ·exact hx
  ·omega
  ·simp only [Value.ownBlock, Option.some.injEq] at hx; omega
  ·simp only [Value.ownBlock, Option.some.injEq] at hx; omega
 ·intro i hx
  rcases hx with hx | hx | hx | hx
  ·exact hx.elim
  ·exact .inr (by omega)
  ·simp only [Value.ownBlock, Option.some.injEq] at hx; exact .inr (by omega)
  ·simp only [Value.ownBlock, Option.some.injEq] at hx; exact .inr (by omega)
 ·intro q hq i hi
  rw [List.mem_singleton] at hq
  subst hq
  exact .inl hi
 ·intro i hi
  rcases hi with hi | hi
  ·have := hlt i hi; omega
  ·omega
def StartedP (w : World) (e : Ending) (w' : World) : Prop := ∃ (wB : Nat) (U : Nat → Prop) (z : Int) (qs : List Pr4), e = .returned (.pointer (some ⟨wB, 0, none⟩)) ∧ Ws w' wB U z qs ∧ Lks qs ∧ (∀ p ∈ qs, p.d.down = false ∧ p.d.arm = 0) ∧ 0 < qs.length ∧ z ≤ 4000000000000 ∧ Below w.heap.size w w' ∧ ∀ i, U i → w.heap.size ≤ i
def FRow4 (w : World) (gf b7 : Nat) : Prop := w.heap[gf]? = some (.cells #[.int .i64 1, .int .i64 0, .string { data := #[102, 105, 114, 115, 116] }, .string ⟨#[]⟩, .slice none 0 0, .int .i64 0, .int .i64 0, .slice none 0 0, .slice none 0 0, .int .i64 2, .int .i64 0, .string { data := #[102, 105, 114, 115, 116] }, .string ⟨#[]⟩, .slice (some ⟨b7, 0, none⟩) 1 1, .int .i64 0, .int .i64 0, .slice none 0 0, .slice none 0 0, .int .i64 7, .int .i64 0, .string { data := #[102, 105, 114, 115, 116] }, .string ⟨#[]⟩, .slice none 0 0, .int .i64 0, .int .i64 0, .slice none 0 0, .slice none 0 0, .int .i64 5, .int .i64 0, .string { data := #[102, 105, 114, 115, 116] }, .string ⟨#[]⟩, .slice none 0 0, .int .i64 0, .int .i64 0, .slice none 0 0, .slice none 0 0] 30 (0, 0))
theorem FRow4.cells {gf b7 : Nat} (h : FRow4 w gf b7) (t : Nat) (u : Value) (hu : (#[.int .i64 1, .int .i64 0, .string { data := #[102, 105, 114, 115, 116] }, .string ⟨#[]⟩, .slice none 0 0, .int .i64 0, .int .i64 0, .slice none 0 0, .slice none 0 0, .int .i64 2, .int .i64 0, .string { data := #[102, 105, 114, 115, 116] }, .string ⟨#[]⟩, .slice (some ⟨b7, 0, none⟩) 1 1, .int .i64 0, .int .i64 0, .slice none 0 0, .slice none 0 0, .int .i64 7, .int .i64 0, .string { data := #[102, 105, 114, 115, 116] }, .string ⟨#[]⟩, .slice none 0 0, .int .i64 0, .int .i64 0, .slice none 0 0, .slice none 0 0, .int .i64 5, .int .i64 0, .string { data := #[102, 105, 114, 115, 116] }, .string ⟨#[]⟩, .slice none 0 0, .int .i64 0, .int .i64 0, .slice none 0 0, .slice none 0 0] : Array Value)[t]? = some u) : w.cell? ⟨gf, t, none⟩ = some u := by
 unfold FRow4 at h
 simp only [World.cell?, h]
 simpa using hu
theorem rd_seven {b : Nat} (h : w.heap[b]? = some (.cells #[.int .u8 7] 5 (0, 0))) : Rd w (.slice (some ⟨b, 0, none⟩) 1 1) [7] := by
 refine ⟨by intro x hx; simp at hx; omega, some ⟨b, 0, none⟩, 1, rfl, by simp, by decide, by simp, .inr ⟨_, _, rfl⟩, .inr ⟨b, 0, rfl, fun i hi => ?_⟩⟩
 have hi0 : i = 0 := by simpa using hi
 subst hi0
 unfold World.cell?
 rw [h]
 rfl
set_option maxRecDepth 100000 in
set_option maxHeartbeats 4000000 in
theorem started_any {n : Int} (h1 : 1 ≤ n) (h2 : n ≤ 67108864) : Calls Try.prog 5 #[.int .i64 n] w (StartedP w) := by
 have H1 := Lib.hid (And.intro h1 h2)
 clear h1 h2
 go_enter Try.func5, Try.ntmps5
 go_wp2_with fail
 refine (new4_any (by have := H1.out; omega) (by have := H1.out; omega) _).mono ?_
 rintro e1 Z1 ⟨A1, dB1, he1, k1, b1, a1⟩
 subst he1
 have D1 := Lib.hid (And.intro k1 (And.intro b1 a1))
 clear k1 b1 a1
 go_wp2_with fail
 refine (rNew_any (by have := H1.out; omega) (by have := H1.out; omega) _).mono ?_
 rintro e2 Y ⟨B1, rB1, he2, k2, b2, a2⟩
 subst he2
 have BF := Lib.hid (D1.out.2.1.trans (b2.mono D1.out.2.1.size))
 have tk : T5 Y A1 B1 dB1 rB1 (newD n) (newD n) := ⟨D1.out.1.below b2, k2, fun i hi hi2 => by have := D1.out.1.lt4 i hi; have := a2 i hi2; omega⟩
 have TK := Lib.hid tk
 have hge : ∀ i, (A1 i ∨ B1 i) → w.heap.size ≤ i := fun i hi => hi.elim (D1.out.2.2 i) (fun q => Nat.le_trans D1.out.2.1.size (a2 i q))
 have HGE := Lib.hid hge
 clear k2 b2 a2 tk hge
 go_wp2_with fail
 refine (num4_any _ _).mono ?_
 rintro e3 Y2 ⟨he3, hy2⟩
 subst he3
 rw [hy2]
 clear hy2
 go_upto_region 6 with fail
 have hX : ∃ X, X = ((Y.alloc (.cells #[pv dB1] 39)).alloc (.cells #[pv rB1] 41)).alloc (.cells #[.slice (some ⟨Y.heap.size, 0, none⟩) 1 1, .slice (some ⟨Y.heap.size + 1, 0, none⟩) 1 1, .slice none 0 0, .slice none 0 0, .int .i64 0] 37) := ⟨_, rfl⟩
 obtain ⟨X, hX⟩ := hX
 have st := Ws.start (p := ⟨A1, B1, dB1, rB1, newD n, newD n⟩) TK.out hX
 unfold pv at hX
 rw [← hX]
 have hwB : ∃ wB, wB = Y.heap.size + 2 := ⟨_, rfl⟩
 obtain ⟨wB, hwB⟩ := hwB
 have hwB2 : Y.heap.size + 1 + 1 = wB := by omega
 rw [← hwB] at st
 rw [hwB2]
 have ST := Lib.hid st
 have HUg : Hid (∀ i, (Pr4.In ⟨A1, B1, dB1, rB1, newD n, newD n⟩ i ∨ (Y.heap.size ≤ i ∧ i ≤ wB)) → w.heap.size ≤ i) := fun i hi => hi.elim (HGE.out i) (fun q => Nat.le_trans BF.out.size q.1)
 clear hX st hwB hwB2
 go_upto_region 7 with fail
 have hV : ∃ V, V = (X.alloc (.cells #[.int .u8 7] 5)).alloc (.cells #[.int .i64 1, .int .i64 0, .string { data := #[102, 105, 114, 115, 116] }, .string ⟨#[]⟩, .slice none 0 0, .int .i64 0, .int .i64 0, .slice none 0 0, .slice none 0 0, .int .i64 2, .int .i64 0, .string { data := #[102, 105, 114, 115, 116] }, .string ⟨#[]⟩, .slice (some ⟨X.heap.size, 0, none⟩) 1 1, .int .i64 0, .int .i64 0, .slice none 0 0, .slice none 0 0, .int .i64 7, .int .i64 0, .string { data := #[102, 105, 114, 115, 116] }, .string ⟨#[]⟩, .slice none 0 0, .int .i64 0, .int .i64 0, .slice none 0 0, .slice none 0 0, .int .i64 5, .int .i64 0, .string { data := #[102, 105, 114, 115, 116] }, .string ⟨#[]⟩, .slice none 0 0, .int .i64 0, .int .i64 0, .slice none 0 0, .slice none 0 0] 30) := ⟨_, rfl⟩
 obtain ⟨V, hV⟩ := hV
 have bX := ST.out.2
 have s1 : (X.alloc (.cells #[.int .u8 7] 5)).heap.size = X.heap.size + 1 := by simp
 have b1 : Below X.heap.size X (X.alloc (.cells #[.int .u8 7] 5)) := (Below.refl _ X).alloc (Nat.le_refl _) _
 have b2 : Below (X.alloc (.cells #[.int .u8 7] 5)).heap.size (X.alloc (.cells #[.int .u8 7] 5)) V := by rw [hV]; exact (Below.refl _ _).alloc (Nat.le_refl _) _
 have bV : Below X.heap.size X V := b1.trans (b2.mono b1.size)
 obtain ⟨b7, hb7⟩ : ∃ b7, b7 = X.heap.size := ⟨_, rfl⟩
 obtain ⟨gf, hgf⟩ : ∃ gf, gf = X.heap.size + 1 := ⟨_, rfl⟩
 have f7 : V.heap[b7]? = some (.cells #[.int .u8 7] 5 (0, 0)) := by
  rw [hb7, b2.block _ (by omega)]; exact heap_new _ _
 have ff : FRow4 V gf b7 := by
  unfold FRow4
  rw [hV, hgf, hb7, ← s1]; exact heap_new _ _
 have n7 : ∀ i, (Pr4.In ⟨A1, B1, dB1, rB1, newD n, newD n⟩ i ∨ (Y.heap.size ≤ i ∧ i ≤ wB)) → i < X.heap.size := ST.out.1.lt
 rw [← hV]
 rw [← hgf, ← hb7]
 have S0 := Lib.hid (And.intro (ST.out.1.later bV) (And.intro f7 (And.intro ff (And.intro (BF.out.trans ((bX.trans (bV.mono bX.size)).mono BF.out.size)) (And.intro (fun q => by have := n7 _ q; omega : ¬ (Pr4.In ⟨A1, B1, dB1, rB1, newD n, newD n⟩ gf ∨ (Y.heap.size ≤ gf ∧ gf ≤ wB))) (fun q => by have := n7 _ q; omega : ¬ (Pr4.In ⟨A1, B1, dB1, rB1, newD n, newD n⟩ b7 ∨ (Y.heap.size ≤ b7 ∧ b7 ≤ wB))))))))
 clear hV bX s1 b1 b2 bV hb7 hgf f7 ff n7
 go_wp2_with fail
 go_loopw [9, 10] (fun v _ wr => ∃ (t : Nat) (U : Nat → Prop) (z : Int) (qs : List Pr4), t ≤ 4 ∧ v = .int .i64 (t : Int) ∧ Hid (Ws wr wB U z qs ∧ Lks qs ∧ (∀ p ∈ qs, p.d.down = false ∧ p.d.arm = 0) ∧ 0 < qs.length ∧ z ≤ (t : Int) * 1000000000000 ∧ wr.heap[b7]? = some (.cells #[.int .u8 7] 5 (0, 0)) ∧ FRow4 wr gf b7 ∧ ¬ U gf ∧ ¬ U b7 ∧ Below w.heap.size w wr ∧ ∀ i, U i → w.heap.size ≤ i)) (fun v _ _ => 4 - (intOf v).toNat)
 case atStart => exact ⟨0, _, 0, _, by decide, rfl, S0.out.1, fun p hp => by rw [List.mem_singleton] at hp; subst hp; exact Lk.new n, fun p hp => by rw [List.mem_singleton] at hp; subst hp; exact ⟨rfl, rfl⟩, by simp, by decide, S0.out.2.1, S0.out.2.2.1, S0.out.2.2.2.2.1, S0.out.2.2.2.2.2, S0.out.2.2.2.1, HUg.out⟩
 case round =>
  obtain ⟨t, U, z, qs, ht, rfl, HS⟩ := hrel
  by_cases hlt : t < 4
  ·have ht4 : t = 0 ∨ t = 1 ∨ t = 2 ∨ t = 3 := by omega
   have HZ : Hid (z + 1000000000000 ≤ 4611686018427387904) := by have := HS.out.2.2.2.2.1; show _ ≤ _; omega
   rcases ht4 with rfl | rfl | rfl | rfl
   ·have q0 := HS.out.2.2.2.2.2.2.1.cells 0 _ rfl
    have q1 := HS.out.2.2.2.2.2.2.1.cells 1 _ rfl
    have q2 := HS.out.2.2.2.2.2.2.1.cells 2 _ rfl
    have q3 := HS.out.2.2.2.2.2.2.1.cells 3 _ rfl
    have q4 := HS.out.2.2.2.2.2.2.1.cells 4 _ rfl
    have q5 := HS.out.2.2.2.2.2.2.1.cells 5 _ rfl
    have q6 := HS.out.2.2.2.2.2.2.1.cells 6 _ rfl
    have q7 := HS.out.2.2.2.2.2.2.1.cells 7 _ rfl
    have q8 := HS.out.2.2.2.2.2.2.1.cells 8 _ rfl
    go_wp2_with fail
    have HC := plays_any (o := opC 1 none 0 0 []) HS.out.1 HS.out.2.1 (rdOp_C ⟨rd_nil5 _, fun b off n c e n0 q => (by cases e)⟩ (by simp)) HS.out.2.2.2.1 HZ.out
    unfold OpD.val opC at HC
    simp only at HC
    refine HC.mono ?_
    rintro e9 Z9 ⟨he9, U9, z9, qs9, w9, lk9, g9, hz9, hl9, hc9⟩
    subst he9
    have gb := g9.block b7 (Array.getElem?_eq_some_iff.1 HS.out.2.2.2.2.2.1).1 HS.out.2.2.2.2.2.2.2.2.1
    have gg := g9.block gf (Array.getElem?_eq_some_iff.1 HS.out.2.2.2.2.2.2.1).1 HS.out.2.2.2.2.2.2.2.1
    have H9 := Lib.hid (And.intro w9 (And.intro lk9 (And.intro (hc9 ⟨by decide, by decide, by decide⟩ (by decide) HS.out.2.2.1) (And.intro (Nat.lt_of_lt_of_le HS.out.2.2.2.1 hl9) (And.intro hz9 (And.intro (gb.trans HS.out.2.2.2.2.2.1) (And.intro (show FRow4 Z9 gf b7 from gg.trans HS.out.2.2.2.2.2.2.1) (And.intro (fun q => (g9.new gf q).elim HS.out.2.2.2.2.2.2.2.1 (fun e => by have := (Array.getElem?_eq_some_iff.1 HS.out.2.2.2.2.2.2.1).1; omega)) (And.intro (fun q => (g9.new b7 q).elim HS.out.2.2.2.2.2.2.2.2.1 (fun e => by have := (Array.getElem?_eq_some_iff.1 HS.out.2.2.2.2.2.1).1; omega)) (And.intro (HS.out.2.2.2.2.2.2.2.2.2.1.trans (g9.below HS.out.2.2.2.2.2.2.2.2.2.1.size HS.out.2.2.2.2.2.2.2.2.2.2)) (fun i hi => (g9.new i hi).elim (HS.out.2.2.2.2.2.2.2.2.2.2 i) (fun e => Nat.le_trans HS.out.2.2.2.2.2.2.2.2.2.1.size e))))))))))))
    clear HC w9 lk9 g9 hz9 hl9 hc9 gb gg q0 q1 q2 q3 q4 q5 q6 q7 q8
    go_wp2
    go_roundw
    case rel => exact ⟨1, U9, z9, qs9, by decide, by first | rfl | go_num, H9.out.1, H9.out.2.1, H9.out.2.2.1, H9.out.2.2.2.1, by have := H9.out.2.2.2.2.1; have := HS.out.2.2.2.2.1; omega, H9.out.2.2.2.2.2.1, H9.out.2.2.2.2.2.2.1, H9.out.2.2.2.2.2.2.2.1, H9.out.2.2.2.2.2.2.2.2.1, H9.out.2.2.2.2.2.2.2.2.2.1, H9.out.2.2.2.2.2.2.2.2.2.2⟩
    case measure => simp [intOf]
   ·have q0 := HS.out.2.2.2.2.2.2.1.cells 9 _ rfl
    have q1 := HS.out.2.2.2.2.2.2.1.cells 10 _ rfl
    have q2 := HS.out.2.2.2.2.2.2.1.cells 11 _ rfl
    have q3 := HS.out.2.2.2.2.2.2.1.cells 12 _ rfl
    have q4 := HS.out.2.2.2.2.2.2.1.cells 13 _ rfl
    have q5 := HS.out.2.2.2.2.2.2.1.cells 14 _ rfl
    have q6 := HS.out.2.2.2.2.2.2.1.cells 15 _ rfl
    have q7 := HS.out.2.2.2.2.2.2.1.cells 16 _ rfl
    have q8 := HS.out.2.2.2.2.2.2.1.cells 17 _ rfl
    go_wp2_with fail
    have HC := plays_any (o := opC 2 (some ⟨b7, 0, none⟩) 1 1 [7]) HS.out.1 HS.out.2.1 (rdOp_C ⟨rd_seven HS.out.2.2.2.2.2.1, fun b off n c e n0 q => (by simp only [Value.slice.injEq, Option.some.injEq, Addr.mk.injEq] at e; exact HS.out.2.2.2.2.2.2.2.2.1 (by rw [e.1.1]; exact q))⟩ (by simp)) HS.out.2.2.2.1 HZ.out
    unfold OpD.val opC at HC
    simp only at HC
    refine HC.mono ?_
    rintro e9 Z9 ⟨he9, U9, z9, qs9, w9, lk9, g9, hz9, hl9, hc9⟩
    subst he9
    have gb := g9.block b7 (Array.getElem?_eq_some_iff.1 HS.out.2.2.2.2.2.1).1 HS.out.2.2.2.2.2.2.2.2.1
    have gg := g9.block gf (Array.getElem?_eq_some_iff.1 HS.out.2.2.2.2.2.2.1).1 HS.out.2.2.2.2.2.2.2.1
    have H9 := Lib.hid (And.intro w9 (And.intro lk9 (And.intro (hc9 ⟨by decide, by decide, by decide⟩ (by decide) HS.out.2.2.1) (And.intro (Nat.lt_of_lt_of_le HS.out.2.2.2.1 hl9) (And.intro hz9 (And.intro (gb.trans HS.out.2.2.2.2.2.1) (And.intro (show FRow4 Z9 gf b7 from gg.trans HS.out.2.2.2.2.2.2.1) (And.intro (fun q => (g9.new gf q).elim HS.out.2.2.2.2.2.2.2.1 (fun e => by have := (Array.getElem?_eq_some_iff.1 HS.out.2.2.2.2.2.2.1).1; omega)) (And.intro (fun q => (g9.new b7 q).elim HS.out.2.2.2.2.2.2.2.2.1 (fun e => by have := (Array.getElem?_eq_some_iff.1 HS.out.2.2.2.2.2.1).1; omega)) (And.intro (HS.out.2.2.2.2.2.2.2.2.2.1.trans (g9.below HS.out.2.2.2.2.2.2.2.2.2.1.size HS.out.2.2.2.2.2.2.2.2.2.2)) (fun i hi => (g9.new i hi).elim (HS.out.2.2.2.2.2.2.2.2.2.2 i) (fun e => Nat.le_trans HS.out.2.2.2.2.2.2.2.2.2.1.size e))))))))))))
    clear HC w9 lk9 g9 hz9 hl9 hc9 gb gg q0 q1 q2 q3 q4 q5 q6 q7 q8
    go_wp2
    go_roundw
    case rel => exact ⟨2, U9, z9, qs9, by decide, by first | rfl | go_num, H9.out.1, H9.out.2.1, H9.out.2.2.1, H9.out.2.2.2.1, by have := H9.out.2.2.2.2.1; have := HS.out.2.2.2.2.1; omega, H9.out.2.2.2.2.2.1, H9.out.2.2.2.2.2.2.1, H9.out.2.2.2.2.2.2.2.1, H9.out.2.2.2.2.2.2.2.2.1, H9.out.2.2.2.2.2.2.2.2.2.1, H9.out.2.2.2.2.2.2.2.2.2.2⟩
    case measure => simp [intOf]
   ·have q0 := HS.out.2.2.2.2.2.2.1.cells 18 _ rfl
    have q1 := HS.out.2.2.2.2.2.2.1.cells 19 _ rfl
    have q2 := HS.out.2.2.2.2.2.2.1.cells 20 _ rfl
    have q3 := HS.out.2.2.2.2.2.2.1.cells 21 _ rfl
    have q4 := HS.out.2.2.2.2.2.2.1.cells 22 _ rfl
    have q5 := HS.out.2.2.2.2.2.2.1.cells 23 _ rfl
    have q6 := HS.out.2.2.2.2.2.2.1.cells 24 _ rfl
    have q7 := HS.out.2.2.2.2.2.2.1.cells 25 _ rfl
    have q8 := HS.out.2.2.2.2.2.2.1.cells 26 _ rfl
    go_wp2_with fail
    have HC := plays_any (o := opC 7 none 0 0 []) HS.out.1 HS.out.2.1 (rdOp_C ⟨rd_nil5 _, fun b off n c e n0 q => (by cases e)⟩ (by simp)) HS.out.2.2.2.1 HZ.out
    unfold OpD.val opC at HC
    simp only at HC
    refine HC.mono ?_
    rintro e9 Z9 ⟨he9, U9, z9, qs9, w9, lk9, g9, hz9, hl9, hc9⟩
    subst he9
    have gb := g9.block b7 (Array.getElem?_eq_some_iff.1 HS.out.2.2.2.2.2.1).1 HS.out.2.2.2.2.2.2.2.2.1
    have gg := g9.block gf (Array.getElem?_eq_some_iff.1 HS.out.2.2.2.2.2.2.1).1 HS.out.2.2.2.2.2.2.2.1
    have H9 := Lib.hid (And.intro w9 (And.intro lk9 (And.intro (hc9 ⟨by decide, by decide, by decide⟩ (by decide) HS.out.2.2.1) (And.intro (Nat.lt_of_lt_of_le HS.out.2.2.2.1 hl9) (And.intro hz9 (And.intro (gb.trans HS.out.2.2.2.2.2.1) (And.intro (show FRow4 Z9 gf b7 from gg.trans HS.out.2.2.2.2.2.2.1) (And.intro (fun q => (g9.new gf q).elim HS.out.2.2.2.2.2.2.2.1 (fun e => by have := (Array.getElem?_eq_some_iff.1 HS.out.2.2.2.2.2.2.1).1; omega)) (And.intro (fun q => (g9.new b7 q).elim HS.out.2.2.2.2.2.2.2.2.1 (fun e => by have := (Array.getElem?_eq_some_iff.1 HS.out.2.2.2.2.2.1).1; omega)) (And.intro (HS.out.2.2.2.2.2.2.2.2.2.1.trans (g9.below HS.out.2.2.2.2.2.2.2.2.2.1.size HS.out.2.2.2.2.2.2.2.2.2.2)) (fun i hi => (g9.new i hi).elim (HS.out.2.2.2.2.2.2.2.2.2.2 i) (fun e => Nat.le_trans HS.out.2.2.2.2.2.2.2.2.2.1.size e))))))))))))
    clear HC w9 lk9 g9 hz9 hl9 hc9 gb gg q0 q1 q2 q3 q4 q5 q6 q7 q8
    go_wp2
    go_roundw
    case rel => exact ⟨3, U9, z9, qs9, by decide, by first | rfl | go_num, H9.out.1, H9.out.2.1, H9.out.2.2.1, H9.out.2.2.2.1, by have := H9.out.2.2.2.2.1; have := HS.out.2.2.2.2.1; omega, H9.out.2.2.2.2.2.1, H9.out.2.2.2.2.2.2.1, H9.out.2.2.2.2.2.2.2.1, H9.out.2.2.2.2.2.2.2.2.1, H9.out.2.2.2.2.2.2.2.2.2.1, H9.out.2.2.2.2.2.2.2.2.2.2⟩
    case measure => simp [intOf]
   ·have q0 := HS.out.2.2.2.2.2.2.1.cells 27 _ rfl
    have q1 := HS.out.2.2.2.2.2.2.1.cells 28 _ rfl
    have q2 := HS.out.2.2.2.2.2.2.1.cells 29 _ rfl
    have q3 := HS.out.2.2.2.2.2.2.1.cells 30 _ rfl
    have q4 := HS.out.2.2.2.2.2.2.1.cells 31 _ rfl
    have q5 := HS.out.2.2.2.2.2.2.1.cells 32 _ rfl
    have q6 := HS.out.2.2.2.2.2.2.1.cells 33 _ rfl
    have q7 := HS.out.2.2.2.2.2.2.1.cells 34 _ rfl
    have q8 := HS.out.2.2.2.2.2.2.1.cells 35 _ rfl
    go_wp2_with fail
    have HC := plays_any (o := opC 5 none 0 0 []) HS.out.1 HS.out.2.1 (rdOp_C ⟨rd_nil5 _, fun b off n c e n0 q => (by cases e)⟩ (by simp)) HS.out.2.2.2.1 HZ.out
    unfold OpD.val opC at HC
    simp only at HC
    refine HC.mono ?_
    rintro e9 Z9 ⟨he9, U9, z9, qs9, w9, lk9, g9, hz9, hl9, hc9⟩
    subst he9
    have gb := g9.block b7 (Array.getElem?_eq_some_iff.1 HS.out.2.2.2.2.2.1).1 HS.out.2.2.2.2.2.2.2.2.1
    have gg := g9.block gf (Array.getElem?_eq_some_iff.1 HS.out.2.2.2.2.2.2.1).1 HS.out.2.2.2.2.2.2.2.1
    have H9 := Lib.hid (And.intro w9 (And.intro lk9 (And.intro (hc9 ⟨by decide, by decide, by decide⟩ (by decide) HS.out.2.2.1) (And.intro (Nat.lt_of_lt_of_le HS.out.2.2.2.1 hl9) (And.intro hz9 (And.intro (gb.trans HS.out.2.2.2.2.2.1) (And.intro (show FRow4 Z9 gf b7 from gg.trans HS.out.2.2.2.2.2.2.1) (And.intro (fun q => (g9.new gf q).elim HS.out.2.2.2.2.2.2.2.1 (fun e => by have := (Array.getElem?_eq_some_iff.1 HS.out.2.2.2.2.2.2.1).1; omega)) (And.intro (fun q => (g9.new b7 q).elim HS.out.2.2.2.2.2.2.2.2.1 (fun e => by have := (Array.getElem?_eq_some_iff.1 HS.out.2.2.2.2.2.1).1; omega)) (And.intro (HS.out.2.2.2.2.2.2.2.2.2.1.trans (g9.below HS.out.2.2.2.2.2.2.2.2.2.1.size HS.out.2.2.2.2.2.2.2.2.2.2)) (fun i hi => (g9.new i hi).elim (HS.out.2.2.2.2.2.2.2.2.2.2 i) (fun e => Nat.le_trans HS.out.2.2.2.2.2.2.2.2.2.1.size e))))))))))))
    clear HC w9 lk9 g9 hz9 hl9 hc9 gb gg q0 q1 q2 q3 q4 q5 q6 q7 q8
    go_wp2
    go_roundw
    case rel => exact ⟨4, U9, z9, qs9, by decide, by first | rfl | go_num, H9.out.1, H9.out.2.1, H9.out.2.2.1, H9.out.2.2.2.1, by have := H9.out.2.2.2.2.1; have := HS.out.2.2.2.2.1; omega, H9.out.2.2.2.2.2.1, H9.out.2.2.2.2.2.2.1, H9.out.2.2.2.2.2.2.2.1, H9.out.2.2.2.2.2.2.2.2.1, H9.out.2.2.2.2.2.2.2.2.2.1, H9.out.2.2.2.2.2.2.2.2.2.2⟩
    case measure => simp [intOf]
  ·have j1 : (4 : Int) ≤ (t : Int) := by omega
   clear hlt
   go_wp2
   go_ret
   exact ⟨wB, U, z, qs, rfl, HS.out.1, HS.out.2.1, HS.out.2.2.1, HS.out.2.2.2.1, by have := HS.out.2.2.2.2.1; omega, HS.out.2.2.2.2.2.2.2.2.2.1, HS.out.2.2.2.2.2.2.2.2.2.2⟩
end Go.Proofs.Ytlkhphhmhffdjaa
