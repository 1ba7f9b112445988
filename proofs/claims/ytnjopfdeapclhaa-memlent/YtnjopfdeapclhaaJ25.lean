import Derived.Test.YtnjopfdeapclhaaJ22
import Derived.Test.YtnjopfdeapclhaaJ24
import Derived.Test.YtnjopfdeapclhaaJ07
import Derived.Deep.RegionHeld3
import Derived.Test.YtnjopfdeapclhaaM32
namespace Go.Proofs.Ytnjopfdeapclhaa
open Go.RowKit Go.Shelf
set_option linter.unusedVariables false

/-- How long entries are, packed. -/
def pk : List EntD → Nat
  | [] => 0
  | e :: es => (packL e).length + pk es
theorem pk_app : ∀ (a b : List EntD), pk (a ++ b) = pk a + pk b
  | [], b => by simp [pk]
  | x :: a, b => by simp only [List.cons_append, pk, pk_app a b]; omega
theorem pk_perm {a b : List EntD} (h : a.Perm b) : pk a = pk b := by
  induction h with
  | nil => rfl
  | cons x _ ih => simp only [pk, ih]
  | swap x y l => simp only [pk]; omega
  | trans _ _ h1 h2 => exact h1.trans h2
theorem pk_sm : ∀ {a b : List EntD}, Sm a b → pk a = pk b
  | [], [], _ => rfl
  | x :: a, y :: b, h => by simp only [pk, packL_same h.1, pk_sm h.2]
  | [], _ :: _, h => h.elim
  | _ :: _, [], h => h.elim
theorem pk_take {xs : List EntD} {i : Nat} {x : EntD} (h : xs[i]? = some x) : pk (xs.take (i + 1)) = pk (xs.take i) + (packL x).length := by
  rw [List.take_add_one, h, pk_app]
  simp [pk]
theorem pk_len : ∀ {xs : List EntD}, (∀ x ∈ xs, (packL x).length ≤ 20000) → pk xs ≤ 20000 * xs.length
  | [], _ => by simp [pk]
  | x :: xs, h => by
    have h1 := h x (by simp)
    have h2 := pk_len (xs := xs) fun y hy => h y (by simp [hy])
    simp only [pk, List.length_cons]
    omega

theorem Sm.symm : ∀ {xs ys : List EntD}, Sm xs ys → Sm ys xs
  | [], [], _ => trivial
  | _ :: _, _ :: _, h => ⟨h.1.symm, Sm.symm h.2⟩
  | [], _ :: _, h => h.elim
  | _ :: _, [], h => h.elim
theorem Sm.trans : ∀ {xs ys zs : List EntD}, Sm xs ys → Sm ys zs → Sm xs zs
  | [], [], [], _, _ => trivial
  | _ :: _, _ :: _, _ :: _, h, k => ⟨h.1.trans k.1, Sm.trans h.2 k.2⟩
  | [], _ :: _, _, h, _ => h.elim
  | _ :: _, [], _, h, _ => h.elim
  | [], [], _ :: _, _, k => k.elim
  | _ :: _, _ :: _, [], _, k => k.elim
theorem Sm.mem : ∀ {xs ys : List EntD}, Sm xs ys → ∀ x ∈ xs, ∃ y ∈ ys, EntD.Same x y
  | [], [], _, x, hx => by simp at hx
  | a :: xs, b :: ys, h, x, hx => by
    rcases List.mem_cons.1 hx with rfl | hx
    · exact ⟨b, by simp, h.1⟩
    · obtain ⟨y, hy, k⟩ := Sm.mem h.2 x hx
      exact ⟨y, by simp [hy], k⟩
  | [], _ :: _, h, _, _ => h.elim
  | _ :: _, [], h, _, _ => h.elim
theorem Sm.split : ∀ {A B P : List EntD}, Sm (A ++ B) P → ∃ P1 P2, P = P1 ++ P2 ∧ Sm A P1 ∧ Sm B P2
  | [], B, P, h => ⟨[], P, rfl, trivial, h⟩
  | a :: A, B, p :: P, h => by
    obtain ⟨P1, P2, rfl, h1, h2⟩ := Sm.split (A := A) h.2
    exact ⟨p :: P1, P2, rfl, ⟨h.1, h1⟩, h2⟩
  | _ :: _, _, [], h => h.elim
theorem Sm.app : ∀ {A B P Q : List EntD}, Sm A P → Sm B Q → Sm (A ++ B) (P ++ Q)
  | [], _, [], _, _, k => k
  | _ :: _, _, _ :: _, _, h, k => ⟨h.1, Sm.app h.2 k⟩
  | [], _, _ :: _, _, h, _ => h.elim
  | _ :: _, _, [], _, h, _ => h.elim
theorem Sm.srt : ∀ {xs ys : List EntD}, Sm xs ys → Srt ys → Srt xs
  | [], [], _, _ => List.Pairwise.nil
  | x :: xs, y :: ys, h, k => by
    rw [Srt, List.pairwise_cons] at *
    refine ⟨fun a ha => ?_, Sm.srt h.2 k.2⟩
    obtain ⟨b, hb, s⟩ := Sm.mem h.2 a ha
    rw [compareS_same h.1 s]
    exact k.1 b hb
  | [], _ :: _, h, _ => h.elim
  | _ :: _, [], h, _ => h.elim

/-- Two rows of the same entries, both in order, are one. -/
theorem srt_perm : ∀ {a b : List EntD}, a.Perm b → Srt a → Srt b → a = b
  | [], b, h, _, _ => by have := h.length_eq; simp at this; exact (List.eq_nil_of_length_eq_zero this.symm).symm
  | x :: a, b, h, ha, hb => by
    cases b with
    | nil => have := h.length_eq; simp at this
    | cons y b =>
      have ha' := ha
      have hb' := hb
      rw [Srt, List.pairwise_cons] at ha hb
      have e : x = y := by
        have hx : x ∈ y :: b := h.subset (by simp)
        have hy : y ∈ x :: a := h.symm.subset (by simp)
        rcases List.mem_cons.1 hx with e | hx
        · exact e
        · rcases List.mem_cons.1 hy with e | hy
          · exact e.symm
          · have h1 := hb.1 x hx
            have h2 := ha.1 y hy
            have := compareS_swap x y
            omega
      subst e
      rw [srt_perm (List.perm_cons x |>.1 h) ha.2 hb.2]

/-- The table's entries are these, in whatever order. -/
def Hold (L es : List EntD) : Prop := ∃ P, P.Perm es ∧ Sm L P
theorem Hold.nil : Hold [] [] := ⟨[], .refl _, trivial⟩
theorem Hold.add {A B es : List EntD} {x e : EntD} (h : Hold (A ++ B) es) (hx : EntD.Same x e) : Hold (A ++ x :: B) (es ++ [e]) := by
  obtain ⟨P, hp, hs⟩ := h
  obtain ⟨P1, P2, rfl, h1, h2⟩ := hs.split
  refine ⟨P1 ++ e :: P2, ?_, h1.app ⟨hx, h2⟩⟩
  exact List.perm_middle.trans ((List.Perm.cons e hp).trans (List.perm_append_singleton e es).symm)
theorem Hold.mem {L es : List EntD} (h : Hold L es) : ∀ y ∈ L, ∃ e ∈ es, EntD.Same y e := fun y hy => by
  obtain ⟨P, hp, hs⟩ := h
  obtain ⟨e, he, k⟩ := hs.mem y hy
  exact ⟨e, hp.subset he, k⟩
theorem Hold.len {L es : List EntD} (h : Hold L es) : L.length = es.length := by
  obtain ⟨P, hp, hs⟩ := h
  rw [hs.len, hp.length_eq]
theorem Hold.pk {L es : List EntD} (h : Hold L es) : pk L = pk es := by
  obtain ⟨P, hp, hs⟩ := h
  rw [pk_sm hs, pk_perm hp]
theorem Hold.same {L M es fs : List EntD} (h : Hold L es) (k : Hold M fs) (he : es.Perm fs) (hL : Srt L) (hM : Srt M) : Sm L M := by
  obtain ⟨P, hp, hs⟩ := h
  obtain ⟨Q, hq, ks⟩ := k
  have : P = Q := srt_perm (hp.trans (he.trans hq.symm)) (hs.symm.srt hL) (ks.symm.srt hM)
  subst this
  exact hs.trans ks.symm

/-- No two of them have one key. -/
def Apt (es : List EntD) : Prop := es.Pairwise fun a b => compareS a b ≠ 0
theorem Apt.snoc {es : List EntD} {e : EntD} (h : Apt es) (k : ∀ x ∈ es, compareS x e ≠ 0) : Apt (es ++ [e]) := by
  rw [Apt, List.pairwise_append]
  exact ⟨h, by simp, fun a ha b hb => by rw [List.mem_singleton.1 hb]; exact k a ha⟩
theorem Apt.perm {es fs : List EntD} (h : Apt es) (p : es.Perm fs) : Apt fs := List.Pairwise.perm h p (fun {x y} k => by rw [compareS_swap x y]; omega)
/-- So the next of them isn't there yet. -/
theorem Apt.fresh {es L : List EntD} {i : Nat} {e : EntD} (h : Apt es) (he : es[i]? = some e) (hl : Hold L (es.take i)) : ¬ ∃ y ∈ L, compareS e y = 0 := by
  rintro ⟨y, hy, h0⟩
  obtain ⟨d, hd, s⟩ := hl.mem y hy
  obtain ⟨j, hj, rfl⟩ := List.mem_iff_getElem.1 hd
  rw [List.length_take] at hj
  obtain ⟨hi, hie⟩ := List.getElem?_eq_some_iff.1 he
  have k := List.pairwise_iff_getElem.1 h j i (by omega) hi (by omega)
  rw [List.getElem_take] at s
  rw [compareS_same (EntD.Same.rfl' e) s, ← hie, compareS_swap] at h0
  omega

/-- The order in which MemAny adds them to its other table. -/
def oth (r : Nat) (es : List EntD) : List EntD := (es.take r).reverse ++ (es.drop r).reverse
theorem oth_perm (r : Nat) (es : List EntD) : (oth r es).Perm es := by
  have h := (List.reverse_perm (es.take r)).append (List.reverse_perm (es.drop r))
  rwa [List.take_append_drop] at h
theorem oth_len (r : Nat) (es : List EntD) : (oth r es).length = es.length := (oth_perm r es).length_eq
theorem oth_get {r i : Nat} {es : List EntD} (hr : r ≤ es.length) (hi : i < es.length) : (oth r es)[i]? = es[(r + es.length - 1 - i) % es.length]? := by
  unfold oth
  by_cases h : i < r
  · rw [List.getElem?_append_left (by simp; omega), List.getElem?_reverse (by simp; omega), List.length_take, List.getElem?_take, if_pos (by omega)]
    congr 1
    have : r + es.length - 1 - i = (r - 1 - i) + es.length := by omega
    rw [this, Nat.add_mod_right, Nat.mod_eq_of_lt (by omega)]
    omega
  · rw [List.getElem?_append_right (by simp; omega), List.getElem?_reverse (by simp; omega), List.getElem?_drop]
    congr 1
    have : r + es.length - 1 - i < es.length := by omega
    rw [Nat.mod_eq_of_lt this]
    simp only [List.length_drop, List.length_reverse, List.length_take]
    omega
end Go.Proofs.Ytnjopfdeapclhaa

namespace Go.Proofs.Ytnjopfdeapclhaa
open Go.RowKit
set_option linter.unusedVariables false

set_option maxRecDepth 100000 in
theorem refFirst_any (a b : Bool) (w : World) : Calls Try.prog 42 #[.bool a, .bool b] w fun e w' => e = .returned (.int .i64 (cmpI (if a then 0 else 1) (if b then 0 else 1))) ∧ w' = w := by
  cases a <;> cases b <;>
  · go_enter Try.func42, Try.ntmps42
    go_wp2
    go_ret
    exact ⟨rfl, rfl⟩

theorem refFirst_ahead {a b : EntD} (k : Int) {p q : Bool} (hp : p = true ↔ a.kind = k) (hq : q = true ↔ b.kind = k) (w : World) : Calls Try.prog 42 #[.bool p, .bool q] w fun e w' => e = .returned (.int .i64 (aheadS a b k)) ∧ w' = w := by
  have h := refFirst_any p q w
  have e : cmpI (if p = true then 0 else 1) (if q = true then 0 else 1) = aheadS a b k := by
    unfold aheadS mark
    by_cases h1 : a.kind = k <;> by_cases h2 : b.kind = k <;> simp [h1, h2, hp, hq]
  rw [e] at h
  exact h

end Go.Proofs.Ytnjopfdeapclhaa

namespace Go.Proofs.Ytnjopfdeapclhaa
open Go.RowKit
set_option linter.unusedVariables false

set_option maxRecDepth 100000 in
set_option maxHeartbeats 8000000 in
theorem refCompare_any {a b : EntD} {w : World} (ha : EntD.Ok w a) (hb : EntD.Ok w b) :
    Calls Try.prog 15 #[.agg a.cells, .agg b.cells] w fun r w' => r = .returned (.int .i64 (compareS a b)) ∧ Below w.heap.size w w' := by
  have A1 := (Below.refl w.heap.size w).alloc (Nat.le_refl _) (.cells a.cells 30)
  have A2 := A1.alloc A1.size (.cells b.cells 30)
  have bxa0 := (EBox.new w a).later ((Below.refl (w.alloc (.cells a.cells 30)).heap.size (w.alloc (.cells a.cells 30))).alloc (Nat.le_refl _) (.cells b.cells 30))
  have bxb0 := EBox.new (w.alloc (.cells a.cells 30)) b
  rw [World.size_alloc] at bxb0
  have HX : Hid (EBox ((w.alloc (.cells a.cells 30)).alloc (.cells b.cells 30)) w.heap.size a ∧ EBox ((w.alloc (.cells a.cells 30)).alloc (.cells b.cells 30)) (w.heap.size + 1) b ∧ Below w.heap.size w ((w.alloc (.cells a.cells 30)).alloc (.cells b.cells 30))) := ⟨bxa0, bxb0, A2⟩
  have HA : Hid (EntD.Ok w a) := ha
  have HB : Hid (EntD.Ok w b) := hb
  have HCS : Hid (compareS a b = firstNZ (cmpsS a b)) := rfl
  clear A1 A2 bxa0 bxb0 ha hb
  simp only [EntD.cells] at HX ⊢
  obtain ⟨W, hW⟩ : ∃ W, W = ((w.alloc (.cells #[a.vr, .int .i64 a.fam, a.vq, .int .i64 a.ts, .int .i64 a.seq, .int .i64 a.kind, a.vv] 30)).alloc (.cells #[b.vr, .int .i64 b.fam, b.vq, .int .i64 b.ts, .int .i64 b.seq, .int .i64 b.kind, b.vv] 30)) := ⟨_, rfl⟩
  rw [← hW] at HX
  have KS : Hid (∀ wx, Below W.heap.size W wx → (wx.cell? ⟨w.heap.size, 0, none⟩ = some a.vr ∧ wx.cell? ⟨w.heap.size, 1, none⟩ = some (.int .i64 a.fam) ∧ wx.cell? ⟨w.heap.size, 2, none⟩ = some a.vq ∧ wx.cell? ⟨w.heap.size, 3, none⟩ = some (.int .i64 a.ts) ∧ wx.cell? ⟨w.heap.size, 4, none⟩ = some (.int .i64 a.seq) ∧ wx.cell? ⟨w.heap.size, 5, none⟩ = some (.int .i64 a.kind)) ∧ (wx.cell? ⟨w.heap.size + 1, 0, none⟩ = some b.vr ∧ wx.cell? ⟨w.heap.size + 1, 1, none⟩ = some (.int .i64 b.fam) ∧ wx.cell? ⟨w.heap.size + 1, 2, none⟩ = some b.vq ∧ wx.cell? ⟨w.heap.size + 1, 3, none⟩ = some (.int .i64 b.ts) ∧ wx.cell? ⟨w.heap.size + 1, 4, none⟩ = some (.int .i64 b.seq) ∧ wx.cell? ⟨w.heap.size + 1, 5, none⟩ = some (.int .i64 b.kind))) := fun wx h => by
    have e1 := HX.out.1.later h
    have e2 := HX.out.2.1.later h
    exact ⟨⟨e1.vr, e1.fam, e1.vq, e1.ts, e1.seq, e1.kind⟩, ⟨e2.vr, e2.fam, e2.vq, e2.ts, e2.seq, e2.kind⟩⟩
  have D0 : Below W.heap.size W W.drew := (Below.refl _ _).drew
  have RA : Hid (∀ wx, Below W.heap.size W wx → EntD.Ok wx a ∧ EntD.Ok wx b) := fun wx h => ⟨(HA.out.later HX.out.2.2).later h, (HB.out.later HX.out.2.2).later h⟩
  go_enter Try.func15, Try.ntmps15
  go_wp2_with fail
  rw [← hW]
  clear hW
  go_region_held3 (fun wx => (wx.cell? ⟨w.heap.size, 0, none⟩ = some a.vr ∧ wx.cell? ⟨w.heap.size, 1, none⟩ = some (.int .i64 a.fam) ∧ wx.cell? ⟨w.heap.size, 2, none⟩ = some a.vq ∧ wx.cell? ⟨w.heap.size, 3, none⟩ = some (.int .i64 a.ts) ∧ wx.cell? ⟨w.heap.size, 4, none⟩ = some (.int .i64 a.seq) ∧ wx.cell? ⟨w.heap.size, 5, none⟩ = some (.int .i64 a.kind)) ∧ (wx.cell? ⟨w.heap.size + 1, 0, none⟩ = some b.vr ∧ wx.cell? ⟨w.heap.size + 1, 1, none⟩ = some (.int .i64 b.fam) ∧ wx.cell? ⟨w.heap.size + 1, 2, none⟩ = some b.vq ∧ wx.cell? ⟨w.heap.size + 1, 3, none⟩ = some (.int .i64 b.ts) ∧ wx.cell? ⟨w.heap.size + 1, 4, none⟩ = some (.int .i64 b.seq) ∧ wx.cell? ⟨w.heap.size + 1, 5, none⟩ = some (.int .i64 b.kind)))
    (first | exact KS.out _ D0 | exact KS.out _ DD1 | exact KS.out _ DD2 | exact KS.out _ (DD2.alloc DD2.size _))
    (first
      | (go_at_call 41; refine (refNumber_any _ _ _).mono ?_; rintro e wn ⟨rfl, rfl⟩)
      | (go_at_call 42; have _t := T5.out; refine (refFirst_ahead (a := a) (b := b) 4 (by simp) (by simp) _).mono ?_; rintro e wn ⟨rfl, rfl⟩)
      | (go_at_call 42; refine (refFirst_ahead (a := a) (b := b) 5 (by simp) (by simp) _).mono ?_; rintro e wn ⟨rfl, rfl⟩; have T5 : Hid True := trivial)
      | (go_at_call 40; refine (refBytesOrd_any (RA.out _ DD1).1.2.1 (RA.out _ DD1).2.2.1).mono ?_; rintro e4 w4 ⟨rfl, hb4⟩; have DD2 := DD1.trans (hb4.mono DD1.size))
      | (go_at_call 40; refine (refBytesOrd_any (RA.out _ D0).1.1 (RA.out _ D0).2.1).mono ?_; rintro e3 w3 ⟨rfl, hb3⟩; have DD1 := D0.trans (hb3.mono D0.size)))
  have DW := HX.out.2.2.trans (DD2.mono HX.out.2.2.size)
  have DA := DW.alloc DW.size (.cells #[.int .i64 (ordC a.row b.row), .int .i64 (cmpI a.fam b.fam), .int .i64 (aheadS a b 5), .int .i64 (ordC a.qual b.qual), .int .i64 (aheadS a b 4), .int .i64 (cmpI b.ts a.ts), .int .i64 (cmpI b.seq a.seq), .int .i64 (cmpI a.kind b.kind)] 3)
  obtain ⟨U, hU⟩ : ∃ U, U = wn.alloc (.cells #[.int .i64 (ordC a.row b.row), .int .i64 (cmpI a.fam b.fam), .int .i64 (aheadS a b 5), .int .i64 (ordC a.qual b.qual), .int .i64 (aheadS a b 4), .int .i64 (cmpI b.ts a.ts), .int .i64 (cmpI b.seq a.seq), .int .i64 (cmpI a.kind b.kind)] 3) := ⟨_, rfl⟩
  have HCL : Hid (∀ t, t < 8 → U.cell? ⟨wn.heap.size, t, none⟩ = some (.int .i64 ((cmpsS a b).getD t 0))) := fun t ht => by
    have hh : U.heap[wn.heap.size]? = some (.cells #[.int .i64 (ordC a.row b.row), .int .i64 (cmpI a.fam b.fam), .int .i64 (aheadS a b 5), .int .i64 (ordC a.qual b.qual), .int .i64 (aheadS a b 4), .int .i64 (cmpI b.ts a.ts), .int .i64 (cmpI b.seq a.seq), .int .i64 (cmpI a.kind b.kind)] 3) := by rw [hU]; exact heap_new wn _
    have hc : ∀ j, U.cell? ⟨wn.heap.size, j, none⟩ = (#[.int .i64 (ordC a.row b.row), .int .i64 (cmpI a.fam b.fam), .int .i64 (aheadS a b 5), .int .i64 (ordC a.qual b.qual), .int .i64 (aheadS a b 4), .int .i64 (cmpI b.ts a.ts), .int .i64 (cmpI b.seq a.seq), .int .i64 (cmpI a.kind b.kind)] : Array Value)[j]? := fun j => by simp [World.cell?, hh]
    rw [hc]
    match t, ht with
    | 0, _ => rfl
    | 1, _ => rfl
    | 2, _ => rfl
    | 3, _ => rfl
    | 4, _ => rfl
    | 5, _ => rfl
    | 6, _ => rfl
    | 7, _ => rfl
  rw [← hU] at DA ⊢
  have HDA := Lib.hid DA
  have HLL : Hid ((cmpsS a b).length = 8) := rfl
  obtain ⟨l, hl⟩ : ∃ l, l = cmpsS a b := ⟨_, rfl⟩
  rw [← hl] at HCL HLL HCS
  obtain ⟨G, hG⟩ : ∃ G, G = wn.heap.size := ⟨_, rfl⟩
  rw [← hG] at HCL ⊢
  clear DA DW hU DD1 DD2 KS RA D0 HX HA HB hl hG
  rename_i hXX
  clear hXX
  go_wp2
  go_loopw [6] (fun i wr => ∃ t : Nat, t ≤ 8 ∧ i = .int .i64 (t : Int) ∧ Hid (∀ j, j < t → l.getD j 0 = 0) ∧ wr = U) (fun i _ => 8 - (intOf i).toNat)
  case atStart => exact ⟨0, by omega, rfl, fun j hj => by omega, rfl⟩
  case round =>
    obtain ⟨t, ht, rfl, hz, rfl⟩ := hrel
    by_cases hlt : t < 8
    · have hlt2 : (t : Int) < 8 := by omega
      have ht0 : (0 : Int) ≤ (t : Int) := by omega
      have ct := HCL.out t hlt
      obtain ⟨v, hv⟩ : ∃ v, v = l.getD t 0 := ⟨_, rfl⟩
      rw [← hv] at ct
      have HV := Lib.hid hv
      clear hv
      by_cases h0 : v = 0
      · subst h0
        go_wp2
        go_roundw
        case rel => exact ⟨t + 1, by omega, by go_num, fun j hj => by
          by_cases hjt : j = t
          · subst hjt; exact HV.out.symm
          · exact hz.out j (by omega), trivial⟩
        case measure => simp [intOf]; omega
      · have h1 : (v != 0) = true := by simpa using h0
        have h2 : (v == 0) = false := by simpa using h0
        have HR : Hid (compareS a b = v) := by unfold Hid; rw [HCS.out, firstNZ_at l t hz.out (by rw [← HV.out]; exact h0)]; exact HV.out.symm
        go_wp2
        go_ret
        rw [HR.out]
        exact ⟨rfl, HDA.out⟩
    · have hge : (8 : Int) ≤ (t : Int) := by omega
      obtain rfl : t = 8 := by omega
      have HR : Hid (compareS a b = 0) := by unfold Hid; rw [HCS.out]; exact firstNZ_none l (fun j hj => hz.out j (by rw [HLL.out] at hj; exact hj))
      go_wp2
      go_ret
      rw [HR.out]
      exact ⟨rfl, HDA.out⟩

end Go.Proofs.Ytnjopfdeapclhaa

namespace Go.Proofs.Ytnjopfdeapclhaa
open Go.RowKit Go.Shelf
set_option linter.unusedVariables false

theorem tbytes_any {w : World} {t : Nat} {p : Option Addr} {n k : Int} {f : Bool} (h : TBox w t p n k f) : Calls Try.prog 16 #[.pointer (some ⟨t, 0, none⟩)] w fun e w' => e = .returned (.int .i64 k) ∧ w' = w := by
  have hc := h.cells
  go_enter Try.func16, Try.ntmps16
  obtain ⟨c0, c1, c2, c3, c4⟩ := hc
  go_wp2
  go_ret
  exact ⟨rfl, rfl⟩

/-- While MemAny makes its list: two empty tables. -/
structure A1 (w : World) (t : Nat) (X : World) : Prop where
  a : TBox X t none 0 0 false
  b : TBox X (t + 1) none 0 0 false
  lo : w.heap.size ≤ t
  below : Below w.heap.size w X
theorem A1.lt {w X : World} {t : Nat} (h : A1 w t X) : t + 2 ≤ X.heap.size := h.b.lt
theorem A1.later {w X Y : World} {t : Nat} (h : A1 w t X) (b : Below X.heap.size X Y) : A1 w t Y := ⟨h.a.later b, h.b.later b, h.lo, h.below.trans (b.mono h.below.size)⟩
theorem A1.grown {w X Y : World} {t : Nat} {row : Option Nat} (h : A1 w t X) (g : X.grownBy Y row) (hr : ∀ r, row = some r → t + 2 ≤ r) : A1 w t Y := by
  have k : ∀ i, i < t + 2 → Y.heap[i]? = X.heap[i]? := fun i hi => g.block i (Nat.lt_of_lt_of_le hi h.lt) (fun e => by have := hr i e.symm; omega)
  exact ⟨(k t (by omega)).trans h.a, (k (t + 1) (by omega)).trans h.b, h.lo, ⟨g.os.trans h.below.os, g.tape.trans h.below.tape, g.output.trans h.below.output, Nat.le_trans h.below.size g.size, fun i hi => (k i (by have := h.lo; omega)).trans (h.below.block i hi)⟩⟩
/-- MemAny's list while it grows. -/
structure A2 (w : World) (t : Nat) (v : Value) (es : List EntD) (X : World) : Prop where
  tabs : A1 w t X
  row : X.ownsRow (t + 2) 30 7 v es.length (evals es)
  apt : Apt es
  good : ∀ e ∈ es, EntD.Ok w e ∧ checkS e = 0
theorem A2.later {w X Y : World} {t : Nat} {v : Value} {es : List EntD} (h : A2 w t v es X) (b : Below X.heap.size X Y) : A2 w t v es Y := ⟨h.tabs.later b, ownsRow_below h.row b, h.apt, h.good⟩
theorem A2.slice {w X : World} {t : Nat} {v : Value} {es : List EntD} (h : A2 w t v es X) : ∃ a c, v = .slice a es.length c := by
  rcases h.row.2 with ⟨rfl, h0⟩ | ⟨g, cap, cur, rfl, _⟩
  · exact ⟨none, 0, by rw [h0]⟩
  · exact ⟨_, _, rfl⟩
/-- While they are added: the list stands, and two tables. -/
structure A3 (w : World) (t : Nat) (v : Value) (es La Lb : List EntD) (X : World) : Prop where
  a : Tb (fun i => t + 1 < i) X t La ((pk La : Nat) : Int) false
  b : Tb (fun i => t + 1 < i) X (t + 1) Lb ((pk Lb : Nat) : Int) false
  row : X.ownsRow (t + 2) 30 7 v es.length (evals es)
  lo : w.heap.size ≤ t
  sz : t + 2 ≤ X.heap.size
  below : Below w.heap.size w X
theorem A3.of {w X : World} {t : Nat} {v : Value} {es : List EntD} (h : A2 w t v es X) : A3 w t v es [] [] X :=
  ⟨⟨by omega, List.Pairwise.nil, by simp, by simp [pk], none, .leaf, h.tabs.a, rfl, rfl⟩, ⟨by omega, List.Pairwise.nil, by simp, by simp [pk], none, .leaf, h.tabs.b, rfl, rfl⟩, h.row, h.tabs.lo, h.tabs.lt, h.tabs.below⟩
theorem A3.later {w X Y : World} {t : Nat} {v : Value} {es La Lb : List EntD} (h : A3 w t v es La Lb X) (b : Below X.heap.size X Y) : A3 w t v es La Lb Y :=
  ⟨h.a.later b, h.b.later b, ownsRow_below h.row b, h.lo, Nat.le_trans h.sz b.size, h.below.trans (b.mono h.below.size)⟩
theorem Tb.apart {G : Nat → Prop} {w w' : World} {t u : Nat} {L : List EntD} {k : Int} {f : Bool} (h : Tb G w t L k f) (hu : ¬ G u) (hne : t ≠ u) (ha : Apart u w w') : Tb G w' t L k f := by
  obtain ⟨p, T, h1, h2, h3⟩ := h.tree
  exact ⟨h.not, h.srt, h.good, h.few, p, T, (ha.block _ h1.lt hne).trans h1, h2.kept (KpG.of_apart ha hu), h3⟩
theorem pk_ins (A B : List EntD) {x e : EntD} (h : EntD.Same x e) : pk (A ++ x :: B) = pk (A ++ B) + (packL e).length := by
  rw [pk_app, pk_app, pk, packL_same h]
  omega
theorem A3.addA {w X : World} {t : Nat} {v : Value} {es La Lb ds : List EntD} {e : EntD} (h : A3 w t v es La Lb X) (he : EntD.Ok X e) (hc : checkS e = 0) (hf : ¬ ∃ y ∈ La, compareS e y = 0) (hl : La.length < 1000) (hd : Hold La ds) :
    Calls Try.prog 9 #[.pointer (some ⟨t, 0, none⟩), .agg e.cells] X fun z X' => z = .returned (.int .i64 0) ∧ ∃ La', A3 w t v es La' Lb X' ∧ Hold La' (ds ++ [e]) := by
  have hlo := h.lo
  have hsz := h.sz
  refine (add_tb h.a he (fun i hi => by omega) (by omega)).mono ?_
  rintro z X' ⟨c, rfl, hap, hh⟩
  rcases hh with ⟨h1, h2, h3⟩ | ⟨rfl, h1, h2, h3, A, B, x, rfl, h5, h6⟩
  · exact absurd (h3 hc rfl).1 hf
  · refine ⟨rfl, A ++ x :: B, ⟨?_, h.b.apart (by omega) (by omega) hap, ownsRow_apart h.row hap (by omega), h.lo, Nat.le_trans h.sz hap.size, h.below.trans (hap.below (by omega) h.below.size)⟩, hd.add h5⟩
    rw [pk_ins A B h5]
    exact h6
theorem A3.addB {w X : World} {t : Nat} {v : Value} {es La Lb ds : List EntD} {e : EntD} (h : A3 w t v es La Lb X) (he : EntD.Ok X e) (hc : checkS e = 0) (hf : ¬ ∃ y ∈ Lb, compareS e y = 0) (hl : Lb.length < 1000) (hd : Hold Lb ds) :
    Calls Try.prog 9 #[.pointer (some ⟨t + 1, 0, none⟩), .agg e.cells] X fun z X' => z = .returned (.int .i64 0) ∧ ∃ Lb', A3 w t v es La Lb' X' ∧ Hold Lb' (ds ++ [e]) := by
  have hlo := h.lo
  have hsz := h.sz
  refine (add_tb h.b he (fun i hi => by omega) (by omega)).mono ?_
  rintro z X' ⟨c, rfl, hap, hh⟩
  rcases hh with ⟨h1, h2, h3⟩ | ⟨rfl, h1, h2, h3, A, B, x, rfl, h5, h6⟩
  · exact absurd (h3 hc rfl).1 hf
  · refine ⟨rfl, A ++ x :: B, ⟨h.a.apart (by omega) (by omega) hap, ?_, ownsRow_apart h.row hap (by omega), h.lo, Nat.le_trans h.sz hap.size, h.below.trans (hap.below (by omega) h.below.size)⟩, hd.add h5⟩
    rw [pk_ins A B h5]
    exact h6
theorem row_slice {B s n : Nat} {e : TypeId} {v : Value} {xs : List Value} {w : World} (hs : 0 < s) (h : w.ownsRow B e s v n xs) : ∃ a c, v = .slice a n c := by
  rcases h.2 with ⟨rfl, h0⟩ | ⟨g, cap, cur, rfl, _⟩
  · exact ⟨none, 0, by rw [h0]⟩
  · exact ⟨_, _, rfl⟩
/-- While MemAny looks at what both tables told. -/
structure A4 (w : World) (t : Nat) (xv yv : Value) (xs ys : List EntD) (k : Int) (X : World) : Prop where
  rx : ∃ B, X.ownsRow B 30 7 xv xs.length (evals xs)
  ry : ∃ B, X.ownsRow B 30 7 yv ys.length (evals ys)
  ox : ∀ x ∈ xs, EntD.Ok X x
  oy : ∀ y ∈ ys, EntD.Ok X y
  ta : ∃ p n, TBox X t p n k false
  below : Below w.heap.size w X
theorem A4.later {w X Y : World} {t : Nat} {xv yv : Value} {xs ys : List EntD} {k : Int} (h : A4 w t xv yv xs ys k X) (b : Below X.heap.size X Y) : A4 w t xv yv xs ys k Y := by
  obtain ⟨B1, h1⟩ := h.rx
  obtain ⟨B2, h2⟩ := h.ry
  obtain ⟨p, n, h3⟩ := h.ta
  exact ⟨⟨B1, ownsRow_below h1 b⟩, ⟨B2, ownsRow_below h2 b⟩, fun x hx => (h.ox x hx).later b, fun x hx => (h.oy x hx).later b, ⟨p, n, h3.later b⟩, h.below.trans (b.mono h.below.size)⟩
/-- What the two tables hold, and what was told of them. -/
theorem any_facts {w X : World} {t r : Nat} {v : Value} {es La Lb xs ys : List EntD} (h : A3 w t v es La Lb X) (ha : Hold La es) (hb : Hold Lb (oth r es)) (hx : Sm xs La) (hy : Sm ys Lb) :
    xs.length = es.length ∧ ys.length = es.length ∧ La.length = es.length ∧ Lb.length = es.length ∧ pk Lb = pk La ∧ pk xs = pk La ∧ Sm xs ys ∧ Srt xs ∧ (∀ x ∈ xs, checkS x = 0) := by
  have l1 := ha.len
  have l2 := hb.len
  rw [oth_len] at l2
  have sm : Sm La Lb := ha.same hb (oth_perm r es).symm h.a.srt h.b.srt
  refine ⟨by rw [hx.len, l1], by rw [hy.len, l2], l1, l2, by rw [hb.pk, ha.pk, pk_perm (oth_perm r es)], pk_sm hx, (hx.trans sm).trans hy.symm, hx.srt h.a.srt, fun x hxm => ?_⟩
  obtain ⟨y, hym, k⟩ := hx.mem x hxm
  rw [checkS_same k]
  exact h.a.good y hym
end Go.Proofs.Ytnjopfdeapclhaa

namespace Go.Proofs.Ytnjopfdeapclhaa
open Go.RowKit Go.Shelf
set_option linter.unusedVariables false

/-- Add, with its errors, of a table that is not frozen. -/
theorem add_tc {G : Nat → Prop} {w : World} {t : Nat} {L : List EntD} {k : Int} {e : EntD} (hb : Tb G w t L k false) (he : EntD.Ok w e) (hG : ∀ i, w.heap.size ≤ i → G i) (hsz : L.length < 1000000000) :
    Calls Try.prog 9 #[.pointer (some ⟨t, 0, none⟩), .agg e.cells] w fun z w' => ∃ c : Nat, z = .returned (.int .i64 (c : Int)) ∧ Apart t w w' ∧
      ((checkS e ≠ 0 ∧ c = checkS e ∧ Tb G w' t L k false) ∨ (checkS e = 0 ∧ (∃ y ∈ L, compareS e y = 0) ∧ c = 80 ∧ Tb G w' t L k false) ∨ (c = 0 ∧ checkS e = 0 ∧ (¬ ∃ y ∈ L, compareS e y = 0) ∧ ∃ A B x, L = A ++ B ∧ EntD.Same x e ∧ Tb G w' t (A ++ x :: B) (k + ((packL e).length : Nat)) false)) := by
  by_cases hc : checkS e = 0
  · refine (add_tb hb he hG hsz).mono ?_
    rintro z w' ⟨c, hz, hap, ⟨h0, h1, h2⟩ | ⟨h0, h1, h2, h3, h4⟩⟩
    · obtain ⟨k1, k2⟩ := h2 hc rfl
      exact ⟨c, hz, hap, .inr (.inl ⟨hc, k1, k2, h1⟩)⟩
    · exact ⟨c, hz, hap, .inr (.inr ⟨h0, h1, h3, h4⟩)⟩
  · refine (add_bad he hc).mono ?_
    rintro z w' ⟨rfl, hw⟩
    exact ⟨checkS e, rfl, Apart.of hw, .inl ⟨hc, rfl, hb.later hw⟩⟩

/-- A list of entries that is read. -/
def RdL (w : World) (v : Value) (xs : List EntD) : Prop := ∃ a cap, v = .slice a xs.length cap ∧ xs.length ≤ cap ∧ cap ≤ maxLen ∧ xs.length ≤ 1000000 ∧ ((a = none ∧ cap = 0) ∨ ∃ b off, a = some ⟨b, off, none⟩) ∧ ∀ i x, xs[i]? = some x → EntD.Ok w x ∧ ∃ b off, a = some ⟨b, off, none⟩ ∧ Cs w b (off + i * 7) x
theorem RdL.later {w w' : World} {v : Value} {xs : List EntD} (h : RdL w v xs) (hb : Below w.heap.size w w') : RdL w' v xs := by
  obtain ⟨a, cap, h1, h2, h3, h4, h0, h5⟩ := h
  refine ⟨a, cap, h1, h2, h3, h4, h0, fun i x hx => ?_⟩
  obtain ⟨k1, b, off, k2, k3⟩ := h5 i x hx
  exact ⟨k1.later hb, b, off, k2, k3.later hb⟩
theorem RdL.nil (w : World) : RdL w (.slice none 0 0) [] := ⟨none, 0, rfl, Nat.le_refl _, Nat.zero_le _, Nat.zero_le _, .inl ⟨rfl, rfl⟩, fun i x h => by simp at h⟩
theorem RdL.slice {w : World} {v : Value} {xs : List EntD} (h : RdL w v xs) : ∃ a cap, v = .slice a xs.length cap := by
  obtain ⟨a, cap, h1, _⟩ := h
  exact ⟨a, cap, h1⟩
theorem RdL.of {w : World} {B : Nat} {v : Value} {xs : List EntD} (h : w.ownsRow B 30 7 v xs.length (evals xs)) (ho : ∀ x ∈ xs, EntD.Ok w x) (hl : xs.length ≤ 1000000) : RdL w v xs := by
  rcases h.2 with ⟨rfl, hn⟩ | ⟨g, cap, cur, rfl, h4, h5, h6, h7, h8⟩
  · obtain rfl : xs = [] := List.length_eq_zero_iff.1 hn
    exact RdL.nil w
  · refine ⟨_, cap, rfl, h6, h7, hl, .inr ⟨_, _, rfl⟩, fun i x hx => ⟨ho x (List.mem_of_getElem? hx), ?_⟩⟩
    obtain ⟨g', cap', e1, _, e3⟩ := row_cells h hx
    cases e1
    exact ⟨g, 0, rfl, by simpa using e3⟩
theorem Sm.at {xs ys : List EntD} (h : Sm xs ys) {i : Nat} (hi : i < xs.length) : ∃ x y, xs[i]? = some x ∧ ys[i]? = some y ∧ EntD.Same x y := by
  have hj : i < ys.length := by rw [← h.len]; exact hi
  exact ⟨xs[i], ys[i], by simp [hi], by simp [hj], h.get i _ _ (by simp [hi]) (by simp [hj])⟩

set_option maxRecDepth 100000 in
set_option maxHeartbeats 4000000 in
theorem sameList_ok {w : World} {va vb : Value} {xs ys : List EntD} (ha : RdL w va xs) (hb : RdL w vb ys) (hs : Sm xs ys) :
    Calls Try.prog 23 #[va, vb] w fun e w' => e = .returned (.bool true) ∧ Below w.heap.size w w' := by
  have HA := Lib.hid ha
  have HB := Lib.hid hb
  obtain ⟨a, ca, rfl, a1, a2, a3, -, a4⟩ := ha
  obtain ⟨b, cb, rfl, b1, b2, b3, -, b4⟩ := hb
  have HS := Lib.hid hs
  obtain ⟨n, hn⟩ : ∃ n, n = xs.length := ⟨_, rfl⟩
  rw [← hn, show ys.length = n from by rw [← hs.len]; exact hn.symm]
  rw [← hn] at a1 a3
  have HN : Hid (xs.length = n) := hn.symm
  have hb1 : n ≤ cb := by rw [← hs.len] at b1; omega
  have HA4 := Lib.hid a4
  have HB4 := Lib.hid b4
  clear hn hs a4 b4 b1 b3
  have hmx : Try.prog.follows .mixedOrders = true := by kernel_rfl
  go_enter Try.func23, Try.ntmps23
  go_wp2
  go_loopw [5] (fun i wr => ∃ t : Nat, t ≤ n ∧ i = .int .i64 (t : Int) ∧ Below w.heap.size w wr) (fun i _ => n - (intOf i).toNat)
  case atStart => exact ⟨0, by omega, rfl, Below.refl _ _⟩
  case round =>
    obtain ⟨t, htn, rfl, hbk⟩ := hrel
    by_cases h1 : t < n
    · have h1' : (t : Int) < (n : Int) := by omega
      have ht0 : (0 : Int) ≤ (t : Int) := by omega
      have HBK := Lib.hid hbk
      obtain ⟨x, y, hx, hy, hxy⟩ := HS.out.at (i := t) (by rw [HN.out]; exact h1)
      obtain ⟨ox, ba, oa, rfl, cx⟩ := HA4.out t x hx
      obtain ⟨oy, bb, ob, rfl, cy⟩ := HB4.out t y hy
      have KS : Hid (∀ wx, Below wr.heap.size wr wx → (wx.cell? ⟨ba, oa + t * 7, none⟩ = some x.vr ∧ wx.cell? ⟨ba, oa + t * 7 + 1, none⟩ = some (.int .i64 x.fam) ∧ wx.cell? ⟨ba, oa + t * 7 + 2, none⟩ = some x.vq ∧ wx.cell? ⟨ba, oa + t * 7 + 3, none⟩ = some (.int .i64 x.ts) ∧ wx.cell? ⟨ba, oa + t * 7 + 4, none⟩ = some (.int .i64 x.seq) ∧ wx.cell? ⟨ba, oa + t * 7 + 5, none⟩ = some (.int .i64 x.kind) ∧ wx.cell? ⟨ba, oa + t * 7 + 6, none⟩ = some x.vv) ∧ (wx.cell? ⟨bb, ob + t * 7, none⟩ = some y.vr ∧ wx.cell? ⟨bb, ob + t * 7 + 1, none⟩ = some (.int .i64 y.fam) ∧ wx.cell? ⟨bb, ob + t * 7 + 2, none⟩ = some y.vq ∧ wx.cell? ⟨bb, ob + t * 7 + 3, none⟩ = some (.int .i64 y.ts) ∧ wx.cell? ⟨bb, ob + t * 7 + 4, none⟩ = some (.int .i64 y.seq) ∧ wx.cell? ⟨bb, ob + t * 7 + 5, none⟩ = some (.int .i64 y.kind) ∧ wx.cell? ⟨bb, ob + t * 7 + 6, none⟩ = some y.vv)) := fun wx b => by
        have k := (HBK.out.trans (b.mono HBK.out.size))
        exact ⟨cx.later k, cy.later k⟩
      have HSe : Hid (∀ Z, Below wr.heap.size wr Z → Calls Try.prog 12 #[.agg #[x.vr, .int .i64 x.fam, x.vq, .int .i64 x.ts, .int .i64 x.seq, .int .i64 x.kind, x.vv], .agg #[y.vr, .int .i64 y.fam, y.vq, .int .i64 y.ts, .int .i64 y.seq, .int .i64 y.kind, y.vv]] Z fun r w' => r = .returned (.bool true) ∧ Below Z.heap.size Z w') := fun Z hZ => by
        have k := (HBK.out.trans (hZ.mono HBK.out.size))
        refine (se_any (ox.later k) (oy.later k)).mono ?_
        rintro r w' ⟨rfl, hb⟩
        exact ⟨by rw [decide_eq_true hxy], hb⟩
      have D0 : Below wr.heap.size wr wr.drew := (Below.refl _ _).drew
      clear hx hy ox oy cx cy hxy hbk
      go_wp2_with fail
      go_region_held3 (fun wx => (wx.cell? ⟨ba, oa + t * 7, none⟩ = some x.vr ∧ wx.cell? ⟨ba, oa + t * 7 + 1, none⟩ = some (.int .i64 x.fam) ∧ wx.cell? ⟨ba, oa + t * 7 + 2, none⟩ = some x.vq ∧ wx.cell? ⟨ba, oa + t * 7 + 3, none⟩ = some (.int .i64 x.ts) ∧ wx.cell? ⟨ba, oa + t * 7 + 4, none⟩ = some (.int .i64 x.seq) ∧ wx.cell? ⟨ba, oa + t * 7 + 5, none⟩ = some (.int .i64 x.kind) ∧ wx.cell? ⟨ba, oa + t * 7 + 6, none⟩ = some x.vv) ∧ (wx.cell? ⟨bb, ob + t * 7, none⟩ = some y.vr ∧ wx.cell? ⟨bb, ob + t * 7 + 1, none⟩ = some (.int .i64 y.fam) ∧ wx.cell? ⟨bb, ob + t * 7 + 2, none⟩ = some y.vq ∧ wx.cell? ⟨bb, ob + t * 7 + 3, none⟩ = some (.int .i64 y.ts) ∧ wx.cell? ⟨bb, ob + t * 7 + 4, none⟩ = some (.int .i64 y.seq) ∧ wx.cell? ⟨bb, ob + t * 7 + 5, none⟩ = some (.int .i64 y.kind) ∧ wx.cell? ⟨bb, ob + t * 7 + 6, none⟩ = some y.vv)) (first | exact KS.out _ D1 | exact KS.out _ D0) ((go_at_call 12; refine Calls.mono (HSe.out _ D0) ?_; rintro e1 w1 ⟨rfl, hb1⟩; have D1 := D0.trans (hb1.mono D0.size)))
      go_wp2
      go_roundw
      case rel => exact ⟨t + 1, by omega, by go_num, HBK.out.trans (D1.mono HBK.out.size)⟩
      case measure => simp [intOf]; omega
    · have h1' : (n : Int) ≤ (t : Int) := by omega
      go_wp2
      go_ret
      exact ⟨rfl, hbk⟩
end Go.Proofs.Ytnjopfdeapclhaa
