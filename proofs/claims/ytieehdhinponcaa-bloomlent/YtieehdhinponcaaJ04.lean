import Derived.Test.YtieehdhinponcaaJ03
import Derived.RangeFuncNested
import Derived.RangeFuncBound
import Derived.RangeFuncCalls
import Derived.RangeFuncLeaves
import Derived.Shelf.Abstract
import Derived.Shelf.RegionOpen
import Derived.OwnWalkIn
import Derived.TacticsInMore
import Derived.LoopNIn
import Derived.LoopIn
import Derived.Sort.QuietIn
namespace Go.Proofs.Ytieehdhinponcaa
open Go.RowKit Go.Shelf
set_option linter.unusedVariables false
attribute [local go_sem] Oper.semAt_some

set_option maxRecDepth 100000 in
set_option maxHeartbeats 400000 in
theorem placesOf_any (p m x y : Nat) (w : World) :
    Calls Try.prog 36 #[shV p m, .agg #[.int .u32 (x : Int), .int .u32 (y : Int)]] w fun e w' => e = .returned (.func (.func 48) #[] #[.pointer (some ⟨w.heap.size + 1, 0, none⟩), .pointer (some ⟨w.heap.size, 0, none⟩)]) ∧ w' = (w.alloc (.cells #[.int .u8 (p : Int), .int .u32 (m : Int)] 59)).alloc (.cells #[.int .u32 (x : Int), .int .u32 (y : Int)] 63) := by
  unfold shV
  go_enter Try.func36, Try.ntmps36
  go_wp2
  go_ret
  exact ⟨rfl, rfl⟩

/-- What a round keeps: the shape's box. -/
def KpB (Bs : Nat) (W W' : World) : Prop := W'.heap[Bs]? = W.heap[Bs]?
def plF (x y m : Nat) (hm : 0 < m) (j : Nat) : Fin m := ⟨stepN x y m j, Nat.mod_lt _ hm⟩
def plL (x y m : Nat) (hm : 0 < m) (k : Nat) : List (Fin m) := (List.range k).map (plF x y m hm)
theorem plL_succ (x y m : Nat) (hm : 0 < m) (k : Nat) : plL x y m hm (k + 1) = plL x y m hm k ++ [plF x y m hm k] := by simp [plL, List.range_succ]
theorem plL_length (x y m : Nat) (hm : 0 < m) (k : Nat) : (plL x y m hm k).length = k := by simp [plL]

set_option maxRecDepth 100000 in
set_option maxHeartbeats 2000000 in
theorem places1_in (n : Nat) (hn : 1 ≤ n) (l Bs Bh p m x y : Nat) (hp : p < 256) (hm : 0 < m) (hm32 : m < 4294967296) (hx : x < 4294967296) (hy : y < 4294967296) (J Jx : List (Fin m) → World → Prop)
    (hY : ∀ pre (i : Fin m) W, J pre W → pre.length < p → YieldAt Fence.wide (n - 1) Try.prog l #[.int .i64 ((i.val : Nat) : Int)] W fun e W' =>
      (e = .returned (.bool true) ∧ J (pre ++ [i]) W' ∧ KpB Bs W W') ∨ (e = .returned (.bool false) ∧ Jx (pre ++ [i]) W'))
    (W : World) (hBs : W.heap[Bs]? = some (.cells #[.int .u8 (p : Int), .int .u32 (m : Int)] 59 (0, 0))) (hBh : W.heap[Bh]? = some (.cells #[.int .u32 (x : Int), .int .u32 (y : Int)] 63 (0, 0))) (h0 : ∀ q, J [] (W.drewN q)) :
    CallsIn Fence.wide n Try.prog 48 #[.func (.yield l) #[] #[], .pointer (some ⟨Bh, 0, none⟩), .pointer (some ⟨Bs, 0, none⟩)] W fun e W' => (∃ v, e = .returned v) ∧
      ((∃ ys, ys = plL x y m hm p ∧ J ys W') ∨ (∃ pre, (∃ k, k ≤ p ∧ pre = plL x y m hm k) ∧ Jx pre W')) := by
  have s0 : W.cell? ⟨Bs, 0, none⟩ = some (.int .u8 (p : Int)) := by simp [World.cell?, hBs]
  have s1 : W.cell? ⟨Bs, 1, none⟩ = some (.int .u32 (m : Int)) := by simp [World.cell?, hBs]
  have c0 : W.cell? ⟨Bh, 0, none⟩ = some (.int .u32 (x : Int)) := by simp [World.cell?, hBh]
  have c1 : W.cell? ⟨Bh, 1, none⟩ = some (.int .u32 (y : Int)) := by simp [World.cell?, hBh]
  obtain ⟨z, hz⟩ : ∃ z, z = y ||| 1 := ⟨_, rfl⟩
  have hzl : z < 4294967296 := hz ▸ Nat.or_lt_two_pow (n := 32) hy (by decide)
  have e1 : bits .or .u32 (y : Int) 1 = (z : Int) := by rw [hz]; exact u32_or_nat y 1 hy (by decide)
  have HZ : Hid (∀ j, stepN x y m j = (x + j * z) % 4294967296 % m) := fun j => by unfold stepN; rw [hz]
  clear hz
  have HS : Hid (∀ wx : World, wx.heap[Bs]? = some (.cells #[.int .u8 (p : Int), .int .u32 (m : Int)] 59 (0, 0)) → wx.cell? ⟨Bs, 1, none⟩ = some (.int .u32 (m : Int))) := fun wx h => by simp [World.cell?, h]
  refine callsIn_of_wp Try.func48 rfl trivial ?_ rfl
  simp only [Try.ntmps48, List.size_toArray, List.length_cons, List.length_nil, Nat.reduceAdd, Nat.reduceSub, Array.replicate_succ, Array.replicate_zero, List.push_toArray, List.append_toArray, List.nil_append, List.cons_append]
  gi_wp2
  gi_quiet (fail)
  gi_wp2
  gi_loopw [4, 13] (fun at' i wr => ∃ k a : Nat, k ≤ p ∧ i = .int .u8 (k : Int) ∧ at' = .int .u32 (a : Int) ∧ a < 4294967296 ∧ Hid (a = (x + k * z) % 4294967296 ∧ J (plL x y m hm k) wr ∧ wr.heap[Bs]? = some (.cells #[.int .u8 (p : Int), .int .u32 (m : Int)] 59 (0, 0)))) (fun _ i _ => p - (intOf i).toNat)
  case atStart => exact ⟨0, x, Nat.zero_le _, rfl, rfl, hx, by simp [Nat.mod_eq_of_lt hx], h0 _, by simpa [World.drewN] using hBs⟩
  case round =>
    obtain ⟨k, a, hk, rfl, rfl, hal, HI⟩ := hrel
    have sb := HS.out _ HI.out.2.2
    by_cases hlt : k < p
    · have hlt2 : (k : Int) < (p : Int) := by omega
      have hyy := hY _ (plF x y m hm k) wr HI.out.2.1 (by rw [plL_length]; exact hlt)
      have hpl : (plF x y m hm k).val = a % m := by
        show stepN x y m k = _
        rw [HZ.out, ← HI.out.1]
      rw [hpl] at hyy
      obtain ⟨fn, tmps, assign, body, hy1, hR⟩ := hyy
      have hm0 : ¬ ((m : Int) = 0) := by omega
      have ei : ((a % m : Nat) : Int) = (a : Int) % (m : Int) := by omega
      rw [ei] at hy1
      gi_wp2
      refine hR.mono ?_
      rintro e W3 (⟨rfl, hJ3, hk3⟩ | ⟨rfl, hJx3⟩)
      · have hJ4 : Hid (J (plL x y m hm (k + 1)) W3 ∧ W3.heap[Bs]? = some (.cells #[.int .u8 (p : Int), .int .u32 (m : Int)] 59 (0, 0))) := ⟨by rw [plL_succ]; exact hJ3, (show W3.heap[Bs]? = wr.heap[Bs]? from hk3).trans HI.out.2.2⟩
        clear hJ3 hk3 hR hy1 hY
        gi_wp2
        refine ⟨⟨k + 1, (a + z) % 4294967296, by omega, by go_num, by congr 1, Nat.mod_lt _ (by decide), ?_, hJ4.out⟩, by simp [intOf]; omega⟩
        rw [HI.out.1, Nat.mod_add_mod, Nat.succ_mul, Nat.add_assoc]
      · have hJx4 : Hid (Jx (plL x y m hm (k + 1)) W3) := by rw [plL_succ]; exact hJx3
        clear hJx3 hR hy1 hY
        gi_wp2
        refine bodyPost_ret (results_none rfl _ _ _) rfl ?_
        exact ⟨⟨_, rfl⟩, .inr ⟨_, ⟨k + 1, by omega, rfl⟩, hJx4.out⟩⟩
    · gi_wp2
      go_end0
      have hkp : k = p := by omega
      subst hkp
      exact ⟨⟨_, rfl⟩, .inl ⟨_, rfl, HI.out.2.1⟩⟩

theorem places_stops (n : Nat) (hn : 1 ≤ n) (Bs Bh p m x y : Nat) (hp : p < 256) (hm : 0 < m) (hm32 : m < 4294967296) (hx : x < 4294967296) (hy : y < 4294967296) (w : World)
    (hBs : w.heap[Bs]? = some (.cells #[.int .u8 (p : Int), .int .u32 (m : Int)] 59 (0, 0))) (hBh : w.heap[Bh]? = some (.cells #[.int .u32 (x : Int), .int .u32 (y : Int)] 63 (0, 0))) :
    SeqStopsK Fence.wide n Try.prog 48 #[.pointer (some ⟨Bh, 0, none⟩), .pointer (some ⟨Bs, 0, none⟩)] (fun i : Fin m => #[Value.int .i64 ((i.val : Nat) : Int)]) (KpB Bs) (fun ys => ys = plL x y m hm p) (fun pre => ∃ k, k ≤ p ∧ pre = plL x y m hm k) p w := fun l J Jx W hW hJ _ hY h0 => by
  have h1 := (hW.block Bs (Array.getElem?_eq_some_iff.1 hBs).1).trans hBs
  have h2 := (hW.block Bh (Array.getElem?_eq_some_iff.1 hBh).1).trans hBh
  exact places1_in n hn l Bs Bh p m x y hp hm hm32 hx hy J Jx hY W h1 h2 (fun q => hJ [] W _ none h0 ⟨rfl, rfl, rfl, Nat.le_refl _, fun k _ _ => rfl⟩ (fun r e => by cases e))

/-- Marks that are left behind: each is a block of its own, and holds no call. -/
def mkD (D : Nat) : Deferred := { target := .collected D, args := #[] }
def Marks (w : World) (B : Nat) (Ds : List Nat) : Prop := Ds.Nodup ∧ ∀ D ∈ Ds, B ≤ D ∧ w.heap[D]? = some (.deferred (some []))
/-- Nothing but such blocks has turned. -/
structure Shut (B : Nat) (w w' : World) : Prop where
  below : Below B w w'
  cells : ∀ (i : Nat) (o : Obj), w.heap[i]? = some o → o.isCells = true → w'.heap[i]? = some o
theorem leaves_marks {fn : Func} {tmps : Array Value} {R : Ending → World → Prop} {n B : Nat} : ∀ (Ds : List Nat) (w : World), B ≤ w.heap.size → Marks w B Ds →
    (∀ w', Shut B w w' → LeavesIn Fence.wide n Try.prog fn tmps R [] .returning w') → LeavesInM Fence.wide n Try.prog fn tmps R (Ds.map mkD) .returning w
  | [], w, _, _, h => h w ⟨Below.refl _ _, fun _ _ h _ => h⟩
  | D :: Ds, w, hB, ⟨hnd, hm⟩, h => by
    have hD := hm D (by simp)
    have hlt := (Array.getElem?_eq_some_iff.1 hD.2).1
    refine ⟨by simp, .inl ⟨D, _, rfl, run_takeDeferred hD.2, ?_⟩⟩
    refine leaves_marks Ds _ (by simpa using hB) ⟨(List.nodup_cons.1 hnd).2, fun E hE => ?_⟩ fun w' hs => h w' ?_
    · have := hm E (by simp [hE])
      refine ⟨this.1, ?_⟩
      rw [World.putObj_heap_other (fun e => (List.nodup_cons.1 hnd).1 (by rw [← e]; exact hE))]
      exact this.2
    · have b0 : Below B w (w.putObj D (.deferred none)) := ⟨rfl, rfl, rfl, by simp, fun k hk => World.putObj_heap_other (by omega)⟩
      refine ⟨b0.trans hs.below, fun i o hi ho => hs.cells i o ?_ ho⟩
      rw [World.putObj_heap_other (fun e => by subst e; rw [hi] at hD; have := hD.2; cases this; cases ho)]
      exact hi
end Go.Proofs.Ytieehdhinponcaa

namespace Go.Proofs.Ytieehdhinponcaa
open Go.RowKit Go.Shelf
set_option linter.unusedVariables false
attribute [local go_sem] Oper.semAt_some

theorem ownsMap_later {w w' : World} {b n : Nat} {D : DataW Unit} (h : w.ownsMap Try.prog 9 halfR b n D) (hb : Below w.heap.size w w') : w'.ownsMap Try.prog 9 halfR b n D := by
  have hlt := h.lt
  obtain ⟨es, clock, h1, h2⟩ := h
  exact ⟨es, clock, (hb.block _ hlt).trans h1, h2⟩

/-- The bits of the keys that have come. -/
def leftS (ks : List (List Nat)) (p m : Nat) (left : Lit → Bool) (i : Nat) : Bool := ks.any fun k => !left (litK k) && (placesN k p m).contains i
theorem leftS_step {ks : List (List Nat)} {p m : Nat} {left : Lit → Bool} {k0 : List Nat} (hb : ∀ k ∈ ks, Bys k) (hk : k0 ∈ ks) (hl : left (litK k0) = true) (i : Nat) :
    leftS ks p m (fun z => left z && !z.sameKey (litK k0)) i = (leftS ks p m left i || (placesN k0 p m).contains i) := by
  rw [Bool.eq_iff_iff]
  unfold leftS
  simp only [List.any_eq_true, Bool.or_eq_true, Bool.and_eq_true, Bool.not_eq_true', Bool.and_eq_false_iff, Bool.not_eq_false']
  constructor
  · rintro ⟨k, hk2, h1 | h1, h2⟩
    · exact .inl ⟨k, hk2, h1, h2⟩
    · rw [WideAt.sameKey_iff (litK_key k0)] at h1
      rw [litK_inj (hb k hk2) (hb k0 hk) h1] at h2
      exact .inr h2
  · rintro (⟨k, hk2, h1, h2⟩ | h2)
    · exact ⟨k, hk2, .inl h1, h2⟩
    · exact ⟨k0, hk, .inr (WideAt.sameKey_self (litK_key k0)), h2⟩
theorem leftS_end {ks : List (List Nat)} {p m : Nat} {left : Lit → Bool} (h : ∀ kl, left kl = false) (i : Nat) : leftS ks p m left i = keyS ks p m i := by
  unfold leftS keyS
  simp [h]
theorem plL_any (k0 : List Nat) (p m : Nat) (hm : 0 < m) (i : Nat) : (plL (hX k0) (hL k0) m hm p).any (fun j => j.val == i) = (placesN k0 p m).contains i := by
  rw [Bool.eq_iff_iff]
  simp [plL, placesN, plF, placeN]

theorem keepObj {w w' : World} {row : Option Nat} (hg : w.grownBy w' row) {i : Nat} {o : Obj} (hi : w.heap[i]? = some o) (hne : some i ≠ row) : w'.heap[i]? = some o :=
  (hg.block i (Array.getElem?_eq_some_iff.1 hi).1 hne).trans hi
theorem own_block {w : World} {B g n c : Nat} {xs : List Nat} (h : Own w B (.slice (some ⟨g, 0, none⟩) n c) n xs) : B ≤ g ∧ ∃ cur, w.heap[g]? = some (.cells cur 5 (0, 0)) := by
  rcases h.2.2 with ⟨h', _⟩ | ⟨g', cap', cur, h', hb, hg, _⟩
  · simp at h'
  · simp only [Value.slice.injEq, Option.some.injEq, Addr.mk.injEq, and_true, true_and] at h'
    obtain ⟨rfl, _⟩ := h'
    exact ⟨hb, cur, hg⟩
theorem own_kept {w w' : World} {row : Option Nat} {B g n c : Nat} {xs : List Nat} (h : Own w B (.slice (some ⟨g, 0, none⟩) n c) n xs) (hg : w.grownBy w' row) (hne : some g ≠ row) : Own w' B (.slice (some ⟨g, 0, none⟩) n c) n xs :=
  ⟨h.1, h.2.kept hg (.inr (by simpa [Value.ownBlock] using hne))⟩

/-- Between two keys. -/
structure BRel (w wr : World) (ks : List (List Nat)) (p m bm nm r B7 B8 g c Nf : Nat) (D : DataW Unit) (left : Lit → Bool) (cnt : Nat) (Ds : List Nat) : Prop where
  rg : wr.ranges Try.prog 9 halfR bm r nm D left cnt
  sub : ∀ kl, left kl = true → Maps.has D kl = true
  sh : wr.heap[B7]? = some (.cells #[.int .u8 (p : Int), .int .u32 (m : Int)] 59 (0, 0))
  bx : Boxed wr B8 24 (.slice (some ⟨g, 0, none⟩) Nf c)
  own : Own wr w.heap.size (.slice (some ⟨g, 0, none⟩) Nf c) Nf (filt p m (leftS ks p m left))
  mks : Marks wr w.heap.size Ds
  bel : Below w.heap.size w wr
  hr : w.heap.size ≤ r

theorem BRel.iter {w wr : World} {ks : List (List Nat)} {p m bm nm r B7 B8 g c Nf : Nat} {D : DataW Unit} {left : Lit → Bool} {cnt : Nat} {Ds : List Nat} (h : BRel w wr ks p m bm nm r B7 B8 g c Nf D left cnt Ds) :
    (∃ es clock, wr.heap[bm]? = some (.map es clock)) ∧ ∃ b since seen c0, wr.heap[r]? = some (.mapIter b since seen c0) := by
  obtain ⟨es, clock, since, seen, c0, hb, _, _, _, hr, _⟩ := h.rg
  exact ⟨⟨es, clock, hb⟩, _, _, _, _, hr⟩

/-- The next key has come. -/
theorem BRel.next {w wr w6 : World} {ks : List (List Nat)} {p m bm nm r B7 B8 g c Nf : Nat} {D : DataW Unit} {left : Lit → Bool} {cnt : Nat} {Ds : List Nat} (h : BRel w wr ks p m bm nm r B7 B8 g c Nf D left cnt Ds)
    (hg : wr.grownBy w6 (some r)) : w6.heap[B7]? = some (.cells #[.int .u8 (p : Int), .int .u32 (m : Int)] 59 (0, 0)) ∧ Boxed w6 B8 24 (.slice (some ⟨g, 0, none⟩) Nf c) ∧ Own w6 w.heap.size (.slice (some ⟨g, 0, none⟩) Nf c) Nf (filt p m (leftS ks p m left)) ∧ Marks w6 w.heap.size Ds ∧ Below w.heap.size w w6 := by
  obtain ⟨_, b, since, seen, c0, hr⟩ := h.iter
  have hbx : wr.heap[B8]? = some (.cells #[.slice (some ⟨g, 0, none⟩) Nf c] 24 (0, 0)) := h.bx
  obtain ⟨hBg, cur, hgb⟩ := own_block h.own
  refine ⟨keepObj hg h.sh (fun e => ?_), keepObj hg hbx (fun e => ?_), own_kept h.own hg (fun e => ?_), ⟨h.mks.1, fun E hE => ⟨(h.mks.2 E hE).1, keepObj hg (h.mks.2 E hE).2 (fun e => ?_)⟩⟩, h.bel.grown hg h.bel.size (fun k hk => by cases hk; exact h.hr)⟩
  · cases e; have := h.sh; rw [hr] at this; cases this
  · cases e; rw [hr] at hbx; cases hbx
  · cases e; rw [hr] at hgb; cases hgb
  · cases e; have := (h.mks.2 r hE).2; rw [hr] at this; cases this

/-- A key's bits have been set. -/
theorem BRel.step {w w6 w9 W : World} {ks : List (List Nat)} {p m bm nm r B7 B8 g c Nf : Nat} {D : DataW Unit} {left' : Lit → Bool} {cnt' : Nat} {Ds : List Nat} {S : List Nat} {Dm : Nat}
    (rg : w6.ranges Try.prog 9 halfR bm r nm D left' cnt') (sub : ∀ kl, left' kl = true → Maps.has D kl = true) (sh : w6.heap[B7]? = some (.cells #[.int .u8 (p : Int), .int .u32 (m : Int)] 59 (0, 0))) (bx : Boxed w6 B8 24 (.slice (some ⟨g, 0, none⟩) Nf c))
    (own : Own w6 w.heap.size (.slice (some ⟨g, 0, none⟩) Nf c) Nf S) (mk : Marks w6 w.heap.size Ds) (bel : Below w.heap.size w w6) (hr : w.heap.size ≤ r)
    (h9 : w6.grownBy w9 none) (hW : w9.grownBy W (some g)) (ownW : Own W w.heap.size (.slice (some ⟨g, 0, none⟩) Nf c) Nf (filt p m (leftS ks p m left'))) (hD : w9.heap.size ≤ Dm) (hDm : W.heap[Dm]? = some (.deferred (some []))) :
    BRel w W ks p m bm nm r B7 B8 g c Nf D left' cnt' (Dm :: Ds) := by
  obtain ⟨hBg, cur, hgb⟩ := own_block own
  have hbx : w6.heap[B8]? = some (.cells #[.slice (some ⟨g, 0, none⟩) Nf c] 24 (0, 0)) := bx
  have rg9 : w9.ranges Try.prog 9 halfR bm r nm D left' cnt' := rg.kept h9 (by simp) (by simp)
  have g9 := keepObj h9 hgb (by simp)
  obtain ⟨es, clock, since, seen, c0, hb, _, _, _, hri, _⟩ := rg9
  refine ⟨(rg.kept h9 (by simp) (by simp)).kept hW (fun e => ?_) (fun e => ?_), sub, keepObj hW (keepObj h9 sh (by simp)) (fun e => ?_), keepObj hW (keepObj h9 hbx (by simp)) (fun e => ?_), ownW, ⟨List.nodup_cons.2 ⟨fun hm => ?_, mk.1⟩, fun E hE => ?_⟩, (bel.grown h9 bel.size (fun k hk => by cases hk)).grown hW (Nat.le_trans bel.size h9.size) (fun k hk => by cases hk; exact hBg), hr⟩
  · cases e; rw [hb] at g9; cases g9
  · cases e; rw [hri] at g9; cases g9
  · cases e; rw [keepObj h9 sh (by simp)] at g9; cases g9
  · cases e; rw [keepObj h9 hbx (by simp)] at g9; cases g9
  · have := (Array.getElem?_eq_some_iff.1 (mk.2 Dm hm).2).1
    have := h9.size
    omega
  · rcases List.mem_cons.1 hE with rfl | hE
    · exact ⟨by have := bel.size; have := h9.size; omega, hDm⟩
    · refine ⟨(mk.2 E hE).1, keepObj hW (keepObj h9 (mk.2 E hE).2 (by simp)) (fun e => ?_)⟩
      cases e
      rw [keepObj h9 (mk.2 g hE).2 (by simp)] at g9
      cases g9

def bldE (b : Int) (n : Nat) : Nat := if b < 1 ∨ 20 < b then 60 else if 1048576 < n then 61 else 0
def bldL (b : Int) (ks : List (List Nat)) : List Nat := if bldE b ks.length = 0 then buildL b.toNat ks else []

end Go.Proofs.Ytieehdhinponcaa
