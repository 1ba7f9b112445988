import Derived.Test.YtledfniedoapiaaDoorJ14
import Derived.Test.YtledfniedoapiaaDoorJ03
import Derived.Test.YtledfniedoapiaaDoorJ02
import Derived.Lib.Hide
import Derived.Test.YtledfniedoapiaaDoorCards
import Derived.Test.YtledfniedoapiaaDoorTie
namespace Go.Proofs.YtledfniedoapiaaDoor
open Go.RowKit
set_option linter.unusedVariables false

theorem rdp_one {w : World} {u : Value} {xs : List Nat} (h : Rd w u xs) : RdP (w.alloc (.cells #[u] 23)) (.slice (some ⟨w.heap.size, 0, none⟩) 1 1) [xs] := by
  have A := (Below.refl w.heap.size w).alloc (Nat.le_refl _) (.cells #[u] 23)
  refine ⟨by simp, some ⟨w.heap.size, 0, none⟩, 1, rfl, .inr ⟨w.heap.size, 0, rfl, fun i hi => ?_⟩⟩
  have hi0 : i = 0 := by simp at hi; omega
  subst hi0
  refine ⟨u, ?_, h.later A⟩
  have hh : (w.alloc (.cells #[u] 23)).heap[w.heap.size]? = some (.cells #[u] 23) := heap_new w _
  generalize (w.alloc (.cells #[u] 23)) = wz at hh
  simp [World.cell?, hh]
theorem join_one {w : World} {u : Value} {xs : List Nat} (h : Rd w u xs) (hl : xs.length ≤ 4194304) :
    Calls Tryd.prog 6 #[.slice (some ⟨w.heap.size, 0, none⟩) 1 1] (w.alloc (.cells #[u] 23)) fun e w' => ∃ a m c, e = .returned (.slice a m c) ∧ Own w' w.heap.size (.slice a m c) m xs ∧ Below w.heap.size w w' := by
  have A := (Below.refl w.heap.size w).alloc (Nat.le_refl _) (.cells #[u] 23)
  refine (join_any (rdp_one h) (by simp; omega)).mono ?_
  rintro e w' ⟨a, m, c, rfl, own, hb⟩
  refine ⟨a, m, c, rfl, ?_, A.trans (hb.mono A.size)⟩
  have := own.mono A.size
  simpa using this

set_option maxRecDepth 100000 in
set_option maxHeartbeats 4000000 in
/-- Lists in new memory. -/
theorem kept_any {w : World} {v : Value} {L : List (List Nat)} (h : RdP w v L) (hl : L.length ≤ 300) (hb : ∀ xs ∈ L, Bys xs ∧ xs.length ≤ 4194304) :
    Calls Tryd.prog 8 #[v] w fun e w' => ∃ u, e = .returned u ∧ Nine w' w.heap.size u L ∧ Below w.heap.size w w' := by
  obtain ⟨_, a, ca, rfl, pa⟩ := h
  obtain ⟨n, hn⟩ : ∃ n, n = L.length := ⟨_, rfl⟩
  have HP := Lib.hid pa
  have HBY := Lib.hid hb
  rw [← hn] at hl ⊢
  have HN := Lib.hid hn
  clear pa hn hb
  go_enter Tryd.func8, Tryd.ntmps8
  go_wp2
  go_loopw [3, 4] (fun m i wr => ∃ t am cm us, t ≤ n ∧ i = .int .i64 ((t : Nat) : Int) ∧ m = .slice am t cm ∧ Hid (RowS wr w.heap.size (.slice am t cm) t us ∧ Pend wr w.heap.size [] (us.zip (L.take t)) ∧ Below w.heap.size w wr)) (fun _ i _ => n - (intOf i).toNat)
  case atStart => exact ⟨0, none, 0, [], by omega, rfl, rfl, ⟨rfl, by simp, World.ownsRow_nil _ _ _ _⟩, Pend.nil _ _ _, Below.refl _ _⟩
  case round =>
    obtain ⟨t, am, cm, us, ht, rfl, rfl, HI⟩ := hrel
    by_cases hlt : t < n
    · have hlt2 : (t : Int) < (n : Int) := by omega
      have ht0 : (0 : Int) ≤ (t : Int) := by omega
      have hne : L ≠ [] := fun h => by have := HN.out; rw [h] at this; simp at this; omega
      have htL : t < L.length := by have := HN.out; omega
      rcases HP.out with p1 | ⟨ba, oa, rfl, ka⟩
      · exact absurd p1 hne
      obtain ⟨ua, c1, r1⟩ := ka t htL
      obtain ⟨xa, ya, za, rfl⟩ := rd_slice r1
      have eL : L.getD t [] = L[t] := by simp [List.getD, htL]
      rw [eL] at r1
      have e1 : wr.cell? ⟨ba, oa + t, none⟩ = some (.slice xa ya za) := by rw [HI.out.2.2.cell (World.block_lt_of_cell? _ _ c1)]; exact c1
      have hbt := HBY.out L[t] (List.getElem_mem htL)
      have CJ : Hid (Calls _ _ _ _ _) := join_one (r1.later HI.out.2.2) hbt.2
      have HBT := Lib.hid hbt
      clear ka c1 r1 hne hbt eL
      go_wp2_with fail
      refine CJ.out.mono ?_
      rintro r w2 ⟨aj, mj, cj, rfl, oj, hb2⟩
      have R2 := HI.out.1.later hb2
      have hs2 : w.heap.size ≤ w2.heap.size := Nat.le_trans HI.out.2.2.size hb2.size
      have P2 := Lib.hid (HI.out.2.1.push0 hb2 (own_len oj) HI.out.2.2.size HBT.out.1 HBT.out.2)
      have B2 := Lib.hid (HI.out.2.2.trans (hb2.mono HI.out.2.2.size))
      clear CJ oj hb2 HI e1
      go_wp2_with (at_builtin; refine wpList_append_one rfl _ _ rfl w.heap.size am t cm us rfl R2 (.slice aj mj cj) rfl rfl (by omega) hs2 ?_; intro am' cm' w3 r3 g3 b3; refine Hid.out ?_)
      refine Lib.hid ?_
      have H3 : Hid (RowS w3 w.heap.size (.slice am' (t + 1) cm') (t + 1) (us ++ [.slice aj mj cj]) ∧ Pend w3 w.heap.size [] ((us ++ [Value.slice aj mj cj]).zip (L.take (t + 1))) ∧ Below w.heap.size w w3) := by
        refine ⟨r3, ?_, ?_⟩
        · have hul : us.length = (L.take t).length := by rw [← R2.1]; simp; omega
          rw [List.take_add_one, List.getElem?_eq_getElem htL, Option.toList_some, List.zip_append hul]
          exact P2.out.far g3 (fun p hp x hx => row_own R2 (P2.out.own p hp).1 hx)
        · refine ⟨g3.os.trans B2.out.os, g3.tape.trans B2.out.tape, g3.output.trans B2.out.output, Nat.le_trans B2.out.size g3.size, fun i hi => ?_⟩
          rw [g3.block i (by omega) (fun e => by have := (R2.2.2.lt i e.symm).1; omega), B2.out.block i hi]
      clear r3 g3 b3 R2 P2 B2
      go_wp2
      go_roundw
      case rel => exact ⟨t + 1, am', cm', _, by omega, by go_num, rfl, H3⟩
      case measure => simp [intOf]; omega
    · have hge : (n : Int) ≤ (t : Int) := by omega
      have HTN : Hid (t = n) := by unfold Hid; omega
      go_wp2
      go_ret
      obtain ⟨i1, i2, i3⟩ := HI.out
      have e1 := HTN.out
      have e2 := HN.out
      subst e1
      rw [List.take_of_length_le (by omega)] at i2
      refine ⟨_, rfl, ⟨am, cm, us, congrArg (fun k => Value.slice am k cm) e2, by rw [← e2]; exact i1, i2⟩, i3⟩
theorem Nine.fr {w w' : World} {B0 : Nat} {v : Value} {L : List (List Nat)} {its : List Item} (h : Nine w B0 v L) (f : Fr w w' its) (hi : ∀ p ∈ its, ∀ x, p.l.ownBlock = some x → x < B0) : Nine w' B0 v L := by
  obtain ⟨a, c, us, h1, h2, h3⟩ := h
  refine ⟨a, c, us, h1, ?_, ⟨fun p hp => ⟨(h3.own p hp).1.same_block (fun x hx => ?_), (h3.own p hp).2⟩, h3.ap, h3.hap⟩⟩
  · refine ⟨h2.1, h2.2.1, h2.2.2.1, ?_⟩
    rcases h2.2.2.2 with k | ⟨g, cap, cur, k3, k4, k5, k6⟩
    · exact .inl k
    · refine .inr ⟨g, cap, cur, k3, k4, ?_, k6⟩
      rw [f.block g (Array.getElem?_eq_some_iff.1 k5).1 (fun p hp e => by have := hi p hp g e; omega)]
      exact k5
  · have := (h3.own p hp).1.2.lt x hx
    exact f.block x this.2 (fun q hq e => by have := hi q hq x e; omega)
/-- The items of a row. -/
def itsOf (us : List Value) (L : List (List Nat)) : List Item := (us.zip L).map fun p => ⟨p.1, p.1, p.2⟩
theorem itsOf_l {us : List Value} {L : List (List Nat)} (h : us.length = L.length) : (itsOf us L).map Item.l = us := by
  unfold itsOf
  rw [List.map_map]
  have e : (Item.l ∘ fun p : Value × List Nat => (⟨p.1, p.1, p.2⟩ : Item)) = Prod.fst := rfl
  rw [e, List.map_fst_zip (by omega)]
theorem Nine.sr {w : World} {B : Nat} {v : Value} {L : List (List Nat)} (h : Nine w B v L) : ∃ a c its, v = .slice a L.length c ∧ Sr w B L.length a c its := by
  obtain ⟨a, c, us, h1, h2, h3⟩ := h
  have hl : us.length = L.length := h2.1.symm
  refine ⟨a, c, itsOf us L, h1, ⟨by rw [itsOf_l hl]; exact h2, fun p hp => ?_, ?_, by unfold itsOf; simp; omega⟩⟩
  · unfold itsOf at hp
    obtain ⟨q, hq, rfl⟩ := List.mem_map.1 hp
    exact h3.own q hq
  · rw [itsOf_l hl]
    have := h3.ap
    rw [List.map_fst_zip (by omega)] at this
    exact this
theorem Sr.later {w w' : World} {B n c : Nat} {a : Option Addr} {its : List Item} (h : Sr w B n a c its) (hb : Below w.heap.size w w') : Sr w' B n a c its := ⟨h.rl.later hb, fun p hp => ⟨(h.own p hp).1.later hb, (h.own p hp).2⟩, h.apart, h.len⟩
theorem ansL_ok {v : Nat} (hv : v < 18446744073709551616) {bs all : List Nat} {z : Int} (hb : Bys bs) (ha : Bys all) (lb : bs.length ≤ 1048576) (la : all.length ≤ 1048576) : ∀ xs ∈ ansL v bs all z, Bys xs ∧ xs.length ≤ 4194304 := by
  obtain ⟨z1, z2, z3⟩ := zok ha z (all.length : Int)
  have h1 := ordL_len bs
  have h2 : bs.count 0 ≤ bs.length := List.count_le_length
  have h3 := uintL_len bs.length
  have h4 := (uintL_len v).2
  intro xs hx
  unfold ansL at hx
  simp only [List.mem_cons, List.not_mem_nil, or_false] at hx
  rcases hx with rfl | rfl | rfl | rfl | rfl | rfl | rfl | rfl | rfl
  · exact ⟨uintL_bys v hv, by omega⟩
  · exact ⟨be8_bys _, by simp [be8]⟩
  · exact ⟨be8_bys _, by simp [be8]⟩
  · exact ⟨(uintL_bys _ (by omega)).app hb, by unfold bytesL; rw [List.length_append]; omega⟩
  · exact ⟨ordL_bys bs hb, by omega⟩
  · exact ⟨frameL_bys bs hb lb, by simp [frameL, be4, le4]; omega⟩
  · exact ⟨z1.1, by have := z1.2; omega⟩
  · exact ⟨z2.1, by have := z2.2; omega⟩
  · exact ⟨z3.1, by have := z3.2; omega⟩

set_option maxRecDepth 100000 in
set_option maxHeartbeats 16000000 in
theorem wireOwn_walk {v : Nat} (hv : v < 18446744073709551616) {vb va : Value} {bs all : List Nat} {z : Int} {w : World} (rb : Rd w vb bs) (ra : Rd w va all) (ht : Tab w) (lb : bs.length ≤ 1048576) (la : all.length ≤ 1048576) :
    Calls Tryd.prog 3 #[.int .u64 (v : Int), vb, va, .int .i64 z] w fun e w' => e = .returned (.bool true) ∧ Below w.heap.size w w' := by
  obtain ⟨xb, yb, zb, rfl⟩ := rd_slice rb
  obtain ⟨xa, ya, za, rfl⟩ := rd_slice ra
  obtain ⟨LA, hLA⟩ : ∃ L, L = ansL v bs all z := ⟨_, rfl⟩
  have LL : Hid (LA.length = 9 ∧ ∀ xs ∈ LA, Bys xs ∧ xs.length ≤ 4194304) := by
    unfold Hid
    rw [hLA]
    exact ⟨rfl, ansL_ok hv rb.1 ra.1 lb la⟩
  have ARG : Hid (∀ wx, Below w.heap.size w wx → Rd wx (.slice xb yb zb) bs ∧ Rd wx (.slice xa ya za) all ∧ Tab wx) := fun wx h => ⟨rb.later h, ra.later h, ht.later h⟩
  have CAN : Hid (∀ wx, Below w.heap.size w wx → Calls Tryd.prog 7 #[.int .u64 (v : Int), .slice xb yb zb, .slice xa ya za, .int .i64 z] wx fun e w' => ∃ u, e = .returned u ∧ Nine w' wx.heap.size u LA ∧ Below wx.heap.size wx w') := fun wx h => by rw [hLA]; exact answers_any v hv (ARG.out _ h).1 (ARG.out _ h).2.1 (ARG.out _ h).2.2 lb la
  have C1 : Hid (Calls _ _ _ _ _) := join_one rb (by omega)
  have BY := Lib.hid (And.intro rb.1 ra.1)
  clear rb ra ht hLA
  go_enter Tryd.func3, Tryd.ntmps3
  go_wp2_with fail
  refine C1.out.mono ?_
  rintro r w1 ⟨ai, mi, ci, rfl, oi, b1⟩
  have RI := Lib.hid (oi.rd BY.out.1 (by rw [oi.1]; omega))
  have B1 := Lib.hid b1
  clear C1 oi b1
  have C1 : Hid (Calls _ _ _ _ _) := join_one (ARG.out w1 B1.out).2.1 (by omega)
  go_wp2_with fail
  refine C1.out.mono ?_
  rintro r w2 ⟨at_, mt, ct, rfl, ot, b2⟩
  have RT := Lib.hid (ot.rd BY.out.2 (by rw [ot.1]; omega))
  have RI2 := Lib.hid (RI.out.later b2)
  have B2 := Lib.hid (B1.out.trans (b2.mono B1.out.size))
  clear C1 ot b2 B1 RI
  have RR : Hid (∀ wx, Below w2.heap.size w2 wx → Below w.heap.size w wx ∧ Rd wx (.slice ai mi ci) bs ∧ Rd wx (.slice at_ mt ct) all) := fun wx h => ⟨B2.out.trans (h.mono B2.out.size), RI2.out.later h, RT.out.later h⟩
  clear RT RI2
  have C1 : Hid (Calls _ _ _ _ _) := CAN.out w2 B2.out
  go_wp2_with fail
  refine C1.out.mono ?_
  rintro r w3 ⟨first, rfl, n3, b3⟩
  obtain ⟨af, cf, its, ef, sr3⟩ := n3.sr
  have RP3 := n3.rdp (by rw [LL.out.1]; omega)
  rw [LL.out.1] at ef sr3
  subst ef
  have SR3 := Lib.hid sr3
  have W3 := Lib.hid b3
  clear C1 n3 b3 B2
  have C1 : Hid (Calls _ _ _ _ _) := kept_any RP3 (by rw [LL.out.1]; omega) LL.out.2
  clear RP3 sr3
  go_wp2_with fail
  refine C1.out.mono ?_
  rintro r w4 ⟨was, rfl, n4, b4⟩
  obtain ⟨aw, cw, usw, ew, rww, pww⟩ := n4
  rw [LL.out.1] at ew rww
  subst ew
  have NW4 : Hid (Nine w4 w3.heap.size (.slice aw 9 cw) LA) := ⟨aw, cw, usw, by rw [LL.out.1], by rw [LL.out.1]; exact rww, pww⟩
  have SR4 := Lib.hid (SR3.out.later b4)
  have W4 := Lib.hid (W3.out.trans (b4.mono W3.out.size))
  have ILT : Hid (∀ p ∈ its, ∀ x, p.l.ownBlock = some x → x < w3.heap.size) := fun p hp x hx => ((SR3.out.own p hp).1.2.lt x hx).2
  clear C1 rww pww b4 W3 SR3
  have C1 : Hid (Calls _ _ _ _ _) := filled_any SR4.out (by omega) W4.out.size
  go_wp2_with fail
  refine C1.out.mono ?_
  rintro r w5 ⟨am, cm, ms, rfl, lh⟩
  have ST5 := Lib.hid (lh.std SR4.out)
  have NW5 := Lib.hid (NW4.out.fr lh.fr ILT.out)
  have W5 := Lib.hid (W4.out.trans (lh.fr.below (fun p hp x hx => ((SR4.out.own p hp).1.2.lt x hx).1) W4.out.size))
  have L9 : (3 * 9 : Nat) = 27 := rfl
  clear C1 lh NW4 ILT SR4 W4
  have C1 : Hid (Calls _ _ _ _ _) := CAN.out w5 (RR.out w5 W5.out).1
  go_wp2_with fail
  refine C1.out.mono ?_
  rintro r w6 ⟨second, rfl, n6, b6⟩
  obtain ⟨as_, cs_, its2, es, sr6⟩ := n6.sr
  have RP6 := Lib.hid (n6.rdp (by rw [LL.out.1]; omega))
  rw [LL.out.1] at es sr6
  subst es
  have SR6 := Lib.hid sr6
  have V6 := Lib.hid b6
  have ST6 := Lib.hid (ST5.out.later b6)
  have NW6 := Lib.hid (NW5.out.later b6)
  have W6 := Lib.hid (W5.out.trans (b6.mono W5.out.size))
  clear C1 n6 b6 sr6
  have C1 : Hid (Calls _ _ _ _ _) := stand_any ST6.out (by omega)
  go_wp2_with fail
  refine C1.out.mono ?_
  rintro r w7 ⟨rfl, rfl⟩
  clear C1
  have C1 : Hid (Calls _ _ _ _ _) := sameAll_any RP6.out (NW6.out.rdp (by rw [LL.out.1]; omega)) (by rw [LL.out.1]; omega)
  go_wp2_with fail
  refine C1.out.mono ?_
  rintro r w8 ⟨rfl, b8⟩
  have SR8 := Lib.hid (SR6.out.later b8)
  have V8 := Lib.hid (V6.out.trans (b8.mono V6.out.size))
  have W8 := Lib.hid (W6.out.trans (b8.mono W6.out.size))
  clear C1 b8 SR6 V6 W6 ST6 NW6 RP6
  have C1 : Hid (Calls _ _ _ _ _) := same_self (ARG.out w8 (RR.out w8 W8.out).1).1 (RR.out w8 W8.out).2.1
  go_wp2_with fail
  refine C1.out.mono ?_
  rintro r w9 ⟨rfl, rfl⟩
  clear C1
  have C1 : Hid (Calls _ _ _ _ _) := same_self (ARG.out w9 (RR.out w9 W8.out).1).2.1 (RR.out w9 W8.out).2.2
  go_wp2_with fail
  refine C1.out.mono ?_
  rintro r w10 ⟨rfl, rfl⟩
  clear C1
  have C1 : Hid (Calls _ _ _ _ _) := filled_any SR8.out (by omega) V8.out.size
  go_wp2_with fail
  refine C1.out.mono ?_
  rintro r w11 ⟨am2, cm2, ms2, rfl, lh⟩
  have T11 := Lib.hid (lh.std SR8.out)
  have V11 := Lib.hid (V8.out.trans (lh.fr.below (fun p hp x hx => ((SR8.out.own p hp).1.2.lt x hx).1) V8.out.size))
  have W11 := Lib.hid (W5.out.trans (V11.out.mono W5.out.size))
  clear C1 lh SR8 V8 W8
  have C1 : Hid (Calls _ _ _ _ _) := CAN.out w11 (RR.out w11 W11.out).1
  go_wp2_with fail
  refine C1.out.mono ?_
  rintro r w12 ⟨third, rfl, n12, b12⟩
  have RP12 := Lib.hid (n12.rdp (by rw [LL.out.1]; omega))
  obtain ⟨a3_, c3_, us3, e3_, _, _⟩ := n12
  rw [LL.out.1] at e3_
  subst e3_
  have T12 := Lib.hid (T11.out.later b12)
  have V12 := Lib.hid (V11.out.trans (b12.mono V11.out.size))
  clear C1 b12 T11 V11 W11
  have W12 := Lib.hid (W5.out.trans (V12.out.mono W5.out.size))
  have C1 : Hid (Calls _ _ _ _ _) := started_any (ARG.out w12 (RR.out w12 W12.out).1).2.2
  go_wp2_with fail
  refine C1.out.mono ?_
  rintro r w13 ⟨rfl, b13⟩
  have T13 := Lib.hid (T12.out.later b13)
  have RP13 := Lib.hid (RP12.out.later b13)
  have V13 := Lib.hid (V12.out.trans (b13.mono V12.out.size))
  clear C1 b13 T12 V12 W12 RP12
  have C1 : Hid (Calls _ _ _ _ _) := stand_any (ST5.out.later V13.out) (by omega)
  go_wp2_with fail
  refine C1.out.mono ?_
  rintro r w14 ⟨rfl, rfl⟩
  clear C1
  have C1 : Hid (Calls _ _ _ _ _) := stand_any T13.out (by omega)
  go_wp2_with fail
  refine C1.out.mono ?_
  rintro r w15 ⟨rfl, rfl⟩
  clear C1
  have C1 : Hid (Calls _ _ _ _ _) := sameAll_any RP13.out ((NW5.out.later V13.out).rdp (by rw [LL.out.1]; omega)) (by rw [LL.out.1]; omega)
  go_wp2_with fail
  refine C1.out.mono ?_
  rintro r w16 ⟨rfl, b16⟩
  have V16 := Lib.hid (V13.out.trans (b16.mono V13.out.size))
  have W16 := Lib.hid (W5.out.trans (V16.out.mono W5.out.size))
  clear C1 b16 V13 V16 T13 RP13
  have C1 : Hid (Calls _ _ _ _ _) := same_self (ARG.out w16 (RR.out w16 W16.out).1).1 (RR.out w16 W16.out).2.1
  go_wp2_with fail
  refine C1.out.mono ?_
  rintro r w17 ⟨rfl, rfl⟩
  clear C1
  have C1 : Hid (Calls _ _ _ _ _) := same_self (ARG.out w17 (RR.out w17 W16.out).1).2.1 (RR.out w17 W16.out).2.2
  go_wp2_with fail
  refine C1.out.mono ?_
  rintro r w18 ⟨rfl, rfl⟩
  clear C1
  have FIN := Lib.hid (RR.out w18 W16.out).1
  go_wp2
  go_ret
  exact ⟨rfl, FIN.out⟩

theorem wireOwn_walk2 (x z : Int) {vb va : Value} {bs all : List Nat} {w : World} (wx : (Lit.int .u64 x).wf = true) (hb : Rd w vb bs) (ha : Rd w va all) (ht : Tab w) (lb : bs.length ≤ 1048576) (la : all.length ≤ 1048576) :
    Calls Tryd.prog 3 #[.int .u64 x, vb, va, .int .i64 z] w fun e w' => e = .returned (.bool true) ∧ Below w.heap.size w w' := by
  have h2 := bounds_u64 wx
  obtain ⟨s, rfl⟩ := Int.eq_ofNat_of_zero_le h2.1
  exact wireOwn_walk (by omega) hb ha ht lb la

end Go.Proofs.YtledfniedoapiaaDoor

namespace Go.Proofs.YtledfniedoapiaaDoor.wireOwnUptoRow
open Go.ChangeShapes Go.WideShapes Go.ChangeAt Go.RowKit
set_option linter.unusedVariables false

theorem contract (H : Type) (enc : TypeId × Value → H) (W : World) (base : Nat) (args : Array Value) (ds gs : List (DataW H)) (before : List MemPlace)
    (hval0 : ∀ (j : Nat) t v, Tryd.f3.params[j]? = some t → args[j]? = some v → Value.okWide Tryd.prog W .any base t v)
    (hW : DataW.Whole enc Tryd.prog Tryd.f3.params.toList Rows.wireOwnSpec.vars false W args.toList ds gs before) (hL : laidMetH Tryd.prog Rows.wireOwnUptoRow.laid W) (hk : Rows.uptoSmall H (ds ++ gs) = true) :
    Calls Tryd.prog 3 args W fun e W' => ∃ v, e = .returned v ∧ Rows.wireOwnSpec.post enc Tryd.prog Tryd.f3 false true false false W args v W' := by
  have hW' := hW
  obtain ⟨p, q, hA0, hV, rfl, hfz, hnd⟩ := hW
  have hA : DataW.TrodAll enc Tryd.prog W 0 (fun _ => true) true Tryd.f3.params.toList args.toList ds p := hA0
  have hval := hval0
  rw [Tryd.params3] at hA hval
  obtain ⟨v0, vs0, d0, ds0, p0, q0, hargs, rfl, rfl, h0, r0⟩ := trodAll_cons hA
  obtain ⟨v1, vs1, d1, ds1, p1, q1, rfl, rfl, rfl, h1, r1⟩ := trodAll_cons r0
  obtain ⟨v2, vs2, d2, ds2, p2, q2, rfl, rfl, rfl, h2, r2⟩ := trodAll_cons r1
  obtain ⟨v3, vs3, d3, ds3, p3, q3, rfl, rfl, rfl, h3, r3⟩ := trodAll_cons r2
  obtain ⟨rfl, rfl, rfl⟩ := trodAll_nil r3
  obtain rfl : args = #[v0, v1, v2, v3] := by cases args; simp_all
  obtain ⟨rfl, rfl⟩ := trodVars_none hV
  have hbulk : Rows.uptoBulkAll ([d0, d1, d2, d3] ++ []) ≤ 1048576 := of_decide_eq_true hk
  simp only [List.append_nil, Rows.uptoBulkAll] at hbulk
  obtain ⟨x0, rfl, rfl, rfl, wf0⟩ := open_int und_u64 (hval 0 22 v0 rfl rfl) h0
  have s1 := okWide_slice und_bytes (hval 1 23 v1 rfl rfl)
  have k1 := h1
  have lt1 : ∀ x ∈ p1, x.block < W.heap.size := by obtain ⟨m, hm⟩ := k1; exact DataW.trod_lt m _ _ _ hm
  obtain ⟨x1, rd1, bk1, fm1⟩ := open_bytes h1 s1
  have s2 := okWide_slice und_bytes (hval 2 23 v2 rfl rfl)
  have k2 := h2
  have lt2 : ∀ x ∈ p2, x.block < W.heap.size := by obtain ⟨m, hm⟩ := k2; exact DataW.trod_lt m _ _ _ hm
  obtain ⟨x2, rd2, bk2, fm2⟩ := open_bytes h2 s2
  obtain ⟨x3, rfl, rfl, rfl, wf3⟩ := open_int und_int (hval 3 3 v3 rfl rfl) h3
  clear hA0 hval0
  refine (wireOwn_walk2 x0 x3 wf0 (rd1 (by omega)) (rd2 (by omega)) (tab_of hL) (by omega) (by omega)).mono fun e W' ⟨he, bel⟩ => ?_
  subst he
  exact ⟨_, rfl, _, _, _, [], _, [], hW', trodAll_mk1 (shut_bool und_bool _), (trodAll_cons_mk (shut_int und_u64 wf0) (trodAll_cons_mk (Below.trod laid_out (by kernel_rfl) (of_decide_eq_true (by kernel_rfl)) k1 bel lt1) (trodAll_cons_mk (Below.trod laid_out (by kernel_rfl) (of_decide_eq_true (by kernel_rfl)) k2 bel lt2) (trodAll_cons_mk (shut_int und_int wf3) trodAll_mk0)))), rfl, bel.frame _, fun h => by cases h⟩

theorem laid_met (os : Os) : laidMet Tryd.prog Rows.wireOwnUptoRow.laid (({ World.holding Tryd.prog os ⟨#[], #[], []⟩ with heap := (World.holding Tryd.prog os ⟨#[], #[], []⟩).heap.modify 0 fun | .cells _ t frozen => .cells #[.int .u32 0, .int .u32 274646895, .int .u32 549293790, .int .u32 820201905, .int .u32 1098587580, .int .u32 1361435347, .int .u32 1640403810, .int .u32 1905808397, .int .u32 2197175160, .int .u32 2460548119, .int .u32 2722870694, .int .u32 2987750089, .int .u32 3280807620, .int .u32 3553878443, .int .u32 3811616794, .int .u32 4084100981] t frozen | o => o } : World).forCall (fun _ _ => 0) ⟨#[], #[.int .u64 0, .slice none 0 0, .slice none 0 0, .int .i64 0], []⟩).memory :=
  laidMet_of_run' 8 (by kernel_rfl) (by kernel_rfl)
theorem reads (os : Os) {H : Type} (enc : TypeId × Value → H) : ∃ places, DataW.whole enc Tryd.prog (({ World.holding Tryd.prog os ⟨#[], #[], []⟩ with heap := (World.holding Tryd.prog os ⟨#[], #[], []⟩).heap.modify 0 fun | .cells _ t frozen => .cells #[.int .u32 0, .int .u32 274646895, .int .u32 549293790, .int .u32 820201905, .int .u32 1098587580, .int .u32 1361435347, .int .u32 1640403810, .int .u32 1905808397, .int .u32 2197175160, .int .u32 2460548119, .int .u32 2722870694, .int .u32 2987750089, .int .u32 3280807620, .int .u32 3553878443, .int .u32 3811616794, .int .u32 4084100981] t frozen | o => o } : World).forCall (fun _ _ => 0) ⟨#[], #[.int .u64 0, .slice none 0 0, .slice none 0 0, .int .i64 0], []⟩).memory Tryd.f3.params.toList Rows.wireOwnSpec.vars false (#[.int .u64 0, .slice none 0 0, .slice none 0 0, .int .i64 0] : Array Value).toList 8 = some ([.lit (.int .u64 0), .nil, .nil, .lit (.int .i64 0)], [], places) :=
  ⟨[], by kernel_rfl⟩

set_option maxRecDepth 100000 in
theorem lifted (os : Os) (started : os.Started) (H : Type) (enc : TypeId × Value → H) (F : Stop.Interp) :
    ReturnsInHanded {} Tryd.checked os 3 .any ((Rows.OpenSpec.upto Rows.wireOwnSpec).preRow enc Tryd.prog Tryd.f3 Rows.wireOwnUptoRow.domain false Rows.wireOwnUptoRow.laid) (((Rows.OpenSpec.upto Rows.wireOwnSpec).at F).post enc Tryd.prog Tryd.f3 false true false false) := by
  obtain ⟨places, hx⟩ := reads os enc
  refine returnsInHanded_of_row (C := Tryd.checked) (s := Rows.OpenSpec.upto Rows.wireOwnSpec) own_knob started (by kernel_rfl) Tryd.func3
    (witness_row_at (enc := enc) (C := Tryd.checked) false ({ World.holding Tryd.prog os ⟨#[], #[], []⟩ with heap := (World.holding Tryd.prog os ⟨#[], #[], []⟩).heap.modify 0 fun | .cells _ t frozen => .cells #[.int .u32 0, .int .u32 274646895, .int .u32 549293790, .int .u32 820201905, .int .u32 1098587580, .int .u32 1361435347, .int .u32 1640403810, .int .u32 1905808397, .int .u32 2197175160, .int .u32 2460548119, .int .u32 2722870694, .int .u32 2987750089, .int .u32 3280807620, .int .u32 3553878443, .int .u32 3811616794, .int .u32 4084100981] t frozen | o => o }) #[.int .u64 0, .slice none 0 0, .slice none 0 0, .int .i64 0] rfl (by kernel_rfl) (by kernel_rfl) (by kernel_rfl)
      (OpenSpec.preRow_of_cond 8 hx (by kernel_rfl) (fun k hk => by cases hk; kernel_rfl) (by kernel_rfl) (laid_met os))) ?_
  intro W base args ds gs before hval hW _ hcond hsz hL _ _
  exact contract H enc W base args ds gs before hval hW hL (hcond _ rfl)

theorem said : Rows.WireOwnUptoSaid :=
  OpenClaim.holds_of_cond 3 Tryd.f3 rfl rfl rfl rfl rfl rfl rfl ⟨rfl, rfl, rfl, rfl, rfl⟩ rfl rfl rfl rfl rfl (by kernel_rfl) Tryd.func3 (by kernel_rfl)
    (of_decide_eq_true (by kernel_rfl)) (by unfold Func.isWrapper; first | (rw [if_pos (by decide +kernel)]; kernel_rfl) | (rw [if_neg (by decide +kernel)]; exact ⟨rfl, rfl⟩))
    (fun os started H enc _ F => by rw [OpenClaim.pre_eq_preRow]; exact lifted os started H enc F)

theorem plain (f : FuncId) (fn : Func) (hf : Tryd.pinned.checked.prog.funcNamed "strata/stratalaw1.WireOwn" = some f) (hfn : Tryd.pinned.checked.prog.funcs[f]? = some fn) :
    false = Tryd.pinned.checked.prog.looks [] ∧ ∀ (j : Nat) t, fn.params[j]? = some t → Tryd.pinned.checked.prog.wantsStandIn t = false := by
  obtain rfl : f = 3 := Option.some.inj ((show Tryd.prog.funcNamed "strata/stratalaw1.WireOwn" = some 3 by kernel_rfl).symm.trans hf) |>.symm
  obtain rfl : fn = Tryd.f3 := (Option.some.inj (Tryd.func3.symm.trans hfn)).symm
  refine ⟨by kernel_rfl, fun j t ht => ?_⟩
  rw [Tryd.params3] at ht
  have hm : t ∈ [22, 23, 23, 3] := by simpa using Array.mem_of_getElem? ht
  have hall : ([22, 23, 23, 3].all fun u => !Tryd.prog.wantsStandIn u) = true := by kernel_rfl
  exact (show Tryd.prog.wantsStandIn t = false by simpa using List.all_eq_true.1 hall t hm)

end Go.Proofs.YtledfniedoapiaaDoor.wireOwnUptoRow
namespace Go.Proofs.YtledfniedoapiaaDoor

theorem wireOwnUpto_card : Rows.WireOwnUptoCardSaid :=
  Claim7.holds_tied_plain_at .later [] _ _ _ _ wireOwnUptoRow.said (fun _ h => by cases h) (by kernel_rfl) (fun _ h => by cases h) wireOwnUpto_row_tie rfl ⟨rfl, rfl⟩ (by kernel_rfl) rfl wireOwnUptoRow.plain (by kernel_rfl)
#print axioms wireOwnUpto_card
end Go.Proofs.YtledfniedoapiaaDoor
