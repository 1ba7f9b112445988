import Derived.Test.YtledfniedoapiaaDoorWC2
import Derived.Lib.Hide
import Derived.Test.YtledfniedoapiaaDoorRows
import Derived.Test.YtledfniedoapiaaDoorJ01
import Derived.ProofKit
import Derived.OpenShut
import Derived.Deep.DeepHandedRow
import Derived.Lib.LaidTab
import Derived.Deep.Slices
namespace Go.Proofs.YtledfniedoapiaaDoor
open Go.RowKit
set_option linter.unusedVariables false

/-- An item's mark, then so many of what is joined. -/
def tl (n j k : Nat) : List Nat := List.replicate n (mkOf j) ++ List.replicate k (tkOf j)
theorem tl_bys (n j k : Nat) : Bys (tl n j k) := (rep_bys _ _ (mkOf_lt j)).app (rep_bys _ _ (tkOf_lt j))
theorem tl_len (n j k : Nat) : (tl n j k).length = n + k := by simp [tl]
/-- One of the longer lists. -/
def Lo (w wr : World) (B : Nat) (l : Value) (n j k : Nat) (g : Value) : Prop := (∃ a c, g = .slice a (n + k) c) ∧ Own wr B g (n + k) (tl n j k) ∧ Near w l g
/-- What stands at a round of the lengthening: t lists are longer, thrice. -/
structure Lh (w wr : World) (B t : Nat) (its : List Item) (vM : Value) (ms : List Value) : Prop where
  fr : Fr w wr its
  row : RowS wr w.heap.size vM (3 * t) ms
  old : ∀ j p, its[j]? = some p → Own wr B p.l p.xs.length (List.replicate p.xs.length (mkOf j))
  new : ∀ j p, j < t → its[j]? = some p → ∃ g1 g2 g3, ms[3 * j]? = some g1 ∧ ms[3 * j + 1]? = some g2 ∧ ms[3 * j + 2]? = some g3 ∧ Lo w wr B p.l p.xs.length j 1 g1 ∧ Lo w wr B p.l p.xs.length j 2 g2 ∧ Lo w wr B p.l p.xs.length j 70 g3
theorem Lh.start {w wr : World} {B n c : Nat} {a : Option Addr} {its : List Item} (h : Sr w B n a c its) (f : Fr w wr its) (k : Now wr B its (fillTo its n)) : Lh w wr B 0 its (.slice none 0 0) [] := by
  refine ⟨f, ⟨rfl, by simp, World.ownsRow_nil _ _ _ _⟩, fun j p hp => ?_, fun j p hj _ => by omega⟩
  have := k j p hp
  rw [fillTo_all h.len hp] at this
  exact this
theorem Lh.step {w wr w2 w3 : World} {B n t c : Nat} {a : Option Addr} {its : List Item} {vM vM' g1 g2 g3 : Value} {ms : List Value} {p : Item} (hs : Sr w B n a c its) (h : Lh w wr B t its vM ms) (hp : its[t]? = some p) (ol : Own w2 B p.l p.xs.length (List.replicate p.xs.length (mkOf t))) (o1 : Lo w w2 B p.l p.xs.length t 1 g1) (o2 : Lo w w2 B p.l p.xs.length t 2 g2) (o3 : Lo w w2 B p.l p.xs.length t 70 g3) (gr : wr.grownBy w2 p.l.ownBlock)
    (r3 : RowS w3 w.heap.size vM' (3 * (t + 1)) (ms ++ [g1, g2, g3])) (gr3 : w2.grownBy w3 vM.ownBlock) : Lh w w3 B (t + 1) its vM' (ms ++ [g1, g2, g3]) := by
  have lt : ∀ q ∈ its, ∀ x, q.l.ownBlock = some x → x < w.heap.size := fun q hq x hx => ((hs.own q hq).1.2.lt x hx).2
  have pm := List.mem_of_getElem? hp
  have mlt : ∀ x, vM.ownBlock = some x → w.heap.size ≤ x := fun x hx => (h.row.2.2.lt x hx).1
  have R2 : RowS w2 w.heap.size vM (3 * t) ms := h.row.far gr (fun x hx hy => by have := lt p pm x hx; have := mlt x hy; omega)
  have lm : ms.length = 3 * t := h.row.1.symm
  have go : ∀ {v : Value} {m : Nat} {ys : List Nat}, Own w2 B v m ys → Own w3 B v m ys := fun o => o.far gr3 (fun x hx => row_own R2 o hx)
  have lo : ∀ {l g : Value} {m j k : Nat}, Lo w w2 B l m j k g → Lo w w3 B l m j k g := fun o => ⟨o.1, go o.2.1, o.2.2⟩
  refine ⟨(h.fr.grow gr (fun x hx => .inr ⟨p, pm, hx⟩)).grow gr3 (fun x hx => .inl (mlt x hx)), r3, fun j q hq => ?_, fun j q hj hq => ?_⟩
  · by_cases e : j = t
    · subst e
      obtain rfl : p = q := by rw [hp] at hq; simpa using hq
      exact go ol
    · exact go ((h.old j q hq).far gr (fun x hx hy => ap_ne hs.apart e hq hp x hy hx))
  · by_cases e : j < t
    · obtain ⟨k1, k2, k3, e1, e2, e3, l1, l2, l3⟩ := h.new j q e hq
      have far : ∀ {g : Value} {k : Nat}, Lo w wr B q.l q.xs.length j k g → Lo w w3 B q.l q.xs.length j k g := fun {g k} o => lo ⟨o.1, o.2.1.far gr (fun x hx hy => by
        rcases o.2.2 with k | k
        · rw [k] at hy
          exact ap_ne hs.apart (by omega : j ≠ t) hq hp x hy hx
        · have := k x hy
          have := lt p pm x hx
          omega), o.2.2⟩
      refine ⟨k1, k2, k3, ?_, ?_, ?_, far l1, far l2, far l3⟩
      · rw [List.getElem?_append_left (by omega)]; exact e1
      · rw [List.getElem?_append_left (by omega)]; exact e2
      · rw [List.getElem?_append_left (by omega)]; exact e3
    · obtain rfl : j = t := by omega
      obtain rfl : p = q := by rw [hp] at hq; simpa using hq
      refine ⟨g1, g2, g3, ?_, ?_, ?_, lo o1, lo o2, lo o3⟩
      · rw [List.getElem?_append_right (by omega), lm]; simp
      · rw [List.getElem?_append_right (by omega), lm]; simp [Nat.add_sub_cancel_left]
      · rw [List.getElem?_append_right (by omega), lm]; simp [Nat.add_sub_cancel_left]

set_option maxRecDepth 100000 in
set_option maxHeartbeats 16000000 in
theorem filled_any {w : World} {B n c : Nat} {a : Option Addr} {its : List Item} (sr : Sr w B n a c its) (hn : n ≤ 300) (hB : B ≤ w.heap.size) :
    Calls Tryd.prog 9 #[.slice a n c] w fun e w' => ∃ am cm ms, e = .returned (.slice am (3 * n) cm) ∧ Lh w w' B n its (.slice am (3 * n) cm) ms := by
  obtain ⟨i0, hi, hz0, hz1, hz2⟩ := info_parts info_row
  have HS := Lib.hid sr
  have F0 : Hid (Fr w w its) := Fr.refl w its
  have N0 : Hid (Now w B its (fillTo its 0)) := sr.start
  clear sr
  go_enter Tryd.func9, Tryd.ntmps9
  go_wp2
  go_loopw [3, 4] (fun i c wr => ∃ t : Nat, t ≤ n ∧ i = .int .i64 (t : Int) ∧ Hid (Fr w wr its ∧ Now wr B its (fillTo its t))) (fun i _ _ => n - (intOf i).toNat)
  case atStart => exact ⟨0, by omega, rfl, F0.out, N0.out⟩
  case round =>
    obtain ⟨t, ht, rfl, HR⟩ := hrel
    by_cases hlt : t < n
    · have hlt2 : (t : Int) < (n : Int) := by omega
      have ht0 : (0 : Int) ≤ (t : Int) := by omega
      obtain ⟨p, gL, al, cl, hp, hpl, hx, rfl, c1⟩ := HS.out.item HR.out.1 hlt
      obtain ⟨nx, hnx⟩ : ∃ nx, nx = p.xs.length := ⟨_, rfl⟩
      have HP := Lib.hid (And.intro hp (And.intro hpl hnx))
      rw [← hnx] at c1 hx
      clear hp hpl hnx
      go_wp2
      go_loopw [4] (fun c wr2 => ∃ q : Nat, q ≤ nx ∧ c = .int .i64 (q : Int) ∧ Hid (Fr w wr2 its ∧ Now wr2 B its (fillIn its t q))) (fun c _ => nx - (intOf c).toNat)
      case atStart => exact ⟨0, by omega, rfl, HR.out.1, HR.out.2.congr (fillIn_zero its t)⟩
      case round =>
        obtain ⟨q, hq, rfl, HR2⟩ := hrel
        clear c1
        obtain ⟨p', gL', al', cl', hp', hpl', _, eL, c2⟩ := HS.out.item HR2.out.1 hlt
        obtain rfl : p = p' := by have := HP.out.1; rw [hp'] at this; simpa using this.symm
        obtain rfl : gL = gL' := by simpa using eL
        rw [HP.out.2.1] at hpl'
        simp only [Value.slice.injEq] at hpl'
        obtain ⟨rfl, _, rfl⟩ := hpl'
        rw [← HP.out.2.2] at c2
        clear eL hp'
        by_cases hlq : q < nx
        · have hlq2 : (q : Int) < (nx : Int) := by omega
          have hq0 : (0 : Int) ≤ (q : Int) := by omega
          have own := HR2.out.2 t p HP.out.1
          rw [HP.out.2.1, ← HP.out.2.2] at own
          obtain ⟨gi, rfl⟩ : ∃ gi, al = some ⟨gi, 0, none⟩ := by
            rcases own.2.2 with ⟨h1, h2⟩ | ⟨gi, cap, cur, h1, _⟩
            · omega
            · simp only [Value.slice.injEq] at h1
              exact ⟨gi, h1.1⟩
          have hfz := own.2.frozenAt q
          have hcell : ∃ y : Nat, wr.cell? ⟨gi, q, none⟩ = some (.int .u8 (y : Int)) := by
            refine ⟨(fillIn its t q t).getD q 0, ?_⟩
            rw [own.2.cellAt q (by omega)]
            exact bv_at _ _ (by have := own.1; omega)
          obtain ⟨y, hcell⟩ := hcell
          clear own
          go_wp2
          go_roundw
          case rel =>
            have st := HR2.out.2.store HS.out.apart HP.out.1 (q := q) (mk := mkOf t) (by rw [HP.out.2.1])
            rw [mkOf_int] at st
            exact ⟨q + 1, by omega, by go_num, HR2.out.1.grow (set_grown _ gi q _) (fun x hx => .inr ⟨p, List.mem_of_getElem? HP.out.1, by cases hx; rw [HP.out.2.1]; rfl⟩), st.congr (fillIn_next (by rw [xsAt_eq HP.out.1, ← HP.out.2.2]; exact hlq))⟩
          case measure => simp [intOf]; omega
        · have hge : (nx : Int) ≤ (q : Int) := by omega
          obtain rfl : q = nx := by omega
          go_wp2
          go_roundw
          case rel =>
            refine ⟨t + 1, by omega, by go_num, HR2.out.1, HR2.out.2.congr (fun j => ?_)⟩
            have e := fillIn_end its t j
            rw [xsAt_eq HP.out.1, ← HP.out.2.2] at e
            exact e
          case measure => simp [intOf]; omega
    · have hge : (n : Int) ≤ (t : Int) := by omega
      have HTN : Hid (t = n) := by unfold Hid; omega
      have L0 : Hid (Lh w wr B 0 its (.slice none 0 0) []) := Lh.start HS.out HR.out.1 (by rw [← HTN.out]; exact HR.out.2)
      clear HR F0 N0
      go_wp2
      go_loopw [5, 6, 7, 8, 9, 10] (fun m i s1 s2 s3 k wr2 => ∃ u : Nat, u ≤ n ∧ i = .int .i64 (u : Int) ∧ ∃ am cm nm ms, m = .slice am nm cm ∧ Hid (nm = 3 * u ∧ Lh w wr2 B u its (.slice am nm cm) ms)) (fun _ i _ _ _ _ _ => n - (intOf i).toNat)
      case atStart => exact ⟨0, by omega, rfl, none, 0, 0, [], rfl, rfl, L0.out⟩
      case round =>
        clear L0
        obtain ⟨u, hu, rfl, am, cm, nm, ms, rfl, HLN⟩ := hrel
        obtain ⟨wt, hwt⟩ : ∃ wt, wt = wr := ⟨_, rfl⟩
        subst hwt
        have HL := Lib.hid HLN.out.2
        have HNM := Lib.hid HLN.out.1
        clear HLN
        by_cases hlu : u < n
        · have hlu2 : (u : Int) < (n : Int) := by omega
          have hu0 : (0 : Int) ≤ (u : Int) := by omega
          obtain ⟨p, gL, al, cl, hp, hpl, hx, rfl, c1⟩ := HS.out.item HL.out.fr hlu
          obtain ⟨nx, hnx⟩ : ∃ nx, nx = p.xs.length := ⟨_, rfl⟩
          have O1 := HL.out.old u p hp
          rw [hpl, ← hnx] at O1
          have HP := Lib.hid (And.intro hp (And.intro hpl hnx))
          have hBr : B ≤ wt.heap.size := Nat.le_trans hB HL.out.fr.size
          have RW0 := HS.out.row HL.out.fr
          rw [← hnx] at c1 hx
          clear hp hpl hnx
          go_wp2_with fail
          refine fill12_region c1 hlu (by omega) hx O1 ⟨_, _, _, _, RW0, rfl⟩ hBr _ (fun ta tc a1 c1' w2 w3 hb2 og1 gr1 ov1 nr1 kp1 => ?_)
          have RW3 := Lib.hid ((RW0.later hb2).far gr1 (fun x hx hy => row_own (RW0.later hb2) (O1.later hb2) hy hx))
          have GW3 := Lib.hid (grown_trans (grown_below hb2 (Value.slice al nx cl).ownBlock) gr1 (.inl rfl))
          have N1 : Hid (Near wt (.slice al nx cl) (.slice a1 (nx + 1) c1')) := Near.on (.inl rfl) nr1 hb2.size
          have OG1 := Lib.hid og1
          have OV3 := Lib.hid ov1
          have c3 : w3.cell? ⟨gL, u, none⟩ = some (.slice al nx cl) := by
            have h := gr1.cell (by rw [hb2.cell (World.block_lt_of_cell? _ _ c1)]; exact c1 : w2.cell? ⟨gL, u, none⟩ = some (.slice al nx cl)) (fun e => row_own (RW0.later hb2) (O1.later hb2) rfl e.symm)
            exact h
          have hB3 : B ≤ w3.heap.size := Nat.le_trans hBr GW3.out.size
          unfold fillAct
          clear hb2 gr1 nr1 kp1 og1 ov1 RW0 O1 c1
          go_wp2_with fail
          refine fill13_region c3 hlu (by omega) hx OV3.out ⟨_, _, _, _, RW3.out, rfl⟩ hB3 _ (fun ta2 tc2 a2 c2 w4 w5 hb4 og2 gr2 ov2 nr2 kp2 => ?_)
          have OG1b : Hid (Own w5 B (.slice a1 (nx + 1) c1') (nx + 1) (tl nx u 1)) := own_keep (OV3.out.later hb4) ov2 gr2 kp2 (OG1.out.later hb4) (Nat.le_refl _)
          have RW5 := Lib.hid ((RW3.out.later hb4).far gr2 (fun x hx hy => row_own (RW3.out.later hb4) (OV3.out.later hb4) hy hx))
          have GW5 := Lib.hid (grown_trans GW3.out (grown_trans (grown_below hb4 (Value.slice al nx cl).ownBlock) gr2 (.inl rfl)) (.inl rfl))
          have N2 : Hid (Near wt (.slice al nx cl) (.slice a2 (nx + 2) c2)) := Near.on (.inl rfl) nr2 (Nat.le_trans GW3.out.size hb4.size)
          have OG2 : Hid (Own w5 B (.slice a2 (nx + 2) c2) (nx + 2) (tl nx u 2)) := og2
          have OV5 := Lib.hid ov2
          have c5 : w5.cell? ⟨gL, u, none⟩ = some (.slice al nx cl) := by
            have h := gr2.cell (by rw [hb4.cell (World.block_lt_of_cell? _ _ c3)]; exact c3 : w4.cell? ⟨gL, u, none⟩ = some (.slice al nx cl)) (fun e => row_own (RW3.out.later hb4) (OV3.out.later hb4) rfl e.symm)
            exact h
          have hB5 : B ≤ w5.heap.size := Nat.le_trans hBr GW5.out.size
          unfold fillAct
          clear hb4 gr2 nr2 kp2 og2 ov2 RW3 OG1 OV3 GW3 c3 hB3
          go_wp2
          go_loopw [9, 10] (fun s k wr2 => ∃ q a' m c', q ≤ 70 ∧ k = .int .i64 ((q : Nat) : Int) ∧ s = .slice a' m c' ∧ Hid (m = nx + q) ∧ Hid (Own wr2 B (.slice a' m c') m (tl nx u q) ∧ Near wt (.slice al nx cl) (.slice a' m c') ∧ wt.grownBy wr2 (Value.slice al nx cl).ownBlock ∧ Own wr2 B (.slice al nx cl) nx (List.replicate nx (mkOf u)) ∧ Own wr2 B (.slice a1 (nx + 1) c1') (nx + 1) (tl nx u 1) ∧ Own wr2 B (.slice a2 (nx + 2) c2) (nx + 2) (tl nx u 2))) (fun _ k _ => 70 - (intOf k).toNat)
          case atStart => exact ⟨0, al, nx, cl, by omega, rfl, rfl, rfl, by simpa [tl] using OV5.out, .inl rfl, GW5.out, OV5.out, OG1b.out, OG2.out⟩
          case round =>
            obtain ⟨q, a4, m4, c4, hq, rfl, rfl, hm4, HI⟩ := hrel
            have hm4b : m4 ≤ 4194400 := by have := hm4.out; omega
            by_cases hlq : q < 70
            · have hlq2 : (q : Int) < 70 := by omega
              have CT : Hid (Calls Tryd.prog 25 #[.int .i64 (u : Int), .int .i64 1] wr _) := tail_any u 1 (by omega) (by omega) _
              go_wp2_with fail
              refine CT.out.mono ?_
              rintro r w6 ⟨at6, ct6, rfl, ot6, hb6⟩
              obtain ⟨i1, i2, i3, i4, i5, i6⟩ := HI.out
              have own4 := i1.later hb6
              have hB6 : B ≤ w6.heap.size := Nat.le_trans hBr (Nat.le_trans i3.size hb6.size)
              have HJ := Lib.hid (And.intro i2 (And.intro (grown_trans i3 (grown_below hb6 (Value.slice al nx cl).ownBlock) (.inl rfl)) (And.intro (i4.later hb6) (And.intro (i5.later hb6) (And.intro (i6.later hb6) (Nat.le_trans i3.size hb6.size))))))
              clear CT HI hb6 i1 i2 i3 i4 i5 i6
              go_wp2_with (at_builtin; refine wpList_append_tail rfl _ _ rfl B _ m4 c4 1 ct6 (tkOf u) a4 at6 _ rfl rfl own4 ot6 (by omega) (by omega) hB6 ?_; intro a7 c7 w7 own7 gr7 ov7 nr7 kp7; refine Hid.out ?_)
              refine Lib.hid ?_
              have H7 : Hid (Own w7 B (.slice a7 (m4 + 1) c7) (m4 + 1) (tl nx u (q + 1)) ∧ Near wt (.slice al nx cl) (.slice a7 (m4 + 1) c7) ∧ wt.grownBy w7 (Value.slice al nx cl).ownBlock ∧ Own w7 B (.slice al nx cl) nx (List.replicate nx (mkOf u)) ∧ Own w7 B (.slice a1 (nx + 1) c1') (nx + 1) (tl nx u 1) ∧ Own w7 B (.slice a2 (nx + 2) c2) (nx + 2) (tl nx u 2)) := by
                obtain ⟨j1, j2, j3, j4, j5, j6⟩ := HJ.out
                have hnm : nx ≤ m4 := by have := hm4.out; omega
                refine ⟨?_, Near.on j1 nr7 j6, grown_trans j2 gr7 j1, ?_, own_keep own4 ov7 gr7 kp7 j4 hnm, own_keep own4 ov7 gr7 kp7 j5 hnm⟩
                · have e : tl nx u q ++ List.replicate 1 (tkOf u) = tl nx u (q + 1) := by unfold tl; rw [List.append_assoc, List.replicate_append_replicate]
                  rw [← e]
                  exact own7
                · have h := own_keep (r := 0) own4 ov7 gr7 kp7 (by simpa using j3) hnm
                  simpa using h
              have hm7 : Hid (m4 + 1 = nx + (q + 1)) := by unfold Hid; have := hm4.out; omega
              clear own7 nr7 kp7 gr7 ov7 HJ own4 ot6
              go_wp2
              go_roundw
              case rel => exact ⟨q + 1, a7, m4 + 1, c7, by omega, by go_num, rfl, hm7, H7⟩
              case measure => simp [intOf]; omega
            · have hgq : (70 : Int) ≤ (q : Int) := by omega
              have HQ70 : Hid (q = 70) := by unfold Hid; omega
              have R4 := HL.out.row.far HI.out.2.2.1 (fun x hx hy => by
                have h1 := (HL.out.row.2.2.lt x hy).1
                have h2 := ((HS.out.own p (List.mem_of_getElem? HP.out.1)).1.2.lt x (by rw [HP.out.2.1, ← HP.out.2.2]; exact hx)).2
                omega)
              rw [← HNM.out] at R4
              have hnm : nm ≤ 900 := by have := HNM.out; omega
              have hwr : w.heap.size ≤ wr.heap.size := Nat.le_trans HL.out.fr.size HI.out.2.2.1.size
              go_wp2_with (at_builtin; refine wpList_append_own _ rfl _ _ 25 rfl w.heap.size 23 i0 (.slice none 0 0) 1 24 und_parts hi hz0 hz1 hz2 rfl (by decide) _ nm _ rfl (R4.2.2.alloc _) ⟨wr.heap.size, 0, none⟩ 3 3 [.slice a1 (nx + 1) c1', .slice a2 (nx + 2) c2, .slice a4 m4 c4] rfl rfl (news_new _ _ _) ?c2 ?c3 ?c4 ?c5 ?_; rotate_left 4; intro v' w8 hown8 hgrow _; refine Hid.out ?_)
              case c2 => intro x hx; simp at hx; rcases hx with rfl | rfl | rfl <;> rfl
              case c3 => unfold maxLen; omega
              case c4 => omega
              case c5 => simp; omega
              refine Lib.hid ?_
              obtain ⟨a8, c8, rfl⟩ := rows_form hown8
              have H8 : Hid (nm + 3 = 3 * (u + 1) ∧ Lh w w8 B (u + 1) its (.slice a8 (nm + 3) c8) (ms ++ [.slice a1 (nx + 1) c1', .slice a2 (nx + 2) c2, .slice a4 m4 c4])) := by
                have A4 := (Below.refl wr.heap.size wr).alloc (Nat.le_refl _) (.cells #[.slice a1 (nx + 1) c1', .slice a2 (nx + 2) c2, .slice a4 m4 c4] 23)
                obtain ⟨i1, i2, i3, i4, i5, i6⟩ := HI.out
                obtain ⟨hp, hpl, hnx⟩ := HP.out
                have e3 : nm + 3 = 3 * (u + 1) := by have := HNM.out; omega
                refine ⟨e3, ?_⟩
                have e4 := hm4.out
                rw [HQ70.out] at i1 e4
                subst e4
                have hsz := HL.out.fr.size
                have lo : ∀ {g : Value}, Near wt (.slice al nx cl) g → Near w p.l g := fun {g} k => by
                  rw [hpl, ← hnx]
                  rcases k with k | k
                  · exact .inl k
                  · exact .inr fun x hx => Nat.le_trans hsz (k x hx)
                have hone : ∀ x ∈ ms ++ [.slice a1 (nx + 1) c1', .slice a2 (nx + 2) c2, .slice a4 (nx + 70) c4], x.oneCell' = true := by
                  intro x hx
                  rcases List.mem_append.1 hx with hx | hx
                  · exact R4.2.1 x hx
                  · simp at hx; rcases hx with rfl | rfl | rfl <;> rfl
                have g8 := grown_trans (grown_below A4 (Value.slice am nm cm).ownBlock) hgrow (.inl rfl)
                have rl : RowS w8 w.heap.size (.slice a8 (nm + 3) c8) (nm + 3) (ms ++ [.slice a1 (nx + 1) c1', .slice a2 (nx + 2) c2, .slice a4 (nx + 70) c4]) := ⟨by rw [List.length_append, ← R4.1]; rfl, hone, hown8⟩
                rw [e3] at rl ⊢
                have gl : wt.grownBy wr p.l.ownBlock := by rw [hpl, ← hnx]; exact i3
                have st := Lh.step (w3 := w8) HS.out HL.out hp (w2 := wr) (by rw [hpl, ← hnx]; exact i4) (g1 := .slice a1 (nx + 1) c1') (g2 := .slice a2 (nx + 2) c2) (g3 := .slice a4 (nx + 70) c4)
                  (by rw [← hnx]; exact ⟨⟨_, _, rfl⟩, i5, lo N1.out⟩) (by rw [← hnx]; exact ⟨⟨_, _, rfl⟩, i6, lo N2.out⟩) (by rw [← hnx]; exact ⟨⟨_, _, rfl⟩, i1, lo i2⟩) gl rl g8
                exact st
              clear hown8 hgrow R4 HI
              go_wp2
              go_roundw
              case rel => exact ⟨u + 1, by omega, by go_num, a8, c8, nm + 3, _, rfl, H8⟩
              case measure => simp [intOf]; omega
        · have hge2 : (n : Int) ≤ (u : Int) := by omega
          have HUN : Hid (u = n) := by unfold Hid; omega
          go_wp2
          go_ret
          have e3 := HNM.out
          subst e3
          have e4 := HUN.out
          subst e4
          exact ⟨am, cm, ms, rfl, HL.out⟩

end Go.Proofs.YtledfniedoapiaaDoor

namespace Go.Proofs.YtledfniedoapiaaDoor
open Go.RowKit
set_option linter.unusedVariables false

/-- What 'stand' looks at: all lists hold their marks, and what was lengthened too. -/
structure Std (w : World) (n : Nat) (a : Option Addr) (c : Nat) (am : Option Addr) (cm : Nat) (its : List Item) (ms : List Value) : Prop where
  rl : ∃ B, RowS w B (.slice a n c) n (its.map Item.l)
  rm : ∃ B, RowS w B (.slice am (3 * n) cm) (3 * n) ms
  len : n = its.length
  fit : ∀ p ∈ its, p.xs.length ≤ 4194304
  old : ∀ j p, its[j]? = some p → ∃ al cl, p.l = .slice al p.xs.length cl ∧ Rd w p.l (List.replicate p.xs.length (mkOf j))
  new : ∀ j p, its[j]? = some p → ∀ y, y < 3 → ∃ ag cg r, r ≤ 70 ∧ ms[3 * j + y]? = some (.slice ag (p.xs.length + r) cg) ∧ Rd w (.slice ag (p.xs.length + r) cg) (tl p.xs.length j r) ∧ (y = 0 → r = 1) ∧ (y = 1 → r = 2) ∧ (y = 2 → r = 70)
theorem Std.later {w w' : World} {n c cm : Nat} {a am : Option Addr} {its : List Item} {ms : List Value} (h : Std w n a c am cm its ms) (hb : Below w.heap.size w w') : Std w' n a c am cm its ms := by
  obtain ⟨⟨B1, h1⟩, ⟨B2, h2⟩, h3, h4, h5, h6⟩ := h
  refine ⟨⟨B1, h1.later hb⟩, ⟨B2, h2.later hb⟩, h3, h4, fun j p hp => ?_, fun j p hp y hy => ?_⟩
  · obtain ⟨al, cl, e, r⟩ := h5 j p hp
    exact ⟨al, cl, e, r.later hb⟩
  · obtain ⟨ag, cg, r, k1, k2, k3, k4⟩ := h6 j p hp y hy
    exact ⟨ag, cg, r, k1, k2, k3.later hb, k4⟩
theorem Lh.std {w w' : World} {B n c cm : Nat} {a am : Option Addr} {its : List Item} {ms : List Value} (hs : Sr w B n a c its) (h : Lh w w' B n its (.slice am (3 * n) cm) ms) : Std w' n a c am cm its ms := by
  have fit : ∀ p ∈ its, p.xs.length ≤ 4194304 := fun p hp => (hs.own p hp).2.2
  refine ⟨⟨B, hs.row h.fr⟩, ⟨_, h.row⟩, hs.len, fit, fun j p hp => ?_, fun j p hp y hy => ?_⟩
  · have o := h.old j p hp
    have := fit p (List.mem_of_getElem? hp)
    obtain ⟨al, cl, e⟩ := own_form o.2
    exact ⟨al, cl, e, o.rd (rep_bys _ _ (mkOf_lt j)) (by omega)⟩
  · have hf := fit p (List.mem_of_getElem? hp)
    have hj : j < n := by have := (List.getElem?_eq_some_iff.1 hp).1; have := hs.len; omega
    obtain ⟨g1, g2, g3, e1, e2, e3, ⟨⟨a1, c1, rfl⟩, o1, _⟩, ⟨⟨a2, c2, rfl⟩, o2, _⟩, ⟨⟨a3, c3, rfl⟩, o3, _⟩⟩ := h.new j p hj hp
    match y, hy with
    | 0, _ => exact ⟨a1, c1, 1, by omega, by simpa using e1, o1.rd (tl_bys _ _ _) (by omega), fun _ => rfl, by omega, by omega⟩
    | 1, _ => exact ⟨a2, c2, 2, by omega, e2, o2.rd (tl_bys _ _ _) (by omega), by omega, fun _ => rfl, by omega⟩
    | 2, _ => exact ⟨a3, c3, 70, by omega, e3, o3.rd (tl_bys _ _ _) (by omega), by omega, by omega, fun _ => rfl⟩
theorem tl_lo {n j k i : Nat} (h : i < n) : (tl n j k).getD i 0 = mkOf j := by
  unfold tl
  rw [List.getD_eq_getElem?_getD, List.getElem?_append_left (by simpa using h)]
  simp [h]
theorem tl_hi {n j k i : Nat} (h : n ≤ i) (hk : i < n + k) : (tl n j k).getD i 0 = tkOf j := by
  unfold tl
  have hr : i - n < k := by omega
  rw [List.getD_eq_getElem?_getD, List.getElem?_append_right (by simpa using h)]
  simp [hr]
theorem row_cell {w : World} {B n c x : Nat} {a : Option Addr} {vs : List Value} {v : Value} (h : RowS w B (.slice a n c) n vs) (hv : vs[x]? = some v) : ∃ g, a = some ⟨g, 0, none⟩ ∧ w.cell? ⟨g, x, none⟩ = some v ∧ x < n := by
  have hx : x < n := by rw [h.1]; exact (List.getElem?_eq_some_iff.1 hv).1
  obtain ⟨g, rfl, hc⟩ := h.at hx
  exact ⟨g, rfl, by rw [hc, hv], hx⟩

set_option maxRecDepth 100000 in
set_option maxHeartbeats 16000000 in
theorem stand_any {w : World} {n c cm : Nat} {a am : Option Addr} {its : List Item} {ms : List Value} (h : Std w n a c am cm its ms) (hn : n ≤ 300) :
    Calls Tryd.prog 10 #[.slice a n c, .slice am (3 * n) cm] w fun e w' => e = .returned (.bool true) ∧ w' = w := by
  have HS := Lib.hid h
  obtain ⟨nm, hnm⟩ : ∃ nm, nm = 3 * n := ⟨_, rfl⟩
  have HNM := Lib.hid hnm
  rw [← hnm]
  clear h hnm
  go_enter Tryd.func10, Tryd.ntmps10
  go_wp2
  go_loopw [5, 6, 7, 8, 9] (fun i s6 s7 s8 s9 wr2 => ∃ t : Nat, t ≤ n ∧ i = .int .i64 (t : Int) ∧ wr2 = w) (fun i _ _ _ _ _ => n - (intOf i).toNat)
  case atStart => exact ⟨0, by omega, rfl, rfl⟩
  case round =>
    obtain ⟨t, ht, rfl, rfl⟩ := hrel
    by_cases hlt : t < n
    · have hlt2 : (t : Int) < (n : Int) := by omega
      have ht0 : (0 : Int) ≤ (t : Int) := by omega
      have hti : t < its.length := by have := HS.out.len; omega
      obtain ⟨al, cl, el, ro⟩ := HS.out.old t its[t] (by simp [hti])
      obtain ⟨B1, r1⟩ := HS.out.rl
      obtain ⟨B2, r2⟩ := HS.out.rm
      obtain ⟨gL, rfl, c1, _⟩ := row_cell (x := t) r1 (v := its[t].l) (by simp [hti])
      obtain ⟨nx, hnx⟩ : ∃ nx, nx = its[t].xs.length := ⟨_, rfl⟩
      have hx := HS.out.fit its[t] (List.getElem_mem hti)
      obtain ⟨ag0, cg0, r0, _, m0, _, e0, _, _⟩ := HS.out.new t its[t] (by simp [hti]) 0 (by omega)
      obtain ⟨ag1, cg1, r1', _, m1, _, _, e1, _⟩ := HS.out.new t its[t] (by simp [hti]) 1 (by omega)
      obtain ⟨ag2, cg2, r2', _, m2, _, _, _, e2⟩ := HS.out.new t its[t] (by simp [hti]) 2 (by omega)
      have e0 := e0 rfl
      have e1 := e1 rfl
      have e2 := e2 rfl
      subst e0 e1 e2
      obtain ⟨gM, rfl, d0, l0⟩ := row_cell r2 m0
      obtain ⟨_, q1, d1, l1⟩ := row_cell r2 m1
      obtain ⟨_, q2, d2, l2⟩ := row_cell r2 m2
      simp only [Option.some.injEq, Addr.mk.injEq, and_true] at q1 q2
      subst q1 q2
      rw [el] at c1 ro
      rw [← hnx] at c1 hx ro d0 d1 d2
      have HRO := Lib.hid ro
      have HNX := Lib.hid hnx
      rw [Nat.add_zero] at d0 l0
      clear ro r1 r2 m0 m1 m2 hnx el
      have f0 : (3 * (t : Int)).toNat = 3 * t := by omega
      have f1 : (3 * (t : Int) + 1).toNat = 3 * t + 1 := by omega
      have f2 : (3 * (t : Int) + 2).toNat = 3 * t + 2 := by omega
      have b0 : 3 * (t : Int) < (nm : Int) := by have := HNM.out; omega
      have b1 : 3 * (t : Int) + 1 < (nm : Int) := by have := HNM.out; omega
      have b2 : 3 * (t : Int) + 2 < (nm : Int) := by have := HNM.out; omega
      have b00 : 0 ≤ 3 * (t : Int) := by omega
      have b10 : 0 ≤ 3 * (t : Int) + 1 := by omega
      have b20 : 0 ≤ 3 * (t : Int) + 2 := by omega
      clear l0 l1 l2
      go_wp2
      go_loopw [7, 8, 9] (fun k s8 s9 wr2 => ∃ y : Nat, y ≤ 3 ∧ k = .int .i64 (3 * (t : Int) + (y : Int)) ∧ wr2 = wr) (fun k _ _ _ => 3 * t + 3 - (intOf k).toNat)
      case atStart => exact ⟨0, by omega, by simp, rfl⟩
      case round =>
        clear d0 d1 d2 f0 f1 f2 b0 b1 b2 b00 b10 b20
        obtain ⟨y, hy, rfl, rfl⟩ := hrel
        by_cases hly : y < 3
        · have hly2 : (y : Int) < 3 := by omega
          obtain ⟨ag, cg, r, hr, mm, rg, _⟩ := HS.out.new t its[t] (by simp [hti]) y hly
          obtain ⟨B2, r2⟩ := HS.out.rm
          obtain ⟨_, q1, d0, l0⟩ := row_cell r2 mm
          simp only [Option.some.injEq, Addr.mk.injEq, and_true] at q1
          subst q1
          rw [← HNX.out] at d0 rg
          obtain ⟨nr, hnr⟩ : ∃ nr, nr = nx + r := ⟨_, rfl⟩
          have hnrb : nr ≤ 4194400 := by omega
          rw [← hnr] at d0
          have HRG := Lib.hid rg
          rw [← hnr] at HRG
          have HNR := Lib.hid hnr
          clear rg r2 mm hnr l0
          have f0 : (3 * (t : Int) + (y : Int)).toNat = 3 * t + y := by omega
          have b0 : 3 * (t : Int) + (y : Int) < (nm : Int) := by have := HNM.out; omega
          have b00 : 0 ≤ 3 * (t : Int) + (y : Int) := by omega
          go_wp2
          go_loopw [8, 9] (fun j s9 wr2 => ∃ x : Nat, x ≤ nr ∧ j = .int .i64 (x : Int) ∧ wr2 = wr) (fun j _ _ => nr - (intOf j).toNat)
          case atStart => exact ⟨0, by omega, rfl, rfl⟩
          case round =>
            obtain ⟨x, hxr, rfl, rfl⟩ := hrel
            by_cases hlx : x < nr
            · have hlx2 : (x : Int) < (nr : Int) := by omega
              have hx0 : (0 : Int) ≤ (x : Int) := by omega
              rcases rd_some HRG.out with ⟨_, h0, _⟩ | ⟨b2, off2, rfl⟩
              · omega
              obtain ⟨cq, _⟩ := rd_cell HRG.out x hlx
              by_cases hxn : x < nx
              · have hxn2 : (x : Int) < (nx : Int) := by omega
                rw [tl_lo hxn, mkOf_int] at cq
                rcases rd_some HRO.out with ⟨_, h0, _⟩ | ⟨b3, off3, rfl⟩
                · omega
                obtain ⟨cx, _⟩ := rd_cell HRO.out x hxn
                have e : (List.replicate nx (mkOf t)).getD x 0 = mkOf t := by simp [List.getD, hxn]
                rw [e, mkOf_int] at cx
                clear e
                go_wp2
                go_roundw
                case rel => exact ⟨x + 1, by omega, by go_num, trivial⟩
                case measure => simp [intOf]; omega
              · have hxn2 : (nx : Int) ≤ (x : Int) := by omega
                rw [tl_hi (by omega) (by have := HNR.out; omega), tkOf_int] at cq
                go_wp2
                go_roundw
                case rel => exact ⟨x + 1, by omega, by go_num, trivial⟩
                case measure => simp [intOf]; omega
            · have hgx : (nr : Int) ≤ (x : Int) := by omega
              go_wp2
              go_roundw
              case rel => exact ⟨y + 1, by omega, by go_num, trivial⟩
              case measure => simp [intOf]; omega
        · have hgy : (3 : Int) ≤ (y : Int) := by omega
          go_wp2
          go_roundw
          case rel => exact ⟨t + 1, by omega, by go_num, trivial⟩
          case measure => simp [intOf]; omega
    · have hge : (n : Int) ≤ (t : Int) := by omega
      go_wp2
      go_ret
      exact ⟨rfl, rfl⟩

end Go.Proofs.YtledfniedoapiaaDoor

namespace Go.Proofs.YtledfniedoapiaaDoor
open Go.ChangeShapes Go.WideShapes Go.ChangeAt Go.RowKit
set_option linter.unusedVariables false

theorem own_knob : ownKnob Tryd.prog.godebug = none := by kernel_rfl
theorem laid_out : laidOutB Tryd.prog = true := by kernel_rfl
theorem g_tab : Tryd.prog.globalNamed "strata/wire.halves" = some 0 := by kernel_rfl
theorem g_tab_type : (Tryd.prog.globals[0]?).map (·.type) = some 93 := by kernel_rfl
theorem und_tab : Tryd.prog.underlying 93 = some (.array 16 77) := by kernel_rfl
theorem und_u32 : Tryd.prog.underlying 77 = some (.int .u32) := by kernel_rfl
theorem und_int : Tryd.prog.underlying 3 = some (.int .i64) := by kernel_rfl
theorem und_u64 : Tryd.prog.underlying 22 = some (.int .u64) := by kernel_rfl
theorem und_bool : Tryd.prog.underlying 4 = some .bool := by kernel_rfl
theorem cells_tab : Tryd.prog.cellsOf 93 = 16 := by kernel_rfl
theorem cells_u32 : Tryd.prog.cellsOf 77 = 1 := by kernel_rfl
theorem cells_byte : Tryd.prog.cellsOf 5 = 1 := by kernel_rfl
theorem cells_bytes : Tryd.prog.cellsOf 23 = 1 := by kernel_rfl

/-- What the list of a row gives: the table lies in memory. -/
theorem tab_of {W : World} (h : laidMetH Tryd.prog Rows.wireOwnRow.laid W) : Tab W := by
  have t : Lib.TabIs Tryd.prog W "strata/wire.halves" .u32 [0, 274646895, 549293790, 820201905, 1098587580, 1361435347, 1640403810, 1905808397, 2197175160, 2460548119, 2722870694, 2987750089, 3280807620, 3553878443, 3811616794, 4084100981] :=
    Lib.tabIs_of_head (rest := []) g_tab g_tab_type und_tab und_u32 cells_u32 cells_tab h
  intro i hi
  have := t.cell g_tab i (by simpa using hi)
  rw [this]
  have key : ∀ j, j < 16 → ([0, 274646895, 549293790, 820201905, 1098587580, 1361435347, 1640403810, 1905808397, 2197175160, 2460548119, 2722870694, 2987750089, 3280807620, 3553878443, 3811616794, 4084100981] : List Int).getD j 0 = ((tab.getD j 0 : Nat) : Int) := by decide
  rw [key i hi]

theorem bulk_pos {H : Type} (d : DataW H) : 1 ≤ Rows.uptoBulk d := by
  cases d with
  | lit l => cases l <;> simp [Rows.uptoBulk]
  | nil => simp [Rows.uptoBulk]
  | ptr d => simp [Rows.uptoBulk]
  | slice elems spare => simp [Rows.uptoBulk]
  | agg parts => simp [Rows.uptoBulk]
  | iface t d => simp [Rows.uptoBulk]
  | map entries => simp [Rows.uptoBulk]
  | held h => simp [Rows.uptoBulk]
theorem bulk_len {H : Type} (l : List (DataW H)) : l.length ≤ Rows.uptoBulkAll l := by
  induction l with
  | nil => simp [Rows.uptoBulkAll]
  | cons x r ih => have := bulk_pos x; simp only [Rows.uptoBulkAll, List.length_cons]; omega

/-- A slice of bytes that came in. -/
theorem open_bytes {H : Type} {enc : TypeId × Value → H} {W : World} {v : Value} {d : DataW H} {p : List MemPlace} {base : Nat} {held : Bool} (h : DataW.Trod enc Tryd.prog W base (fun _ => true) held 23 v d p) (hs : ∃ a n c, v = .slice a n c) :
    ∃ bs : List Nat, (bs.length ≤ 281474976710656 → Rd W v bs) ∧ bs.length + 1 ≤ Rows.uptoBulk d ∧ (bs = [] ∨ ∃ elems spare, d = .slice elems spare ∧ elems.length = bs.length) := by
  obtain ⟨a, n, c, rfl⟩ := hs
  obtain ⟨fuel, hf⟩ := h
  rcases open_ints und_bytes und_byte cells_byte hf with ⟨hcs, hx⟩ | ⟨x, l, c', zs, hcs, _, hl, hm, hz, hx, hcell, hwz⟩
  · simp [Value.cells] at hcs
    obtain ⟨rfl, rfl, rfl⟩ := hcs
    refine ⟨[], fun _ => Rd.nil W, ?_, .inl rfl⟩
    have := bulk_pos d
    simpa using this
  · simp [Value.cells] at hcs
    obtain ⟨rfl, rfl, rfl⟩ := hcs
    simp only [if_true] at hz
    simp only [Prod.mk.injEq] at hx
    obtain ⟨rfl, _⟩ := hx
    have hby : ∀ i, i < zs.length → 0 ≤ zs.getD i 0 ∧ zs.getD i 0 < 256 := by
      intro i hi
      have hmem : zs.getD i 0 ∈ zs := by simp [List.getD, List.getElem?_eq_getElem hi]
      have := bounds_u8 (hwz _ hmem)
      omega
    refine ⟨(zs.take n).map Int.toNat, fun hlen => ⟨?_, some x, c, ?_, ?_, hm, hlen, ?_, ?_⟩, ?_, .inr ⟨_, _, rfl, by simp [lits]⟩⟩
    · intro y hy
      simp only [List.mem_map] at hy
      obtain ⟨z, hz1, rfl⟩ := hy
      have := bounds_u8 (hwz z (List.mem_of_mem_take hz1))
      omega
    · simp; omega
    · simp; omega
    · by_cases hc0 : c = 0
      · exact .inl hc0
      · right
        obtain ⟨b, off, spot⟩ := x
        have hc := hcell 0 (by omega)
        have hspot : spot = none := by simpa [Addr.add] using World.cell?_spot hc
        subst hspot
        exact ⟨b, off, rfl⟩
    · by_cases hn0 : n = 0
      · left; simp [hn0]
      · right
        obtain ⟨b, off, spot⟩ := x
        have hc := hcell 0 (by omega)
        have hspot : spot = none := by simpa [Addr.add] using World.cell?_spot hc
        subst hspot
        refine ⟨b, off, rfl, fun i hi => ?_⟩
        have hin : i < n := by simp at hi; omega
        have hc := hcell i (by omega)
        have e : (⟨b, off, none⟩ : Addr).add i = ⟨b, off + i, none⟩ := by unfold Addr.add; split <;> simp_all
        rw [e] at hc
        rw [hc]
        have hb := hby i (by omega)
        have e2 : ((zs.take n).map Int.toNat).getD i 0 = (zs.getD i 0).toNat := by
          simp [List.getElem?_take_of_lt hin, List.getElem?_eq_getElem (show i < zs.length by omega)]
        rw [e2, Int.toNat_of_nonneg hb.1]
    · have h1 := bulk_len (H := H) (lits .u8 (zs.take n))
      simp only [Rows.uptoBulk]
      simp [lits] at h1 ⊢
      omega

/-- What the reach gives of a slice of bytes. -/
theorem reach_bytes {H : Type} {ts : List TypeId} {ds gs : List (DataW H)} (h : (DataW.weightsEach Tryd.prog ts (ds ++ gs)).all (fun x => decide (x ≤ reachBytes)) = true) (j : Nat) (ht : ts[j]? = some 23) {d : DataW H} (hd : ds[j]? = some d) {bs : List Nat} (hx : bs = [] ∨ ∃ elems spare, d = .slice elems spare ∧ elems.length = bs.length) : bs.length ≤ 140737488351232 := by
  rcases hx with rfl | ⟨elems, spare, rfl, hl⟩
  · simp
  · have hd2 : (ds ++ gs)[j]? = some (.slice elems spare) := by
      rw [List.getElem?_append_left (List.getElem?_eq_some_iff.1 hd).1]
      exact hd
    have := sized_slice h ht hd2 und_bytes
    rw [show Tryd.prog.bytesOf 5 = 1 by kernel_rfl] at this
    unfold reachBytes at this
    omega

end Go.Proofs.YtledfniedoapiaaDoor
