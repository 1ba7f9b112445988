import Derived.Test.YtledfniedoapiaaDoorJ11
import Derived.Test.YtledfniedoapiaaDoorJ12
import Derived.Test.YtledfniedoapiaaDoorJ02
import Derived.Lib.Hide
import Derived.Test.YtledfniedoapiaaDoorRows
import Derived.Test.YtledfniedoapiaaDoorJ01
import Derived.ProofKit
import Derived.OpenShut
import Derived.Deep.DeepHandedRow
import Derived.Lib.LaidTab
import Derived.Deep.Slices
namespace Go.Proofs.YtledfniedoapiaaDoor
open Go.RowKit
set_option linter.unusedVariables false

theorem Pend.add {w w' : World} {B g n : Nat} {its : List Item} {vs ws : List (Value × List Nat)} (h : Pend w B its vs) (hk : Bk w B g n its) (hb : Below w.heap.size w w') (k : Pend w' w.heap.size [] ws) (hB : B ≤ w.heap.size) : Pend w' B its (vs ++ ws) := by
  have hv : ∀ p ∈ ws, ∀ x, p.1.ownBlock = some x → w.heap.size ≤ x := fun p hp x hx => ((k.own p hp).1.2.lt x hx).1
  refine ⟨fun p hp => ?_, ?_, fun p hp => ?_⟩
  · rcases List.mem_append.1 hp with hp | hp
    · exact (h.later hb).own p hp
    · exact ⟨(k.own p hp).1.mono hB, (k.own p hp).2⟩
  · rw [List.map_append, List.pairwise_append]
    refine ⟨h.ap, k.ap, fun u hu y hy => ?_⟩
    obtain ⟨p, hp, rfl⟩ := List.mem_map.1 hu
    obtain ⟨q, hq, rfl⟩ := List.mem_map.1 hy
    exact fun x hx hy => by have := ((h.own p hp).1.2.lt x hx).2; have := hv q hq x hy; omega
  · rcases List.mem_append.1 hp with hp | hp
    · exact h.hap p hp
    · exact Hap.new hk (hv p hp)
theorem RowS.same_block {w w' : World} {B n : Nat} {v : Value} {vs : List Value} (h : RowS w B v n vs) (k : ∀ x, v.ownBlock = some x → w'.heap[x]? = w.heap[x]?) : RowS w' B v n vs := by
  refine ⟨h.1, h.2.1, h.2.2.1, ?_⟩
  rcases h.2.2.2 with h2 | ⟨g, cap, cur, h3, h4, h5, h6⟩
  · exact .inl h2
  · exact .inr ⟨g, cap, cur, h3, h4, by rw [k g (by rw [h3]; rfl)]; exact h5, h6⟩
theorem Nine.ex {w wx : World} {B0 g H : Nat} {v : Value} {L : List (List Nat)} (h : Nine w B0 v L) (hg : g < B0) (k : Ex H g w wx) (hH : w.heap.size ≤ H) : Nine wx B0 v L := by
  obtain ⟨a, c, us, h1, h2, h3⟩ := h
  refine ⟨a, c, us, h1, h2.same_block (fun x hx => ?_), ⟨fun p hp => ⟨(h3.own p hp).1.same_block (fun x hx => ?_), (h3.own p hp).2⟩, h3.ap, h3.hap⟩⟩
  · have := h2.2.2.lt x hx
    exact k.block x (by omega) (by omega)
  · have := (h3.own p hp).1.2.lt x hx
    exact k.block x (by omega) (by omega)
theorem Nine.mono {w : World} {B B' : Nat} {v : Value} {L : List (List Nat)} (h : Nine w B v L) (hB : B' ≤ B) : Nine w B' v L := by
  obtain ⟨a, c, us, h1, h2, h3⟩ := h
  exact ⟨a, c, us, h1, h2.mono hB, ⟨fun p hp => ⟨(h3.own p hp).1.mono hB, (h3.own p hp).2⟩, h3.ap, h3.hap⟩⟩
/-- A row that is none of the book's. -/
def Rw (w : World) (B g : Nat) (a : Option Addr) (c : Nat) (X : List (Value × List Nat)) : Prop := RowS w B (.slice a 9 c) 9 (X.map Prod.fst) ∧ ∀ x, (Value.slice a 9 c).ownBlock = some x → Off w g x
theorem Rw.later {w w' : World} {B g c : Nat} {a : Option Addr} {X : List (Value × List Nat)} (h : Rw w B g a c X) (hb : Below w.heap.size w w') : Rw w' B g a c X := ⟨h.1.later hb, fun x hx => (h.2 x hx).later hb⟩
theorem Rw.kept {w w' : World} {B g c : Nat} {a : Option Addr} {X : List (Value × List Nat)} (h : Rw w B g a c X) (k : FrO w w' g) : Rw w' B g a c X := ⟨h.1.same_block (fun x hx => (k x (h.1.2.2.lt x hx).2 (h.2 x hx)).1), fun x hx => (k x (h.1.2.2.lt x hx).2 (h.2 x hx)).2⟩
theorem Rw.cell {w : World} {B g c j : Nat} {a : Option Addr} {X : List (Value × List Nat)} (h : Rw w B g a c X) (hj : j < 9) : ∃ gx p, a = some ⟨gx, 0, none⟩ ∧ X[j]? = some p ∧ w.cell? ⟨gx, j, none⟩ = some p.1 := by
  obtain ⟨gx, rfl, hc⟩ := h.1.at hj
  have hl : X.length = 9 := by have := h.1.1; simpa using this.symm
  refine ⟨gx, X[j]'(by omega), rfl, by simp [hl, hj], ?_⟩
  rw [hc]
  simp [hl, hj]
/-- What stands while the answers are kept. -/
structure Ls (w2 wr : World) (B g n : Nat) (its : List Item) (vs : List (Value × List Nat)) (ax : Option Addr) (cx : Nat) (X : List (Value × List Nat)) (aa : Option Addr) (ca : Nat) (A : List (Value × List Nat)) (ay : Option Addr) (cy : Nat) (Y : List (Value × List Nat)) (az : Option Addr) (cz : Nat) (Z : List (Value × List Nat)) : Prop where
  ex : Ex B g w2 wr
  bk : Bk wr B g n its
  pe : Pend wr B its vs
  rx : Rw wr B g ax cx X
  ra : Rw wr B g aa ca A
  ry : Rw wr B g ay cy Y
  rz : Rw wr B g az cz Z
  hB : B ≤ wr.heap.size
theorem Ls.kept {w2 wr wx : World} {B g n n' : Nat} {its its' : List Item} {vs vs' : List (Value × List Nat)} {ax aa ay az : Option Addr} {cx ca cy cz : Nat} {X A Y Z : List (Value × List Nat)} (h : Ls w2 wr B g n its vs ax cx X aa ca A ay cy Y az cz Z) (e : Ex B g wr wx) (f : FrO wr wx g) (hk : Bk wx B g n' its') (hp : Pend wx B its' vs') : Ls w2 wx B g n' its' vs' ax cx X aa ca A ay cy Y az cz Z :=
  ⟨h.ex.trans e, hk, hp, h.rx.kept f, h.ra.kept f, h.ry.kept f, h.rz.kept f, Nat.le_trans h.hB e.size⟩
theorem drop_at {α : Type} {X : List α} {j : Nat} {p : α} (h : X[j]? = some p) : X.drop j = p :: X.drop (j + 1) := by
  obtain ⟨hj, rfl⟩ := List.getElem?_eq_some_iff.1 h
  exact List.drop_eq_getElem_cons hj
theorem KBox.emptyB {w : World} {g B : Nat} (h : KBox w g (.slice none 0 0) (.slice none 0 0)) : Bk w B g 0 [] :=
  ⟨⟨none, 0, none, 0, h, ⟨rfl, by simp, World.ownsRow_nil _ _ _ _⟩, ⟨rfl, by simp, World.ownsRow_nil _ _ _ _⟩, fun x hx => by cases hx⟩, by simp, by simp⟩
theorem KBox.new (w : World) : KBox (w.alloc (.cells #[.slice none 0 0, .slice none 0 0] 45)) w.heap.size (.slice none 0 0) (.slice none 0 0) := heap_new w _
theorem zip_fst {us : List Value} {L : List (List Nat)} (h : us.length = L.length) : (us.zip L).map Prod.fst = us := by
  rw [List.map_fst_zip (by omega)]

set_option maxRecDepth 100000 in
set_option maxHeartbeats 16000000 in
theorem wireLent_walk {v u : Nat} (hv : v < 18446744073709551616) (hu : u < 18446744073709551616) {vb vc va : Value} {bs cs all : List Nat} {z : Int} {w : World} (rb : Rd w vb bs) (rc : Rd w vc cs) (ra : Rd w va all) (ht : Tab w) (lb : bs.length ≤ 1048576) (lc : cs.length ≤ 1048576) (la : all.length ≤ 1048576) :
    Calls Tryd.prog 5 #[.int .u64 (v : Int), vb, .int .u64 (u : Int), vc, va, .int .i64 z] w fun e w' => e = .returned (.bool true) ∧ Below w.heap.size w w' := by
  obtain ⟨xb, yb, zb, rfl⟩ := rd_slice rb
  obtain ⟨xc, yc, zc, rfl⟩ := rd_slice rc
  obtain ⟨xa, ya, za, rfl⟩ := rd_slice ra
  have ARG : Hid (∀ wx, Below w.heap.size w wx → Rd wx (.slice xb yb zb) bs ∧ Rd wx (.slice xc yc zc) cs ∧ Rd wx (.slice xa ya za) all ∧ Tab wx) := fun wx h => ⟨rb.later h, rc.later h, ra.later h, ht.later h⟩
  have A0 := (Below.refl w.heap.size w).alloc (Nat.le_refl _) (.cells #[.slice none 0 0, .slice none 0 0] 45)
  have KB := Lib.hid (KBox.new w)
  have HA0 := Lib.hid A0
  obtain ⟨LA, hLA⟩ : ∃ L, L = ansL v bs all z := ⟨_, rfl⟩
  obtain ⟨LB, hLB⟩ : ∃ L, L = ansL u cs all z := ⟨_, rfl⟩
  have lla : LA.length = 9 := by rw [hLA]; rfl
  have llb : LB.length = 9 := by rw [hLB]; rfl
  have CW1 : Hid (Calls _ _ _ _ _) := wants_any (z := z) v hv (ARG.out _ A0).1 (ARG.out _ A0).2.2.1 lb la
  have CAN : Hid (∀ wx, Below w.heap.size w wx → Calls Tryd.prog 7 #[.int .u64 (v : Int), .slice xb yb zb, .slice xa ya za, .int .i64 z] wx fun e w' => ∃ u, e = .returned u ∧ Nine w' wx.heap.size u LA ∧ Below wx.heap.size wx w') := fun wx h => by rw [hLA]; exact answers_any v hv (ARG.out _ h).1 (ARG.out _ h).2.2.1 (ARG.out _ h).2.2.2 lb la
  have CBN : Hid (∀ wx, Below w.heap.size w wx → Calls Tryd.prog 7 #[.int .u64 (u : Int), .slice xc yc zc, .slice xa ya za, .int .i64 z] wx fun e w' => ∃ u, e = .returned u ∧ Nine w' wx.heap.size u LB ∧ Below wx.heap.size wx w') := fun wx h => by rw [hLB]; exact answers_any u hu (ARG.out _ h).2.1 (ARG.out _ h).2.2.1 (ARG.out _ h).2.2.2 lc la
  have CW2 : Hid (∀ wx, Below w.heap.size w wx → Calls Tryd.prog 18 #[.int .u64 (u : Int), .slice xc yc zc, .slice xa ya za, .int .i64 z] wx fun e w' => ∃ u, e = .returned u ∧ Nine w' wx.heap.size u LB ∧ Below wx.heap.size wx w') := fun wx h => by rw [hLB]; exact wants_any u hu (ARG.out _ h).2.1 (ARG.out _ h).2.2.1 lc la
  rw [← hLA] at CW1
  clear rb rc ra ht A0 hLA hLB
  have LL := Lib.hid (And.intro lla llb)
  go_enter Tryd.func5, Tryd.ntmps5
  go_wp2_with fail
  refine CW1.out.mono ?_
  rintro r w1 ⟨one, rfl, n1, hb1⟩
  obtain ⟨a1, c1, us1, e1, rw1, pe1⟩ := n1
  rw [lla] at e1 rw1
  subst e1
  have N1 : Hid (Nine w1 (w.heap.size + 1) (.slice a1 9 c1) LA) := ⟨a1, c1, us1, by rw [lla], by rw [lla]; simpa using rw1, by simpa using pe1⟩
  have B1 := Lib.hid (HA0.out.trans (hb1.mono HA0.out.size))
  have KB1 := Lib.hid (KB.out.later hb1)
  have hs1 : w.heap.size + 1 ≤ w1.heap.size := by have := hb1.size; simpa using this
  clear rw1 pe1 hb1 CW1 KB HA0
  have CK : Hid (Calls _ _ _ _ _) := CW2.out w1 B1.out
  go_wp2_with fail
  refine CK.out.mono ?_
  rintro r w2 ⟨two, rfl, n2, hb2⟩
  obtain ⟨a2, c2, us2, e2, rw2, pe2⟩ := n2
  rw [llb] at e2 rw2
  subst e2
  have N2 : Hid (Nine w2 (w.heap.size + 1) (.slice a2 9 c2) LB ∧ Nine w2 (w.heap.size + 1) (.slice a1 9 c1) LA) := ⟨Nine.mono ⟨a2, c2, us2, by rw [llb], by rw [llb]; exact rw2, pe2⟩ hs1, N1.out.later hb2⟩
  have B2 := Lib.hid (B1.out.trans (hb2.mono B1.out.size))
  have KB2 := Lib.hid (KB1.out.later hb2)
  have hs2 : w.heap.size + 1 ≤ w2.heap.size := by have := hb2.size; omega
  clear rw2 pe2 hb2 CK CW2 N1 B1 KB1
  obtain ⟨B, hB⟩ : ∃ B, B = w2.heap.size := ⟨_, rfl⟩
  obtain ⟨g, hg⟩ : ∃ g, g = w.heap.size := ⟨_, rfl⟩
  have TWO : Hid (∀ wx, Ex B g w2 wx → RdP wx (.slice a1 9 c1) LA ∧ RdP wx (.slice a2 9 c2) LB ∧ Below w.heap.size w wx) := fun wx h => by
    rw [hB, hg] at h
    exact ⟨(N2.out.2.ex (by omega) h (Nat.le_refl _)).rdp (by rw [lla]; omega), (N2.out.1.ex (by omega) h (Nat.le_refl _)).rdp (by rw [llb]; omega), B2.out.trans (h.below (by omega))⟩
  have RE : Hid (Ex B g w2 w2 ∧ Bk w2 B g (36 * 0) [] ∧ B ≤ w2.heap.size) := by
    unfold Hid
    rw [hg]
    exact ⟨Ex.of_below (Below.refl _ _), KB2.out.emptyB, by omega⟩
  have hgB : g < B := by omega
  have HG := Lib.hid hg
  have HBB := Lib.hid hB
  clear N2 B2 KB2 hs1 hs2 lla llb hB
  go_wp2
  rw [← hg]
  clear hg
  go_loopw [16, 17, 18, 19, 20, 21, 22] (fun i s17 s18 s19 s20 s21 s22 wr => ∃ t : Nat, t ≤ 3 ∧ i = .int .i64 (t : Int) ∧ ∃ its, Hid (Ex B g w2 wr ∧ Bk wr B g (36 * t) its ∧ B ≤ wr.heap.size)) (fun i _ _ _ _ _ _ _ => 3 - (intOf i).toNat)
  case atStart => exact ⟨0, by omega, rfl, [], RE⟩
  case round =>
    clear RE
    obtain ⟨t, ht3, rfl, its, HR⟩ := hrel
    by_cases hlt : t < 3
    · have hlt2 : (t : Int) < 3 := by omega
      have E2 := Lib.hid HR.out.1
      have BK2 := Lib.hid HR.out.2.1
      have hB2 := HR.out.2.2
      have PE2 : Hid (Pend wr B its []) := Pend.nil _ _ _
      clear HR
      have CK : Hid (Calls _ _ _ _ _) := CAN.out _ (TWO.out _ E2.out).2.2
      go_wp2_with fail
      refine CK.out.mono ?_
      rintro r w3 ⟨vv, rfl, nn, hb⟩
      obtain ⟨axx, cxx, uxx, exx, rxx, pxx⟩ := nn
      rw [LL.out.1] at exx rxx
      subst exx
      have Rxx : Hid (RdP w3 (.slice axx 9 cxx) LA) := Nine.rdp (B := wr.heap.size) ⟨axx, cxx, uxx, by rw [LL.out.1], by rw [LL.out.1]; exact rxx, pxx⟩ (by rw [LL.out.1]; omega)
      have Wxx : Hid (Rw w3 B g axx cxx (uxx.zip LA)) := ⟨by rw [zip_fst (by rw [LL.out.1, ← rxx.1])]; exact rxx.mono hB2, fun x hx => Off.new BK2.out hb (rxx.2.2.lt x hx).1⟩
      have PE3 := Lib.hid (PE2.out.add BK2.out hb pxx hB2)
      have E3 := Lib.hid (E2.out.trans (Ex.of_below (hb.mono hB2)))
      have BK3 := Lib.hid (BK2.out.later hb)
      have hB3 : B ≤ w3.heap.size := Nat.le_trans hB2 hb.size
      clear CK hb rxx pxx PE2 E2 BK2 hB2
      have CK : Hid (Calls _ _ _ _ _) := CAN.out _ (TWO.out _ E3.out).2.2
      go_wp2_with fail
      refine CK.out.mono ?_
      rintro r w4 ⟨vv, rfl, nn, hb⟩
      obtain ⟨aaa, caa, uaa, eaa, raa, paa⟩ := nn
      rw [LL.out.1] at eaa raa
      subst eaa
      have Raa : Hid (RdP w4 (.slice aaa 9 caa) LA) := Nine.rdp (B := w3.heap.size) ⟨aaa, caa, uaa, by rw [LL.out.1], by rw [LL.out.1]; exact raa, paa⟩ (by rw [LL.out.1]; omega)
      have Waa : Hid (Rw w4 B g aaa caa (uaa.zip LA)) := ⟨by rw [zip_fst (by rw [LL.out.1, ← raa.1])]; exact raa.mono hB3, fun x hx => Off.new BK3.out hb (raa.2.2.lt x hx).1⟩
      have PE4 := Lib.hid (PE3.out.add BK3.out hb paa hB3)
      have E4 := Lib.hid (E3.out.trans (Ex.of_below (hb.mono hB3)))
      have BK4 := Lib.hid (BK3.out.later hb)
      have hB4 : B ≤ w4.heap.size := Nat.le_trans hB3 hb.size
      replace Rxx := Lib.hid (Rxx.out.later hb)
      replace Wxx := Lib.hid (Wxx.out.later hb)
      clear CK hb raa paa PE3 E3 BK3 hB3
      have CK : Hid (Calls _ _ _ _ _) := CBN.out _ (TWO.out _ E4.out).2.2
      go_wp2_with fail
      refine CK.out.mono ?_
      rintro r w5 ⟨vv, rfl, nn, hb⟩
      obtain ⟨ayy, cyy, uyy, eyy, ryy, pyy⟩ := nn
      rw [LL.out.2] at eyy ryy
      subst eyy
      have Ryy : Hid (RdP w5 (.slice ayy 9 cyy) LB) := Nine.rdp (B := w4.heap.size) ⟨ayy, cyy, uyy, by rw [LL.out.2], by rw [LL.out.2]; exact ryy, pyy⟩ (by rw [LL.out.2]; omega)
      have Wyy : Hid (Rw w5 B g ayy cyy (uyy.zip LB)) := ⟨by rw [zip_fst (by rw [LL.out.2, ← ryy.1])]; exact ryy.mono hB4, fun x hx => Off.new BK4.out hb (ryy.2.2.lt x hx).1⟩
      have PE5 := Lib.hid (PE4.out.add BK4.out hb pyy hB4)
      have E5 := Lib.hid (E4.out.trans (Ex.of_below (hb.mono hB4)))
      have BK5 := Lib.hid (BK4.out.later hb)
      have hB5 : B ≤ w5.heap.size := Nat.le_trans hB4 hb.size
      replace Rxx := Lib.hid (Rxx.out.later hb)
      replace Wxx := Lib.hid (Wxx.out.later hb)
      replace Raa := Lib.hid (Raa.out.later hb)
      replace Waa := Lib.hid (Waa.out.later hb)
      clear CK hb ryy pyy PE4 E4 BK4 hB4
      have CK : Hid (Calls _ _ _ _ _) := CBN.out _ (TWO.out _ E5.out).2.2
      go_wp2_with fail
      refine CK.out.mono ?_
      rintro r w6 ⟨vv, rfl, nn, hb⟩
      obtain ⟨azz, czz, uzz, ezz, rzz, pzz⟩ := nn
      rw [LL.out.2] at ezz rzz
      subst ezz
      have Rzz : Hid (RdP w6 (.slice azz 9 czz) LB) := Nine.rdp (B := w5.heap.size) ⟨azz, czz, uzz, by rw [LL.out.2], by rw [LL.out.2]; exact rzz, pzz⟩ (by rw [LL.out.2]; omega)
      have Wzz : Hid (Rw w6 B g azz czz (uzz.zip LB)) := ⟨by rw [zip_fst (by rw [LL.out.2, ← rzz.1])]; exact rzz.mono hB5, fun x hx => Off.new BK5.out hb (rzz.2.2.lt x hx).1⟩
      have PE6 := Lib.hid (PE5.out.add BK5.out hb pzz hB5)
      have E6 := Lib.hid (E5.out.trans (Ex.of_below (hb.mono hB5)))
      have BK6 := Lib.hid (BK5.out.later hb)
      have hB6 : B ≤ w6.heap.size := Nat.le_trans hB5 hb.size
      replace Rxx := Lib.hid (Rxx.out.later hb)
      replace Wxx := Lib.hid (Wxx.out.later hb)
      replace Raa := Lib.hid (Raa.out.later hb)
      replace Waa := Lib.hid (Waa.out.later hb)
      replace Ryy := Lib.hid (Ryy.out.later hb)
      replace Wyy := Lib.hid (Wyy.out.later hb)
      clear CK hb rzz pzz PE5 E5 BK5 hB5
      have CK : Hid (Calls _ _ _ _ _) := sameAll_any Rxx.out (TWO.out _ E6.out).1 (by rw [LL.out.1]; omega)
      go_wp2_with fail
      refine CK.out.mono ?_
      rintro r w7 ⟨rfl, hb⟩
      have PE7 := Lib.hid (PE6.out.later hb)
      have E7 := Lib.hid (E6.out.trans (Ex.of_below (hb.mono hB6)))
      have BK7 := Lib.hid (BK6.out.later hb)
      have hB7 : B ≤ w7.heap.size := Nat.le_trans hB6 hb.size
      replace Wxx := Lib.hid (Wxx.out.later hb)
      replace Waa := Lib.hid (Waa.out.later hb)
      replace Wyy := Lib.hid (Wyy.out.later hb)
      replace Wzz := Lib.hid (Wzz.out.later hb)
      replace Raa := Lib.hid (Raa.out.later hb)
      replace Ryy := Lib.hid (Ryy.out.later hb)
      replace Rzz := Lib.hid (Rzz.out.later hb)
      clear CK hb Rxx PE6 E6 BK6 hB6
      have CK : Hid (Calls _ _ _ _ _) := sameAll_any Raa.out (TWO.out _ E7.out).1 (by rw [LL.out.1]; omega)
      go_wp2_with fail
      refine CK.out.mono ?_
      rintro r w8 ⟨rfl, hb⟩
      have PE8 := Lib.hid (PE7.out.later hb)
      have E8 := Lib.hid (E7.out.trans (Ex.of_below (hb.mono hB7)))
      have BK8 := Lib.hid (BK7.out.later hb)
      have hB8 : B ≤ w8.heap.size := Nat.le_trans hB7 hb.size
      replace Wxx := Lib.hid (Wxx.out.later hb)
      replace Waa := Lib.hid (Waa.out.later hb)
      replace Wyy := Lib.hid (Wyy.out.later hb)
      replace Wzz := Lib.hid (Wzz.out.later hb)
      replace Ryy := Lib.hid (Ryy.out.later hb)
      replace Rzz := Lib.hid (Rzz.out.later hb)
      clear CK hb Raa PE7 E7 BK7 hB7
      have CK : Hid (Calls _ _ _ _ _) := sameAll_any Ryy.out (TWO.out _ E8.out).2.1 (by rw [LL.out.2]; omega)
      go_wp2_with fail
      refine CK.out.mono ?_
      rintro r w9 ⟨rfl, hb⟩
      have PE9 := Lib.hid (PE8.out.later hb)
      have E9 := Lib.hid (E8.out.trans (Ex.of_below (hb.mono hB8)))
      have BK9 := Lib.hid (BK8.out.later hb)
      have hB9 : B ≤ w9.heap.size := Nat.le_trans hB8 hb.size
      replace Wxx := Lib.hid (Wxx.out.later hb)
      replace Waa := Lib.hid (Waa.out.later hb)
      replace Wyy := Lib.hid (Wyy.out.later hb)
      replace Wzz := Lib.hid (Wzz.out.later hb)
      replace Rzz := Lib.hid (Rzz.out.later hb)
      clear CK hb Ryy PE8 E8 BK8 hB8
      have CK : Hid (Calls _ _ _ _ _) := sameAll_any Rzz.out (TWO.out _ E9.out).2.1 (by rw [LL.out.2]; omega)
      go_wp2_with fail
      refine CK.out.mono ?_
      rintro r w10 ⟨rfl, hb⟩
      have PE10 := Lib.hid (PE9.out.later hb)
      have E10 := Lib.hid (E9.out.trans (Ex.of_below (hb.mono hB9)))
      have BK10 := Lib.hid (BK9.out.later hb)
      have hB10 : B ≤ w10.heap.size := Nat.le_trans hB9 hb.size
      replace Wxx := Lib.hid (Wxx.out.later hb)
      replace Waa := Lib.hid (Waa.out.later hb)
      replace Wyy := Lib.hid (Wyy.out.later hb)
      replace Wzz := Lib.hid (Wzz.out.later hb)
      clear CK hb Rzz PE9 E9 BK9 hB9
      obtain ⟨X, hX⟩ : ∃ X, X = uxx.zip LA := ⟨_, rfl⟩
      obtain ⟨A, hA⟩ : ∃ X, X = uaa.zip LA := ⟨_, rfl⟩
      obtain ⟨Y, hY⟩ : ∃ X, X = uyy.zip LB := ⟨_, rfl⟩
      obtain ⟨Z, hZ⟩ : ∃ X, X = uzz.zip LB := ⟨_, rfl⟩
      rw [← hX] at Wxx PE10
      rw [← hA] at Waa PE10
      rw [← hY] at Wyy PE10
      rw [← hZ] at Wzz PE10
      clear hX hA hY hZ
      have XL : Hid (X.length = 9 ∧ A.length = 9 ∧ Y.length = 9 ∧ Z.length = 9) := ⟨by have := Wxx.out.1.1; simpa using this.symm, by have := Waa.out.1.1; simpa using this.symm, by have := Wyy.out.1.1; simpa using this.symm, by have := Wzz.out.1.1; simpa using this.symm⟩
      have LS0 : Hid (Ls w2 w10 B g (36 * t + 2 * 0) (its ++ []) (X.drop 0 ++ (A.drop 0 ++ (Y ++ Z))) axx cxx X aaa caa A ayy cyy Y azz czz Z) := ⟨E10.out, by simpa using BK10.out, by simpa [List.append_assoc] using PE10.out, Wxx.out, Waa.out, Wyy.out, Wzz.out, hB10⟩
      clear E10 BK10 PE10 Wxx Waa Wyy Wzz hB10
      go_wp2
      go_loopw [21] (fun c wr => ∃ j : Nat, j ≤ 9 ∧ c = .int .i64 (j : Int) ∧ ∃ nw, Hid (Ls w2 wr B g (36 * t + 2 * j) (its ++ nw) (X.drop j ++ (A.drop j ++ (Y ++ Z))) axx cxx X aaa caa A ayy cyy Y azz czz Z)) (fun c _ => 9 - (intOf c).toNat)
      case atStart => exact ⟨0, by omega, rfl, [], LS0⟩
      case round =>
        clear LS0
        obtain ⟨j, hj, rfl, nw, HL⟩ := hrel
        by_cases hlj : j < 9
        · have hlj2 : (j : Int) < 9 := by omega
          have hj0 : (0 : Int) ≤ (j : Int) := by omega
          obtain ⟨gx, p, hax, hp, cp⟩ := HL.out.rx.cell hlj
          obtain ⟨ap, cc, ep⟩ := own_form (HL.out.pe.own p (List.mem_append_left _ (by rw [drop_at hp]; exact List.mem_cons_self))).1.2
          obtain ⟨pv, pl⟩ := p
          simp only at ep cp
          subst ep
          have PE1 : Pend wr B (its ++ nw) ((.slice ap pl.length cc, pl) :: (X.drop (j + 1) ++ (A.drop j ++ (Y ++ Z)))) := by have h := HL.out.pe; rw [drop_at hp] at h; exact h
          have CK : Hid (Calls _ _ _ _ _) := keep_pend HL.out.bk PE1 (by omega) HL.out.hB
          subst hax
          clear PE1 hp
          go_wp2_with fail
          refine CK.out.mono ?_
          rintro r wk ⟨rfl, js, ejs, bk, pe, exk, T, fo⟩
          have HL1 := Lib.hid (HL.out.kept exk fo bk pe)
          clear CK HL exk fo bk pe T ejs cp
          obtain ⟨gy, p2, hay, hp2, cp2⟩ := HL1.out.ra.cell hlj
          have PE2 : Pend wk B (its ++ nw ++ js) (p2 :: (X.drop (j + 1) ++ (A.drop (j + 1) ++ (Y ++ Z)))) := by
            have h := HL1.out.pe
            rw [drop_at hp2] at h
            exact h.perm List.perm_middle
          obtain ⟨ap2, cc2, ep2⟩ := own_form (PE2.own p2 List.mem_cons_self).1.2
          obtain ⟨pv2, pl2⟩ := p2
          simp only at ep2 cp2
          subst ep2
          have CK : Hid (Calls _ _ _ _ _) := keep_pend HL1.out.bk PE2 (by omega) HL1.out.hB
          subst hay
          clear PE2 hp2
          go_wp2_with fail
          refine CK.out.mono ?_
          rintro r wk2 ⟨rfl, js2, ejs, bk, pe, exk, T, fo⟩
          have HL2 := Lib.hid (HL1.out.kept exk fo bk pe)
          clear CK HL1 exk fo bk pe T ejs cp2
          go_wp2
          go_roundw
          case rel =>
            refine ⟨j + 1, by omega, by go_num, nw ++ (js ++ js2), ?_⟩
            have e : 36 * t + 2 * (j + 1) = 36 * t + 2 * j + 1 + 1 := by omega
            have h := HL2.out
            unfold Hid
            rw [e]
            simpa [List.append_assoc] using h
          case measure => simp [intOf]; omega
        · have hgj : (9 : Int) ≤ (j : Int) := by omega
          have HJ21 : Hid (j = 9) := by unfold Hid; omega
          have HLE := Lib.hid HL.out
          rw [HJ21.out] at HLE
          clear HL
          obtain ⟨its2, hits2⟩ : ∃ l, l = its ++ nw := ⟨_, rfl⟩
          obtain ⟨nb, hnb⟩ : ∃ nb, nb = 36 * t + 2 * 9 := ⟨_, rfl⟩
          have LS0 : Hid (Ls w2 wr B g (nb + 2 * 0) (its2 ++ []) (Y.drop 0 ++ (Z.drop 0 ++ [])) axx cxx X aaa caa A ayy cyy Y azz czz Z) := by
            have h := HLE.out
            unfold Hid
            rw [List.drop_of_length_le (by rw [XL.out.1]; omega), List.drop_of_length_le (by rw [XL.out.2.1]; omega), ← hits2, ← hnb] at h
            simpa using h
          have hnb2 : nb ≤ 100 := by omega
          have HNB := Lib.hid hnb
          clear HLE hits2 hnb
          go_wp2
          go_loopw [22] (fun c wr => ∃ j : Nat, j ≤ 9 ∧ c = .int .i64 (j : Int) ∧ ∃ nw, Hid (Ls w2 wr B g (nb + 2 * j) (its2 ++ nw) (Y.drop j ++ (Z.drop j ++ ([] : List (Value × List Nat)))) axx cxx X aaa caa A ayy cyy Y azz czz Z)) (fun c _ => 9 - (intOf c).toNat)
          case atStart => exact ⟨0, by omega, rfl, [], LS0⟩
          case round =>
            clear LS0
            obtain ⟨j, hj, rfl, nw, HL⟩ := hrel
            by_cases hlj : j < 9
            · have hlj2 : (j : Int) < 9 := by omega
              have hj0 : (0 : Int) ≤ (j : Int) := by omega
              obtain ⟨gx, p, hax, hp, cp⟩ := HL.out.ry.cell hlj
              obtain ⟨ap, cc, ep⟩ := own_form (HL.out.pe.own p (List.mem_append_left _ (by rw [drop_at hp]; exact List.mem_cons_self))).1.2
              obtain ⟨pv, pl⟩ := p
              simp only at ep cp
              subst ep
              have PE1 : Pend wr B (its2 ++ nw) ((.slice ap pl.length cc, pl) :: (Y.drop (j + 1) ++ (Z.drop j ++ ([] : List (Value × List Nat))))) := by have h := HL.out.pe; rw [drop_at hp] at h; exact h
              have CK : Hid (Calls _ _ _ _ _) := keep_pend HL.out.bk PE1 (by omega) HL.out.hB
              subst hax
              clear PE1 hp
              go_wp2_with fail
              refine CK.out.mono ?_
              rintro r wk ⟨rfl, js, ejs, bk, pe, exk, T, fo⟩
              have HL1 := Lib.hid (HL.out.kept exk fo bk pe)
              clear CK HL exk fo bk pe T ejs cp
              obtain ⟨gy, p2, hay, hp2, cp2⟩ := HL1.out.rz.cell hlj
              have PE2 : Pend wk B (its2 ++ nw ++ js) (p2 :: (Y.drop (j + 1) ++ (Z.drop (j + 1) ++ ([] : List (Value × List Nat))))) := by
                have h := HL1.out.pe
                rw [drop_at hp2] at h
                exact h.perm List.perm_middle
              obtain ⟨ap2, cc2, ep2⟩ := own_form (PE2.own p2 List.mem_cons_self).1.2
              obtain ⟨pv2, pl2⟩ := p2
              simp only at ep2 cp2
              subst ep2
              have CK : Hid (Calls _ _ _ _ _) := keep_pend HL1.out.bk PE2 (by omega) HL1.out.hB
              subst hay
              clear PE2 hp2
              go_wp2_with fail
              refine CK.out.mono ?_
              rintro r wk2 ⟨rfl, js2, ejs, bk, pe, exk, T, fo⟩
              have HL2 := Lib.hid (HL1.out.kept exk fo bk pe)
              clear CK HL1 exk fo bk pe T ejs cp2
              go_wp2
              go_roundw
              case rel =>
                refine ⟨j + 1, by omega, by go_num, nw ++ (js ++ js2), ?_⟩
                have e : nb + 2 * (j + 1) = nb + 2 * j + 1 + 1 := by omega
                have h := HL2.out
                unfold Hid
                rw [e]
                simpa [List.append_assoc] using h
              case measure => simp [intOf]; omega
            · have hgj : (9 : Int) ≤ (j : Int) := by omega
              have HJ22 : Hid (j = 9) := by unfold Hid; omega
              have HLE := Lib.hid HL.out
              rw [HJ22.out] at HLE
              clear HL
              have HN : Hid (Ex B g w2 wr ∧ Bk wr B g (36 * (t + 1)) (its2 ++ nw) ∧ B ≤ wr.heap.size) := by
                have e : 36 * (t + 1) = nb + 2 * 9 := by have := HNB.out; omega
                unfold Hid
                rw [e]
                exact ⟨HLE.out.ex, HLE.out.bk, HLE.out.hB⟩
              clear HLE
              go_wp2
              go_roundw
              case rel => exact ⟨t + 1, by omega, by go_num, _, HN⟩
              case measure => simp [intOf]; omega
    · have hge : (3 : Int) ≤ (t : Int) := by omega
      obtain rfl : t = 3 := by omega
      have CK : Hid (Calls _ _ _ _ _) := settle_any (w0 := wr) (w := wr) HR.out.2.1 (Below.refl _ _) (by omega) HR.out.2.2
      go_wp2_with fail
      refine CK.out.mono ?_
      rintro r w3 ⟨rfl, bel, fr, _⟩
      have E3 := Lib.hid (HR.out.1.trans (Ex.of_below bel))
      clear CK bel fr HR
      have CK : Hid (Calls _ _ _ _ _) := CAN.out _ (TWO.out _ E3.out).2.2
      go_wp2_with fail
      refine CK.out.mono ?_
      rintro r w4 ⟨vv, rfl, nn, hb⟩
      obtain ⟨axx, cxx, uxx, exx, rxx, pxx⟩ := nn
      rw [LL.out.1] at exx rxx
      subst exx
      have Rxx : Hid (RdP w4 (.slice axx 9 cxx) LA) := Nine.rdp (B := w3.heap.size) ⟨axx, cxx, uxx, by rw [LL.out.1], by rw [LL.out.1]; exact rxx, pxx⟩ (by rw [LL.out.1]; omega)
      have hB3 : B ≤ w3.heap.size := by have := E3.out.size; have := HBB.out; omega
      have E4 := Lib.hid (E3.out.trans (Ex.of_below (hb.mono hB3)))
      clear CK hb rxx pxx E3
      have CK : Hid (Calls _ _ _ _ _) := sameAll_any Rxx.out (TWO.out _ E4.out).1 (by rw [LL.out.1]; omega)
      go_wp2_with fail
      refine CK.out.mono ?_
      rintro r w5 ⟨rfl, hb⟩
      have hB4 : B ≤ w4.heap.size := by have := E4.out.size; have := HBB.out; omega
      have E5 := Lib.hid (E4.out.trans (Ex.of_below (hb.mono hB4)))
      clear CK hb E4
      have CK : Hid (Calls _ _ _ _ _) := started_any (ARG.out _ (TWO.out _ E5.out).2.2).2.2.2
      go_wp2_with fail
      refine CK.out.mono ?_
      rintro r w6 ⟨rfl, hb⟩
      have FIN := Lib.hid ((TWO.out _ E5.out).2.2.trans (hb.mono (TWO.out _ E5.out).2.2.size))
      clear CK hb E5
      go_wp2
      go_ret
      exact ⟨rfl, FIN.out⟩

end Go.Proofs.YtledfniedoapiaaDoor

namespace Go.Proofs.YtledfniedoapiaaDoor
open Go.ChangeShapes Go.WideShapes Go.ChangeAt Go.RowKit
set_option linter.unusedVariables false

theorem own_knob : ownKnob Tryd.prog.godebug = none := by kernel_rfl
theorem laid_out : laidOutB Tryd.prog = true := by kernel_rfl
theorem g_tab : Tryd.prog.globalNamed "strata/wire.halves" = some 0 := by kernel_rfl
theorem g_tab_type : (Tryd.prog.globals[0]?).map (·.type) = some 93 := by kernel_rfl
theorem und_tab : Tryd.prog.underlying 93 = some (.array 16 77) := by kernel_rfl
theorem und_u32 : Tryd.prog.underlying 77 = some (.int .u32) := by kernel_rfl
theorem und_int : Tryd.prog.underlying 3 = some (.int .i64) := by kernel_rfl
theorem und_u64 : Tryd.prog.underlying 22 = some (.int .u64) := by kernel_rfl
theorem und_bool : Tryd.prog.underlying 4 = some .bool := by kernel_rfl
theorem cells_tab : Tryd.prog.cellsOf 93 = 16 := by kernel_rfl
theorem cells_u32 : Tryd.prog.cellsOf 77 = 1 := by kernel_rfl
theorem cells_byte : Tryd.prog.cellsOf 5 = 1 := by kernel_rfl
theorem cells_bytes : Tryd.prog.cellsOf 23 = 1 := by kernel_rfl

/-- What the list of a row gives: the table lies in memory. -/
theorem tab_of {W : World} (h : laidMetH Tryd.prog Rows.wireOwnRow.laid W) : Tab W := by
  have t : Lib.TabIs Tryd.prog W "strata/wire.halves" .u32 [0, 274646895, 549293790, 820201905, 1098587580, 1361435347, 1640403810, 1905808397, 2197175160, 2460548119, 2722870694, 2987750089, 3280807620, 3553878443, 3811616794, 4084100981] :=
    Lib.tabIs_of_head (rest := []) g_tab g_tab_type und_tab und_u32 cells_u32 cells_tab h
  intro i hi
  have := t.cell g_tab i (by simpa using hi)
  rw [this]
  have key : ∀ j, j < 16 → ([0, 274646895, 549293790, 820201905, 1098587580, 1361435347, 1640403810, 1905808397, 2197175160, 2460548119, 2722870694, 2987750089, 3280807620, 3553878443, 3811616794, 4084100981] : List Int).getD j 0 = ((tab.getD j 0 : Nat) : Int) := by decide
  rw [key i hi]

theorem bulk_pos {H : Type} (d : DataW H) : 1 ≤ Rows.uptoBulk d := by
  cases d with
  | lit l => cases l <;> simp [Rows.uptoBulk]
  | nil => simp [Rows.uptoBulk]
  | ptr d => simp [Rows.uptoBulk]
  | slice elems spare => simp [Rows.uptoBulk]
  | agg parts => simp [Rows.uptoBulk]
  | iface t d => simp [Rows.uptoBulk]
  | map entries => simp [Rows.uptoBulk]
  | held h => simp [Rows.uptoBulk]
theorem bulk_len {H : Type} (l : List (DataW H)) : l.length ≤ Rows.uptoBulkAll l := by
  induction l with
  | nil => simp [Rows.uptoBulkAll]
  | cons x r ih => have := bulk_pos x; simp only [Rows.uptoBulkAll, List.length_cons]; omega

/-- A slice of bytes that came in. -/
theorem open_bytes {H : Type} {enc : TypeId × Value → H} {W : World} {v : Value} {d : DataW H} {p : List MemPlace} {base : Nat} {held : Bool} (h : DataW.Trod enc Tryd.prog W base (fun _ => true) held 23 v d p) (hs : ∃ a n c, v = .slice a n c) :
    ∃ bs : List Nat, (bs.length ≤ 281474976710656 → Rd W v bs) ∧ bs.length + 1 ≤ Rows.uptoBulk d ∧ (bs = [] ∨ ∃ elems spare, d = .slice elems spare ∧ elems.length = bs.length) := by
  obtain ⟨a, n, c, rfl⟩ := hs
  obtain ⟨fuel, hf⟩ := h
  rcases open_ints und_bytes und_byte cells_byte hf with ⟨hcs, hx⟩ | ⟨x, l, c', zs, hcs, _, hl, hm, hz, hx, hcell, hwz⟩
  · simp [Value.cells] at hcs
    obtain ⟨rfl, rfl, rfl⟩ := hcs
    refine ⟨[], fun _ => Rd.nil W, ?_, .inl rfl⟩
    have := bulk_pos d
    simpa using this
  · simp [Value.cells] at hcs
    obtain ⟨rfl, rfl, rfl⟩ := hcs
    simp only [if_true] at hz
    simp only [Prod.mk.injEq] at hx
    obtain ⟨rfl, _⟩ := hx
    have hby : ∀ i, i < zs.length → 0 ≤ zs.getD i 0 ∧ zs.getD i 0 < 256 := by
      intro i hi
      have hmem : zs.getD i 0 ∈ zs := by simp [List.getD, List.getElem?_eq_getElem hi]
      have := bounds_u8 (hwz _ hmem)
      omega
    refine ⟨(zs.take n).map Int.toNat, fun hlen => ⟨?_, some x, c, ?_, ?_, hm, hlen, ?_, ?_⟩, ?_, .inr ⟨_, _, rfl, by simp [lits]⟩⟩
    · intro y hy
      simp only [List.mem_map] at hy
      obtain ⟨z, hz1, rfl⟩ := hy
      have := bounds_u8 (hwz z (List.mem_of_mem_take hz1))
      omega
    · simp; omega
    · simp; omega
    · by_cases hc0 : c = 0
      · exact .inl hc0
      · right
        obtain ⟨b, off, spot⟩ := x
        have hc := hcell 0 (by omega)
        have hspot : spot = none := by simpa [Addr.add] using World.cell?_spot hc
        subst hspot
        exact ⟨b, off, rfl⟩
    · by_cases hn0 : n = 0
      · left; simp [hn0]
      · right
        obtain ⟨b, off, spot⟩ := x
        have hc := hcell 0 (by omega)
        have hspot : spot = none := by simpa [Addr.add] using World.cell?_spot hc
        subst hspot
        refine ⟨b, off, rfl, fun i hi => ?_⟩
        have hin : i < n := by simp at hi; omega
        have hc := hcell i (by omega)
        have e : (⟨b, off, none⟩ : Addr).add i = ⟨b, off + i, none⟩ := by unfold Addr.add; split <;> simp_all
        rw [e] at hc
        rw [hc]
        have hb := hby i (by omega)
        have e2 : ((zs.take n).map Int.toNat).getD i 0 = (zs.getD i 0).toNat := by
          simp [List.getElem?_take_of_lt hin, List.getElem?_eq_getElem (show i < zs.length by omega)]
        rw [e2, Int.toNat_of_nonneg hb.1]
    · have h1 := bulk_len (H := H) (lits .u8 (zs.take n))
      simp only [Rows.uptoBulk]
      simp [lits] at h1 ⊢
      omega

/-- What the reach gives of a slice of bytes. -/
theorem reach_bytes {H : Type} {ts : List TypeId} {ds gs : List (DataW H)} (h : (DataW.weightsEach Tryd.prog ts (ds ++ gs)).all (fun x => decide (x ≤ reachBytes)) = true) (j : Nat) (ht : ts[j]? = some 23) {d : DataW H} (hd : ds[j]? = some d) {bs : List Nat} (hx : bs = [] ∨ ∃ elems spare, d = .slice elems spare ∧ elems.length = bs.length) : bs.length ≤ 140737488351232 := by
  rcases hx with rfl | ⟨elems, spare, rfl, hl⟩
  · simp
  · have hd2 : (ds ++ gs)[j]? = some (.slice elems spare) := by
      rw [List.getElem?_append_left (List.getElem?_eq_some_iff.1 hd).1]
      exact hd
    have := sized_slice h ht hd2 und_bytes
    rw [show Tryd.prog.bytesOf 5 = 1 by kernel_rfl] at this
    unfold reachBytes at this
    omega

end Go.Proofs.YtledfniedoapiaaDoor

namespace Go.Proofs.YtledfniedoapiaaDoor
open Go.RowKit
set_option linter.unusedVariables false

theorem wireLent_walk2 (x y z : Int) {vb vc va : Value} {bs cs all : List Nat} {w : World} (wx : (Lit.int .u64 x).wf = true) (wy : (Lit.int .u64 y).wf = true) (hb : Rd w vb bs) (hc : Rd w vc cs) (ha : Rd w va all) (ht : Tab w) (lb : bs.length ≤ 1048576) (lc : cs.length ≤ 1048576) (la : all.length ≤ 1048576) :
    Calls Tryd.prog 5 #[.int .u64 x, vb, .int .u64 y, vc, va, .int .i64 z] w fun e w' => e = .returned (.bool true) ∧ Below w.heap.size w w' := by
  have h2 := bounds_u64 wx
  have h3 := bounds_u64 wy
  obtain ⟨s, rfl⟩ := Int.eq_ofNat_of_zero_le h2.1
  obtain ⟨t, rfl⟩ := Int.eq_ofNat_of_zero_le h3.1
  exact wireLent_walk (by omega) (by omega) hb hc ha ht lb lc la

end Go.Proofs.YtledfniedoapiaaDoor
