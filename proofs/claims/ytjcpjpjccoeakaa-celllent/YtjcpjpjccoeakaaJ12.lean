import Derived.Test.YtjcpjpjccoeakaaJ11
import Derived.Lib.Hide
import Derived.Test.YtjcpjpjccoeakaaJ10
import Derived.Deep.QuietTactic
import Derived.BigQuiet
import Derived.Test.YtjcpjpjccoeakaaJ08
import Derived.Test.YtjcpjpjccoeakaaJ02
namespace Go.Proofs.Ytjcpjpjccoeakaa
open Go.RowKit
set_option linter.unusedVariables false

/-- Where a list that was made since w may lie: where l lay, or in new memory. -/
def Near (w : World) (l u : Value) : Prop := u.ownBlock = l.ownBlock ∨ ∀ g, u.ownBlock = some g → w.heap.size ≤ g
theorem Near.on {w w' : World} {l u v : Value} (h : Near w l u) (k : v.ownBlock = u.ownBlock ∨ ∀ g, v.ownBlock = some g → w'.heap.size ≤ g) (hs : w.heap.size ≤ w'.heap.size) : Near w l v := by
  rcases k with k | k
  · rcases h with h | h
    · exact .inl (k.trans h)
    · exact .inr fun g hg => h g (by rw [← k]; exact hg)
  · exact .inr fun g hg => Nat.le_trans hs (k g hg)
theorem Near.grow {w : World} {l u : Value} (h : Near w l u) : u.ownBlock = l.ownBlock ∨ ∀ g, u.ownBlock = some g → w.heap.size ≤ g := h

/-- A list of lists that hold a mark alone. -/
def Marked (w w' : World) (l : Value) (G mk : Nat) : Prop := w.heap.size ≤ G ∧ ∀ i, i < 4 → ∃ ai ki ci, w'.cell? ⟨G, i, none⟩ = some (.slice ai ki ci) ∧ Rd w' (.slice ai ki ci) (List.replicate ki mk) ∧ Near w l (.slice ai ki ci)

theorem bv_at (L : List Nat) (t : Nat) (h : t < L.length) : (bv L)[t]? = some (.int .u8 ((L.getD t 0 : Nat) : Int)) := by
  simp [bv, List.getD, List.getElem?_eq_getElem h]
theorem fill_set {mk t : Nat} {xs : List Nat} (h : t < xs.length) : (List.replicate t mk ++ xs.drop t).set t mk = List.replicate (t + 1) mk ++ xs.drop (t + 1) := by
  rw [List.set_append_right _ _ (by simp), drop_cons xs t h]
  simp [List.replicate_succ']

set_option maxRecDepth 100000 in
set_option maxHeartbeats 4000000 in
theorem longer_any {a : Option Addr} {n c B mk : Nat} {xs : List Nat} {w : World} (hown : Own w B (.slice a n c) n xs) (hmk : mk < 256) (hn : n ≤ 10000) (hB : B ≤ w.heap.size) :
    Calls Try.prog 38 #[.slice a n c, .int .u8 (mk : Int)] w fun e w' => ∃ G, e = .returned (.slice (some ⟨G, 0, none⟩) 4 4) ∧ Marked w w' (.slice a n c) G mk ∧ w.grownBy w' (Value.slice a n c).ownBlock := by
  have hx : xs.length = n := hown.1.symm
  have HX : Hid (xs.length = n) := hx
  clear hx
  have HO : Hid (Own w B (.slice a n c) n xs) := hown
  clear hown
  go_enter Try.func38, Try.ntmps38
  go_wp2
  go_loopw [5] (fun i wr => ∃ t : Nat, t ≤ n ∧ i = .int .i64 (t : Int) ∧ Own wr B (.slice a n c) n (List.replicate t mk ++ xs.drop t) ∧ w.grownBy wr (Value.slice a n c).ownBlock) (fun i _ => n - (intOf i).toNat)
  case atStart => exact ⟨0, Nat.zero_le _, rfl, by simpa using HO.out, World.grownBy.refl _ _⟩
  case round =>
    obtain ⟨t, htn, rfl, ownk, hgr⟩ := hrel
    by_cases hlt : t < n
    · have hlt2 : (t : Int) < (n : Int) := by omega
      have ht0 : (0 : Int) ≤ (t : Int) := by omega
      obtain ⟨g, rfl⟩ : ∃ g, a = some ⟨g, 0, none⟩ := by
        rcases ownk.2.2 with ⟨h1, h2⟩ | ⟨g, cap, cur, h1, _⟩
        · omega
        · simp only [Value.slice.injEq] at h1
          exact ⟨g, h1.1⟩
      have hfz := ownk.2.frozenAt t
      have hcell : ∃ y : Nat, wr.cell? ⟨g, t, none⟩ = some (.int .u8 (y : Int)) := by
        refine ⟨(List.replicate t mk ++ xs.drop t).getD t 0, ?_⟩
        rw [ownk.2.cellAt t (by omega)]
        have hl : t < (List.replicate t mk ++ xs.drop t).length := by simp; have := HX.out; omega
        exact bv_at _ _ hl
      obtain ⟨y, hcell⟩ := hcell
      have HOWN : Hid (Own wr B (.slice (some ⟨g, 0, none⟩) n c) n (List.replicate t mk ++ xs.drop t) ∧ w.grownBy wr (Value.slice (some ⟨g, 0, none⟩) n c).ownBlock) := ⟨ownk, hgr⟩
      clear ownk hgr
      go_wp2
      go_roundw
      case rel =>
        have st := HOWN.out.1.2.stored t (.int .u8 (mk : Int))
        refine ⟨t + 1, by omega, by go_num, ⟨by simp; have := HX.out; omega, ?_⟩, grown_trans HOWN.out.2 st.2 (.inl rfl)⟩
        have e : bv (List.replicate (t + 1) mk ++ xs.drop (t + 1)) = (bv (List.replicate t mk ++ xs.drop t)).set t (.int .u8 (mk : Int)) := by
          rw [← fill_set (by rw [HX.out]; exact hlt)]
          simp [bv, List.map_set]
        rw [e]
        exact st.1
      case measure => simp [intOf]; omega
    · have hge : (n : Int) ≤ (t : Int) := by omega
      obtain rfl : t = n := by omega
      have e : List.replicate t mk ++ xs.drop t = List.replicate t mk := by rw [List.drop_of_length_le (by rw [HX.out]; omega), List.append_nil]
      rw [e] at ownk
      have hBr : B ≤ wr.heap.size := Nat.le_trans hB hgr.size
      clear e
      go_wp2_with (at_builtin; refine wpList_append_mark rfl _ _ rfl B a t c mk _ rfl ownk [_] 1 rfl rfl (by decide) (by omega) hBr ?_; intro a1 m1 c1 w1 hm1 own1 gr1 ol1 nr1 kp1; refine Hid.out ?_)
      refine Lib.hid ?_
      rw [List.replicate_append_replicate] at own1
      have gw1 := grown_trans hgr gr1 (.inl rfl)
      have hB1 : B ≤ w1.heap.size := Nat.le_trans hBr gr1.size
      have HM1 := hm1
      clear hm1
      go_wp2_with (at_builtin; refine wpList_append_mark rfl _ _ rfl B a t c mk _ rfl ol1 [_, _] 2 rfl rfl (by decide) (by omega) hB1 ?_; intro a2 m2 c2 w2 hm2 own2 gr2 ol2 nr2 kp2; refine Hid.out ?_)
      refine Lib.hid ?_
      rw [List.replicate_append_replicate] at own2
      have gw2 := grown_trans gw1 gr2 (.inl rfl)
      have hB2 : B ≤ w2.heap.size := Nat.le_trans hB1 gr2.size
      have HM2 := hm2
      clear hm2
      go_wp2_with (at_builtin; refine wpList_append_mark rfl _ _ rfl B a t c mk _ rfl ol2 [_] 1 rfl rfl (by decide) (by omega) hB2 ?_; intro a3 m3 c3 w3 hm3 own3 gr3 ol3 nr3 kp3; refine Hid.out ?_)
      refine Lib.hid ?_
      rw [List.replicate_append_replicate] at own3
      have gw3 := grown_trans gw2 gr3 (.inl rfl)
      have hB3 : B ≤ w3.heap.size := Nat.le_trans hB2 gr3.size
      have HM3 := hm3
      clear hm3
      have R0 : Hid (Rd w3 (.slice a t c) (List.replicate t mk)) := ol3.rd (rep_bys _ _ hmk) (by omega)
      have R1 : Hid (Rd w3 (.slice a1 m1 c1) (List.replicate m1 mk)) := by
        have r := own1.rd (rep_bys _ _ hmk) (by have := HM1.out; omega)
        rw [← HM1.out] at r
        exact (kp2.trans kp3).rd r
      have R2 : Hid (Rd w3 (.slice a2 m2 c2) (List.replicate m2 mk)) := by
        have r := own2.rd (rep_bys _ _ hmk) (by have := HM2.out; omega)
        rw [← HM2.out] at r
        exact kp3.rd r
      have N1 : Hid (Near w (.slice a t c) (.slice a1 m1 c1)) := Near.on (.inl rfl) nr1 hgr.size
      have N2 : Hid (Near w (.slice a t c) (.slice a2 m2 c2)) := Near.on (.inl rfl) nr2 gw1.size
      have N3 : Near w (.slice a t c) (.slice a3 m3 c3) := Near.on (.inl rfl) nr3 gw2.size
      clear own1 own2 gr1 gr2 gr3 ol1 ol2 ol3 nr1 nr2 nr3 kp1 kp2 kp3 gw1 gw2 hB1 hB2 hBr ownk hgr
      go_wp2
      go_loopw [8, 9] (fun s i wr2 => ∃ q a' m c', q ≤ 100 ∧ i = .int .i64 ((q : Nat) : Int) ∧ s = .slice a' m c' ∧ Own wr2 B (.slice a' m c') m (List.replicate (t + 1 + q) mk) ∧ Near w (.slice a t c) (.slice a' m c') ∧ Keeps mk w3 wr2 ∧ w.grownBy wr2 (Value.slice a t c).ownBlock ∧ B ≤ wr2.heap.size) (fun _ i _ => 100 - (intOf i).toNat)
      case atStart => exact ⟨0, a3, m3, c3, by omega, rfl, rfl, own3, N3, Keeps.refl _ _, gw3, hB3⟩
      case round =>
        obtain ⟨q, a4, m4, c4, hq, rfl, rfl, own4, N4, K4, gw4, hB4⟩ := hrel
        have hm4 : Hid (m4 = t + 1 + q) := by unfold Hid; rw [own4.1]; simp
        have hm4b : m4 ≤ 10200 := by have := hm4.out; omega
        by_cases hlt2 : q < 100
        · have hlt3 : (q : Int) < 100 := by omega
          have HH : Hid (_ ∧ _ ∧ _) := ⟨N4, K4, gw4⟩
          clear N4 K4 gw4
          go_wp2_with (at_builtin; refine wpList_append_mark rfl _ _ rfl B a4 m4 c4 mk _ rfl own4 [_] 1 rfl rfl (by decide) (by omega) hB4 ?_; intro a5 m5 c5 w5 hm5 own5 gr5 ol5 nr5 kp5; refine Hid.out ?_)
          refine Lib.hid ?_
          rw [List.replicate_append_replicate] at own5
          have H5 : Hid (_ ∧ _ ∧ _ ∧ _) := ⟨own5, Near.on HH.out.1 nr5 HH.out.2.2.size, HH.out.2.1.trans kp5, grown_trans HH.out.2.2 gr5 HH.out.1⟩
          have hB5 : B ≤ w5.heap.size := Nat.le_trans hB4 gr5.size
          clear own5 nr5 kp5 gr5 ol5 HH hm5
          go_wp2
          go_roundw
          case rel => exact ⟨q + 1, a5, m5, c5, by omega, by go_num, rfl, H5.out.1, H5.out.2.1, H5.out.2.2.1, H5.out.2.2.2, hB5⟩
          case measure => simp [intOf]; omega
        · have hge3 : (100 : Int) ≤ (q : Int) := by omega
          obtain rfl : q = 100 := by omega
          have A5 := (Below.refl wr.heap.size wr).alloc (Nat.le_refl _) (.cells #[.slice a t c, .slice a1 m1 c1, .slice a2 m2 c2, .slice a4 m4 c4] 33)
          have HF : Hid (_ ∧ _ ∧ _ ∧ _ ∧ _) := ⟨A5, own4, N4, K4, gw4⟩
          clear A5 own4 N4 K4 gw4
          go_wp2
          go_ret
          obtain ⟨A5, own4, N4, K4, gw4⟩ := HF.out
          refine ⟨wr.heap.size, rfl, ⟨gw4.size, fun i hi => ?_⟩, grown_trans gw4 (grown_alloc _ _ (Value.slice a t c).ownBlock) (.inl rfl)⟩
          have hh := heap_new wr (.cells #[.slice a t c, .slice a1 m1 c1, .slice a2 m2 c2, .slice a4 m4 c4] 33)
          have cc : ∀ j : Nat, (wr.alloc (.cells #[.slice a t c, .slice a1 m1 c1, .slice a2 m2 c2, .slice a4 m4 c4] 33)).cell? ⟨wr.heap.size, j, none⟩ = (#[.slice a t c, .slice a1 m1 c1, .slice a2 m2 c2, .slice a4 m4 c4] : Array Value)[j]? := fun j => by
            generalize (wr.alloc (.cells #[.slice a t c, .slice a1 m1 c1, .slice a2 m2 c2, .slice a4 m4 c4] 33)) = wz at hh
            simp [World.cell?, hh]
          have r4 : Rd wr (.slice a4 m4 c4) (List.replicate m4 mk) := by
            have r := own4.rd (rep_bys _ _ hmk) (by omega)
            rw [← hm4.out] at r
            exact r
          match i, hi with
          | 0, _ => exact ⟨a, t, c, by rw [cc]; rfl, (K4.rd R0.out).later A5, .inl rfl⟩
          | 1, _ => exact ⟨a1, m1, c1, by rw [cc]; rfl, (K4.rd R1.out).later A5, N1.out⟩
          | 2, _ => exact ⟨a2, m2, c2, by rw [cc]; rfl, (K4.rd R2.out).later A5, N2.out⟩
          | 3, _ => exact ⟨a4, m4, c4, by rw [cc]; rfl, r4.later A5, N4⟩
/-- Lists that hold a mark alone. -/
def FullL (w : World) (G mk : Nat) : Prop := ∀ i, i < 4 → ∃ ai ki ci, w.cell? ⟨G, i, none⟩ = some (.slice ai ki ci) ∧ Rd w (.slice ai ki ci) (List.replicate ki mk)
theorem FullL.later {w w' : World} {G mk : Nat} (h : FullL w G mk) (hb : Below w.heap.size w w') : FullL w' G mk := fun i hi => by
  obtain ⟨a, k, c, h1, h2⟩ := h i hi
  exact ⟨a, k, c, by rw [hb.cell (p := ⟨G, i, none⟩) (World.block_lt_of_cell? w _ h1)]; exact h1, h2.later hb⟩

set_option maxRecDepth 100000 in
set_option maxHeartbeats 2000000 in
theorem full_any {G mk : Nat} {w : World} (hf : FullL w G mk) :
    Calls Try.prog 39 #[.slice (some ⟨G, 0, none⟩) 4 4, .int .u8 (mk : Int)] w fun e w' => e = .returned (.bool true) ∧ w' = w := by
  have HF : Hid (FullL w G mk) := hf
  clear hf
  go_enter Try.func39, Try.ntmps39
  go_wp2
  go_loopw [5, 6] (fun i k wr => ∃ t : Nat, t ≤ 4 ∧ i = .int .i64 (t : Int) ∧ wr = w) (fun i _ _ => 4 - (intOf i).toNat)
  case atStart => exact ⟨0, by omega, rfl, rfl⟩
  case round =>
    obtain ⟨t, ht, rfl, rfl⟩ := hrel
    by_cases hlt : t < 4
    · have hlt2 : (t : Int) < 4 := by omega
      have ht0 : (0 : Int) ≤ (t : Int) := by omega
      obtain ⟨ai, ki, ci, hc, hr⟩ := HF.out t hlt
      have HR : Hid (Rd wr (.slice ai ki ci) (List.replicate ki mk)) := hr
      have hk48 := (rd_lens hr).2.2.2
      clear hr
      go_wp2
      go_loopw [6] (fun k wr2 => ∃ q : Nat, q ≤ ki ∧ k = .int .i64 (q : Int) ∧ wr2 = wr) (fun k _ => ki - (intOf k).toNat)
      case atStart => exact ⟨0, by omega, rfl, rfl⟩
      case round =>
        obtain ⟨q, hq, rfl, rfl⟩ := hrel
        by_cases hlq : q < ki
        · have hlq2 : (q : Int) < (ki : Int) := by omega
          have hq0 : (0 : Int) ≤ (q : Int) := by omega
          rcases rd_some HR.out with ⟨_, h0, _⟩ | ⟨b, off, rfl⟩
          · omega
          obtain ⟨cq, _⟩ := rd_cell HR.out q hlq
          have e : (List.replicate ki mk).getD q 0 = mk := by simp [List.getD, hlq]
          rw [e] at cq
          go_wp2
          go_roundw
          case rel => exact ⟨q + 1, by omega, by go_num, trivial⟩
          case measure => simp [intOf]; omega
        · have hgq : (ki : Int) ≤ (q : Int) := by omega
          go_wp2
          go_roundw
          case rel => exact ⟨t + 1, by omega, by go_num, trivial⟩
          case measure => simp [intOf]; omega
    · have hge : (4 : Int) ≤ (t : Int) := by omega
      go_wp2
      go_ret
      exact ⟨rfl, rfl⟩

end Go.Proofs.Ytjcpjpjccoeakaa

namespace Go.Proofs.Ytjcpjpjccoeakaa
open Go.RowKit
set_option linter.unusedVariables false

/-- Key of any entry. -/
theorem key_any {e : EntD} {w : World} (hok : EntD.Ok w e) :
    Calls Try.prog 23 #[.agg e.cells] w fun r w' => ∃ a m c, ∃ E : Nat, r = .returned (.tuple #[.slice a m c, .int .i64 (E : Int)]) ∧ E = checkS e ∧ (E = 0 → Own w' w.heap.size (.slice a m c) m (keyL e)) ∧ Below w.heap.size w w' := by
  by_cases hc : checkS e = 0
  · refine (key_ok hok hc).mono ?_
    rintro r w' ⟨a, m, c, rfl, own, hb⟩
    exact ⟨a, m, c, 0, rfl, hc.symm, fun _ => own, hb⟩
  · refine (key_bad hok hc).mono ?_
    rintro r w' ⟨rfl, hb⟩
    exact ⟨none, 0, 0, checkS e, rfl, rfl, fun h => absurd h hc, hb⟩
theorem keyL_bys {e : EntD} (hr : Bys e.row) (hq : Bys e.qual) (hc : checkS e = 0) : Bys (keyL e) := by
  obtain ⟨_, f, _, _, t, s, k, _⟩ := check_facts hc
  rw [keyL_parts]
  have m5 : ∀ a b : Int, mark a b < 256 := by intro a b; unfold mark; split <;> omega
  refine Bys.app (ordL_bys _ hr) (Bys.app (fun x hx => by simp at hx; omega) (Bys.app (fun x hx => by simp at hx; rw [hx]; exact m5 _ _) (Bys.app ?_ (Bys.app (be8_bys _) (Bys.app (be8_bys _) (Bys.app (fun x hx => by simp at hx; omega) (fun x hx => by simp at hx)))))))
  split
  · intro x hx; simp at hx
  · exact Bys.app (ordL_bys _ hq) (fun x hx => by simp at hx; rw [hx]; exact m5 _ _)
theorem keyL_len {e : EntD} (hc : checkS e = 0) : (keyL e).length ≤ 2000 := by
  obtain ⟨f1, f, f3, _, t, s, k, _⟩ := check_facts hc
  rw [keyL_parts]
  have l1 := ordL_len e.row
  have l2 := ordL_len e.qual
  have c1 : e.row.count 0 ≤ e.row.length := List.count_le_length
  have c2 : e.qual.count 0 ≤ e.qual.length := List.count_le_length
  split <;> simp [be8] <;> omega

set_option maxRecDepth 100000 in
set_option maxHeartbeats 4000000 in
theorem cellSorts_walk {a b : EntD} {w : World} (ha : EntD.Ok w a) (hb : EntD.Ok w b) :
    Calls Try.prog 5 #[.agg a.cells, .agg b.cells] w fun r w' => r = .returned (.bool true) ∧ Below w.heap.size w w' := by
  have A1 := (Below.refl w.heap.size w).alloc (Nat.le_refl _) (.cells a.cells 35)
  have A2 := A1.alloc A1.size (.cells b.cells 35)
  have bxa0 := (EBox.new w a).later ((Below.refl (w.alloc (.cells a.cells 35)).heap.size (w.alloc (.cells a.cells 35))).alloc (Nat.le_refl _) (.cells b.cells 35))
  have bxb0 := EBox.new (w.alloc (.cells a.cells 35)) b
  rw [World.size_alloc] at bxb0
  have HX : Hid (EBox _ w.heap.size a ∧ EBox _ (w.heap.size + 1) b ∧ Below w.heap.size w _) := ⟨bxa0, bxb0, A2⟩
  have HA : Hid (EntD.Ok w a) := ha
  have HB : Hid (EntD.Ok w b) := hb
  clear A1 A2 bxa0 bxb0 ha hb
  simp only [EntD.cells] at *
  go_enter Try.func5, Try.ntmps5
  go_wp2_with fail
  refine (told_any _).mono ?_
  rintro e w1 ⟨rfl, hb1⟩
  have B1 := HX.out.2.2.trans (hb1.mono HX.out.2.2.size)
  have bxa1 : Hid (EBox w1 w.heap.size a) := HX.out.1.later hb1
  have bxb1 : Hid (EBox w1 (w.heap.size + 1) b) := HX.out.2.1.later hb1
  clear HX hb1
  obtain ⟨z0, z1, z2, z3, z4, z5, z6⟩ := bxa1.out.cells7
  go_wp2_with fail
  refine (key_any (HA.out.later B1)).mono ?_
  rintro e w2 ⟨a2, m2, c2, E2, rfl, hE2, own2, hb2⟩
  have HE2 : Hid (E2 = checkS a ∧ (E2 = 0 → Own w2 w1.heap.size (.slice a2 m2 c2) m2 (keyL a))) := ⟨hE2, own2⟩
  have B2 := B1.trans (hb2.mono B1.size)
  have bxa2 : Hid (EBox w2 w.heap.size a) := bxa1.out.later hb2
  have bxb2 : Hid (EBox w2 (w.heap.size + 1) b) := bxb1.out.later hb2
  clear bxa1 bxb1 z0 z1 z2 z3 z4 z5 z6 hE2 own2 hb2 B1
  obtain ⟨z0, z1, z2, z3, z4, z5, z6⟩ := bxb2.out.cells7
  go_wp2_with fail
  refine (key_any (HB.out.later B2)).mono ?_
  rintro e w3 ⟨a3, m3, c3, E3, rfl, hE3, own3, hb3⟩
  have B3 := B2.trans (hb3.mono B2.size)
  have bxa3 : Hid (EBox w3 w.heap.size a) := bxa2.out.later hb3
  have bxb3 : Hid (EBox w3 (w.heap.size + 1) b) := bxb2.out.later hb3
  have HR2 : Hid (E2 = 0 → Rd w3 (.slice a2 m2 c2) (keyL a)) := fun h => ((HE2.out.2 h).rd (keyL_bys HA.out.1.1 HA.out.2.1.1 (HE2.out.1 ▸ h)) (by rw [(HE2.out.2 h).1]; have := keyL_len (e := a) (HE2.out.1 ▸ h); omega)).later hb3
  have HR3 : Hid (E3 = 0 → Rd w3 (.slice a3 m3 c3) (keyL b)) := fun h => ((own3 h).rd (keyL_bys HB.out.1.1 HB.out.2.1.1 (hE3 ▸ h)) (by rw [(own3 h).1]; have := keyL_len (e := b) (hE3 ▸ h); omega))
  have HDF : Hid (E2 = 0 → E3 = 0 → Dif (keyL a) (keyL b) (compareS a b)) := fun h k => key_dif (HE2.out.1 ▸ h) (hE3 ▸ k)
  clear bxa2 bxb2 z0 z1 z2 z3 z4 z5 z6 hE3 own3 hb3 B2 HE2
  by_cases h2 : E2 = 0
  · subst h2
    by_cases h3 : E3 = 0
    · subst h3
      have r2 := HR2.out rfl
      have r3 := HR3.out rfl
      have HD : Hid (Dif (keyL a) (keyL b) (compareS a b)) := HDF.out rfl rfl
      clear HR2 HR3 HDF
      obtain ⟨xs, hxs⟩ : ∃ xs, xs = keyL a := ⟨_, rfl⟩
      obtain ⟨ys, hys⟩ : ∃ ys, ys = keyL b := ⟨_, rfl⟩
      rw [← hxs] at r2 HD
      rw [← hys] at r3 HD
      clear hxs hys
      obtain ⟨hn, _, _, hn48⟩ := rd_lens r2
      obtain ⟨hm, _, _, hm48⟩ := rd_lens r3
      have HN : Hid (m2 = xs.length) := hn
      have HM : Hid (m3 = ys.length) := hm
      have R2 : Hid (Rd w3 (.slice a2 m2 c2) xs) := r2
      have R3 : Hid (Rd w3 (.slice a3 m3 c3) ys) := r3
      clear hn hm r2 r3
      go_wp2
      go_loopw [9] (fun i wr => ∃ t : Nat, t ≤ m2 ∧ t ≤ m3 ∧ i = .int .i64 (t : Int) ∧ xs.take t = ys.take t ∧ Below w3.heap.size w3 wr) (fun i _ => m2 - (intOf i).toNat)
      case atStart => exact ⟨0, by omega, by omega, rfl, rfl, Below.refl _ _⟩
      case round =>
        obtain ⟨t, htn, htm, rfl, heq, hbk⟩ := hrel
        have HQ : Hid (xs.take t = ys.take t) := heq
        clear heq
        have ht0 : (0 : Int) ≤ (t : Int) := by omega
        by_cases hin : t < m2 ∧ t < m3
        · obtain ⟨h1, h2⟩ := hin
          have h1' : (t : Int) < (m2 : Int) := by omega
          have h2' : (t : Int) < (m3 : Int) := by omega
          have d1 : decide ((t : Int) < (m2 : Int)) = true := decide_eq_true h1'
          have d2 : decide ((t : Int) < (m3 : Int)) = true := decide_eq_true h2'
          rcases rd_some R2.out with ⟨_, h0, _⟩ | ⟨ba, oa, ea⟩
          · omega
          rcases rd_some R3.out with ⟨_, h0, _⟩ | ⟨bb, ob, eb⟩
          · omega
          subst ea eb
          obtain ⟨ca0, cal⟩ := rd_cell R2.out t h1
          obtain ⟨cb0, cbl⟩ := rd_cell R3.out t h2
          have ca : wr.cell? ⟨ba, oa + t, none⟩ = some (.int .u8 ((xs.getD t 0 : Nat) : Int)) := by
            rw [hbk.cell (p := ⟨ba, oa + t, none⟩) (World.block_lt_of_cell? w3 _ ca0)]; exact ca0
          have cb : wr.cell? ⟨bb, ob + t, none⟩ = some (.int .u8 ((ys.getD t 0 : Nat) : Int)) := by
            rw [hbk.cell (p := ⟨bb, ob + t, none⟩) (World.block_lt_of_cell? w3 _ cb0)]; exact cb0
          have HTE : Hid (xs.getD t 0 = ys.getD t 0 → xs.take (t + 1) = ys.take (t + 1)) := fun e => take_eq (by rw [← HN.out]; exact h1) (by rw [← HM.out]; exact h2) HQ.out e
          have HNE : Hid (xs.getD t 0 ≠ ys.getD t 0 → (compareS a b = -1 ∧ xs.getD t 0 < ys.getD t 0) ∨ (compareS a b = 1 ∧ ys.getD t 0 < xs.getD t 0)) := fun e => dif_at HD.out HQ.out (by rw [← HN.out]; exact h1) (by rw [← HM.out]; exact h2) e
          obtain ⟨x, hx⟩ : ∃ x, x = xs.getD t 0 := ⟨_, rfl⟩
          obtain ⟨y, hy⟩ : ∃ y, y = ys.getD t 0 := ⟨_, rfl⟩
          have CA : Hid (w3.cell? ⟨ba, oa + t, none⟩ = some (.int .u8 ((xs.getD t 0 : Nat) : Int))) := ca0
          have CB : Hid (w3.cell? ⟨bb, ob + t, none⟩ = some (.int .u8 ((ys.getD t 0 : Nat) : Int))) := cb0
          rw [← hx] at ca cal HTE HNE CA
          rw [← hy] at cb cbl HTE HNE CB
          clear hx hy ca0 cb0
          by_cases hxy : x = y
          · subst hxy
            go_wp2
            go_quiet (fail)
            go_wp2
            go_roundw
            case rel => exact ⟨t + 1, by omega, by omega, by go_num, HTE.out trivial, below_drewN hbk _⟩
            case measure => simp [intOf]; omega
          · have hxy' : ¬ ((x : Int) = (y : Int)) := by omega
            go_wp2
            go_quiet (fail)
            have hbd : Below w3.heap.size w3 (wr.drewN nq) := below_drewN hbk nq
            have BW := B3.trans (hbd.mono B3.size)
            obtain ⟨z0, z1, z2, z3, z4, z5, z6⟩ := (bxa3.out.later hbd).cells7
            obtain ⟨y0, y1, y2, y3, y4, y5, y6⟩ := (bxb3.out.later hbd).cells7
            go_wp2_with fail
            refine (compare_any (HA.out.later BW) (HB.out.later BW)).mono ?_
            rintro e w5 ⟨rfl, hb5⟩
            have B5 := BW.trans (hb5.mono BW.size)
            have hb35 := hbd.trans (hb5.mono hbd.size)
            clear z0 z1 z2 z3 z4 z5 z6 y0 y1 y2 y3 y4 y5 y6
            rcases HNE.out hxy with ⟨hc, hlt⟩ | ⟨hc, hlt⟩
            · rw [hc]
              have ca5 : w5.cell? ⟨ba, oa + t, none⟩ = some (.int .u8 (x : Int)) := by rw [hb35.cell (p := ⟨ba, oa + t, none⟩) (World.block_lt_of_cell? w3 _ CA.out)]; exact CA.out
              have cb5 : w5.cell? ⟨bb, ob + t, none⟩ = some (.int .u8 (y : Int)) := by rw [hb35.cell (p := ⟨bb, ob + t, none⟩) (World.block_lt_of_cell? w3 _ CB.out)]; exact CB.out
              have hlt' : (x : Int) < (y : Int) := by omega
              have dl : decide ((x : Int) < (y : Int)) = true := decide_eq_true hlt'
              have n1 : ¬ ((t : Int) = (m2 : Int)) := by omega
              have n1b : ((t : Int) == (m2 : Int)) = false := by simp; omega
              have n2b : ((t : Int) == (m3 : Int)) = false := by simp; omega
              have n2 : ¬ ((t : Int) = (m3 : Int)) := by omega
              clear ca cb hb35 hbd
              go_wp2
              go_quiet (fail)
              go_wp2
              go_ret
              exact ⟨rfl, below_drewN B5 _⟩
            · rw [hc]
              have ca5 : w5.cell? ⟨ba, oa + t, none⟩ = some (.int .u8 (x : Int)) := by rw [hb35.cell (p := ⟨ba, oa + t, none⟩) (World.block_lt_of_cell? w3 _ CA.out)]; exact CA.out
              have cb5 : w5.cell? ⟨bb, ob + t, none⟩ = some (.int .u8 (y : Int)) := by rw [hb35.cell (p := ⟨bb, ob + t, none⟩) (World.block_lt_of_cell? w3 _ CB.out)]; exact CB.out
              have hlt' : (y : Int) < (x : Int) := by omega
              have dl : decide ((y : Int) < (x : Int)) = true := decide_eq_true hlt'
              have n1 : ¬ ((t : Int) = (m2 : Int)) := by omega
              have n1b : ((t : Int) == (m2 : Int)) = false := by simp; omega
              have n2b : ((t : Int) == (m3 : Int)) = false := by simp; omega
              have n2 : ¬ ((t : Int) = (m3 : Int)) := by omega
              clear ca cb hb35 hbd
              go_wp2
              go_quiet (fail)
              go_wp2
              go_ret
              exact ⟨rfl, below_drewN B5 _⟩
        · have HE : Hid (t = m2 ∨ t = m3 → compareS a b = 0 ∧ m2 = m3) := fun h => by
            obtain ⟨e1, e2⟩ := dif_end HD.out HQ.out (by rw [← HN.out]; exact htn) (by rw [← HM.out]; exact htm) (by rw [← HN.out, ← HM.out]; exact h)
            exact ⟨e1, by rw [HN.out, HM.out]; exact e2⟩
          by_cases h1 : t < m2
          · obtain rfl : t = m3 := by
              by_cases h : t < m3
              · exact absurd ⟨h1, h⟩ hin
              · omega
            have := (HE.out (.inr rfl)).2
            omega
          · obtain rfl : t = m2 := by omega
            obtain ⟨hc, hm⟩ := HE.out (.inl rfl)
            have HC : Hid (compareS a b = 0) := hc
            have d1 : decide ((t : Int) < (t : Int)) = false := by simp
            subst hm
            clear hc HE hin
            go_wp2
            go_quiet (fail)
            have hbd : Below w3.heap.size w3 (wr.drewN nq) := below_drewN hbk nq
            have BW := B3.trans (hbd.mono B3.size)
            obtain ⟨z0, z1, z2, z3, z4, z5, z6⟩ := (bxa3.out.later hbd).cells7
            obtain ⟨y0, y1, y2, y3, y4, y5, y6⟩ := (bxb3.out.later hbd).cells7
            go_wp2_with fail
            refine (compare_any (HA.out.later BW) (HB.out.later BW)).mono ?_
            rintro e w5 ⟨rfl, hb5⟩
            have B5 := BW.trans (hb5.mono BW.size)
            have hb35 := hbd.trans (hb5.mono hbd.size)
            clear z0 z1 z2 z3 z4 z5 z6 y0 y1 y2 y3 y4 y5 y6
            rw [HC.out]
            go_wp2
            go_ret
            exact ⟨rfl, B5⟩
    · have h3' : ¬ ((E3 : Int) = 0) := by omega
      go_wp2
      go_ret
      exact ⟨rfl, B3⟩
  · have h2' : ¬ ((E2 : Int) = 0) := by omega
    go_wp2
    go_ret
    exact ⟨rfl, B3⟩
end Go.Proofs.Ytjcpjpjccoeakaa

namespace Go.Proofs.Ytjcpjpjccoeakaa
open Go.RowKit
set_option linter.unusedVariables false

theorem ruint_uintF : ∀ (f u i q : Nat) (rest : List Nat), i + f = 9 → u < 128 ^ (f + 1) → (0 < i → 0 < u) → q < 128 ^ i → q + u * 128 ^ i < 18446744073709551616 → ruint f (uintF f u ++ rest) i q = (q + u * 128 ^ i, i + (uintF f u).length, 0) := by
  intro f
  induction f with
  | zero =>
    intro u i q rest hi hu hp hq ht
    have hi9 : i = 9 := by omega
    subst hi9
    have hu1 : u ≤ 1 := by
      have e : (128 : Nat) ^ 9 = 9223372036854775808 := by decide
      rw [e] at ht
      omega
    show ruint 0 (u :: rest) 9 q = _
    unfold ruint
    rw [if_neg (by omega), if_neg (by omega), if_neg (by omega)]
    rw [Nat.mod_eq_of_lt (by omega)]
    rfl
  | succ f ih =>
    intro u i q rest hi hu hp hq ht
    by_cases h127 : 127 < u
    · rw [uintF_go f u h127, List.cons_append]
      unfold ruint
      rw [if_neg (by omega), if_pos (by omega)]
      have e1 : (u % 128 + 128) % 128 = u % 128 := by omega
      rw [e1]
      have e2 : q + u % 128 * 128 ^ i + u / 128 * 128 ^ (i + 1) = q + u * 128 ^ i := by
        have : u * 128 ^ i = (128 * (u / 128) + u % 128) * 128 ^ i := by rw [Nat.div_add_mod]
        rw [this, Nat.add_mul, Nat.pow_succ]
        have : u / 128 * (128 ^ i * 128) = 128 * (u / 128) * 128 ^ i := by rw [Nat.mul_comm (128 ^ i) 128, ← Nat.mul_assoc, Nat.mul_comm (u / 128) 128]
        omega
      rw [ih (u / 128) (i + 1) _ rest (by omega) (by rw [Nat.pow_succ] at hu; exact Nat.div_lt_of_lt_mul (by rw [Nat.mul_comm]; exact hu)) (by omega) (next_lt q u i hq) (by rw [e2]; exact ht), e2]
      simp
      omega
    · rw [uintF_stop (f + 1) u (by omega)]
      show ruint (f + 1) (u :: rest) i q = _
      unfold ruint
      rw [if_neg (by omega), if_neg (by omega), if_neg (by omega), Nat.mod_eq_of_lt (by omega)]
      rfl

/-- What Uint writes, ReadUint reads, wherever it stands. -/
theorem uint_trip (v : Nat) (hv : v < 18446744073709551616) (pre rest : List Nat) : uintR (pre ++ (uintL v ++ rest)) pre.length = (v, pre.length + (uintL v).length, 0) := by
  unfold uintR
  rw [List.drop_left]
  have := ruint_uintF 9 v 0 0 rest rfl (Nat.lt_of_lt_of_le hv (by decide)) (by omega) (by simp) (by simpa using hv)
  rw [uintL, this]
  simp
/-- What Bytes writes, ReadBytes reads, wherever it stands. -/
theorem bytes_trip (bs : List Nat) (hl : bs.length < 18446744073709551616) (most : Nat) (hm : bs.length ≤ most) (pre rest : List Nat) :
    bytesR (pre ++ (bytesL bs ++ rest)) pre.length most = (bs, pre.length + (bytesL bs).length, 0) := by
  unfold bytesR bytesL
  rw [List.append_assoc (uintL bs.length) bs rest, uint_trip bs.length hl pre (bs ++ rest)]
  have h1 : ¬ most < bs.length := by omega
  have h2 : ¬ (pre ++ (uintL bs.length ++ (bs ++ rest))).length < pre.length + (uintL bs.length).length + bs.length := by simp; omega
  simp only [ne_eq, not_true_eq_false, if_false, h1, h2]
  have e : pre ++ (uintL bs.length ++ (bs ++ rest)) = (pre ++ uintL bs.length) ++ (bs ++ rest) := by simp
  rw [e, show pre.length + (uintL bs.length).length = (pre ++ uintL bs.length).length by simp, List.drop_left, List.take_left]
  simp
  omega

end Go.Proofs.Ytjcpjpjccoeakaa

namespace Go.Proofs.Ytjcpjpjccoeakaa
open Go.RowKit
set_option linter.unusedVariables false

theorem num8_be8 (n : Nat) (h : n < 18446744073709551616) : num8 (be8 n) = n := by
  simp only [num8, be8, List.foldl]
  omega
theorem rise_trip (n : Nat) (hn : n < 9223372036854775808) (pre rest : List Nat) : riseR (pre ++ (be8 n ++ rest)) pre.length = (n, pre.length + 8, 0) := by
  have e : ((pre ++ (be8 n ++ rest)).drop pre.length).take 8 = be8 n := by
    rw [List.drop_left, List.take_append_of_le_length (by simp [be8]), List.take_of_length_le (by simp [be8])]
  unfold riseR
  rw [e, num8_be8 n (by omega), if_neg (by simp [be8]), if_neg (by omega)]
theorem fall_trip (n : Nat) (hn : n < 9223372036854775808) (pre rest : List Nat) : fallR (pre ++ (be8 (9223372036854775807 - n) ++ rest)) pre.length = (n, pre.length + 8, 0) := by
  unfold fallR
  rw [rise_trip _ (by omega)]
  simp
  omega
theorem rord_trip : ∀ (l acc rest : List Nat) (i : Nat), rord (ordL l ++ rest) acc i = (acc ++ l, i + (ordL l).length, 0) := by
  intro l
  induction l with
  | nil =>
    intro acc rest i
    show rord (0 :: 1 :: rest) acc i = _
    unfold rord
    simp [ordL, escL]
  | cons c l ih =>
    intro acc rest i
    by_cases hc : c = 0
    · have e : ordL (c :: l) = 0 :: 255 :: ordL l := by simp [ordL, escL, hc]
      rw [e]
      show rord (0 :: 255 :: (ordL l ++ rest)) acc i = _
      unfold rord
      rw [if_neg (by simp), if_neg (by simp), if_pos rfl, ih]
      simp [hc]
      omega
    · have e : ordL (c :: l) = c :: ordL l := by simp [ordL, escL, hc]
      rw [e]
      show rord (c :: (ordL l ++ rest)) acc i = _
      have h1 := ih (acc ++ [c]) rest (i + 1)
      cases hx : ordL l ++ rest with
      | nil =>
        exfalso
        simp [ordL] at hx
      | cons d r =>
        rw [hx] at h1
        unfold rord
        rw [if_pos hc, h1]
        simp
        omega
theorem ord_trip (bs pre rest : List Nat) : ordR (pre ++ (ordL bs ++ rest)) pre.length = (bs, pre.length + (ordL bs).length, 0) := by
  unfold ordR
  rw [List.drop_left, rord_trip]
  simp

end Go.Proofs.Ytjcpjpjccoeakaa
