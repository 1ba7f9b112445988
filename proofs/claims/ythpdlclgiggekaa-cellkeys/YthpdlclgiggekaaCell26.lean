import Derived.Test.YthpdlclgiggekaaCell25
import Derived.Lib.Hide
namespace Go.Proofs.Ythpdlclgiggekaa
open Go.RowKit
set_option linter.unusedVariables false

/-- Where a list that was made since w may lie: where l lay, or in new memory. -/
def Near (w : World) (l u : Value) : Prop := u.ownBlock = l.ownBlock ∨ ∀ g, u.ownBlock = some g → w.heap.size ≤ g
theorem Near.on {w w' : World} {l u v : Value} (h : Near w l u) (k : v.ownBlock = u.ownBlock ∨ ∀ g, v.ownBlock = some g → w'.heap.size ≤ g) (hs : w.heap.size ≤ w'.heap.size) : Near w l v := by
  rcases k with k | k
  · rcases h with h | h
    · exact .inl (k.trans h)
    · exact .inr fun g hg => h g (by rw [← k]; exact hg)
  · exact .inr fun g hg => Nat.le_trans hs (k g hg)
theorem Near.grow {w : World} {l u : Value} (h : Near w l u) : u.ownBlock = l.ownBlock ∨ ∀ g, u.ownBlock = some g → w.heap.size ≤ g := h

/-- A list of lists that hold a mark alone. -/
def Marked (w w' : World) (l : Value) (G mk : Nat) : Prop := w.heap.size ≤ G ∧ ∀ i, i < 4 → ∃ ai ki ci, w'.cell? ⟨G, i, none⟩ = some (.slice ai ki ci) ∧ Rd w' (.slice ai ki ci) (List.replicate ki mk) ∧ Near w l (.slice ai ki ci)

theorem bv_at (L : List Nat) (t : Nat) (h : t < L.length) : (bv L)[t]? = some (.int .u8 ((L.getD t 0 : Nat) : Int)) := by
  simp [bv, List.getD, List.getElem?_eq_getElem h]
theorem fill_set {mk t : Nat} {xs : List Nat} (h : t < xs.length) : (List.replicate t mk ++ xs.drop t).set t mk = List.replicate (t + 1) mk ++ xs.drop (t + 1) := by
  rw [List.set_append_right _ _ (by simp), drop_cons xs t h]
  simp [List.replicate_succ']

set_option maxRecDepth 100000 in
set_option maxHeartbeats 4000000 in
theorem longer_any {a : Option Addr} {n c B mk : Nat} {xs : List Nat} {w : World} (hown : Own w B (.slice a n c) n xs) (hmk : mk < 256) (hn : n ≤ 10000) (hB : B ≤ w.heap.size) :
    Calls Try.prog 38 #[.slice a n c, .int .u8 (mk : Int)] w fun e w' => ∃ G, e = .returned (.slice (some ⟨G, 0, none⟩) 4 4) ∧ Marked w w' (.slice a n c) G mk ∧ w.grownBy w' (Value.slice a n c).ownBlock := by
  have hx : xs.length = n := hown.1.symm
  have HX : Hid (xs.length = n) := hx
  clear hx
  have HO : Hid (Own w B (.slice a n c) n xs) := hown
  clear hown
  go_enter Try.func38, Try.ntmps38
  go_wp2
  go_loopw [5] (fun i wr => ∃ t : Nat, t ≤ n ∧ i = .int .i64 (t : Int) ∧ Own wr B (.slice a n c) n (List.replicate t mk ++ xs.drop t) ∧ w.grownBy wr (Value.slice a n c).ownBlock) (fun i _ => n - (intOf i).toNat)
  case atStart => exact ⟨0, Nat.zero_le _, rfl, by simpa using HO.out, World.grownBy.refl _ _⟩
  case round =>
    obtain ⟨t, htn, rfl, ownk, hgr⟩ := hrel
    by_cases hlt : t < n
    · have hlt2 : (t : Int) < (n : Int) := by omega
      have ht0 : (0 : Int) ≤ (t : Int) := by omega
      obtain ⟨g, rfl⟩ : ∃ g, a = some ⟨g, 0, none⟩ := by
        rcases ownk.2.2 with ⟨h1, h2⟩ | ⟨g, cap, cur, h1, _⟩
        · omega
        · simp only [Value.slice.injEq] at h1
          exact ⟨g, h1.1⟩
      have hfz := ownk.2.frozenAt t
      have hcell : ∃ y : Nat, wr.cell? ⟨g, t, none⟩ = some (.int .u8 (y : Int)) := by
        refine ⟨(List.replicate t mk ++ xs.drop t).getD t 0, ?_⟩
        rw [ownk.2.cellAt t (by omega)]
        have hl : t < (List.replicate t mk ++ xs.drop t).length := by simp; have := HX.out; omega
        exact bv_at _ _ hl
      obtain ⟨y, hcell⟩ := hcell
      have HOWN : Hid (Own wr B (.slice (some ⟨g, 0, none⟩) n c) n (List.replicate t mk ++ xs.drop t) ∧ w.grownBy wr (Value.slice (some ⟨g, 0, none⟩) n c).ownBlock) := ⟨ownk, hgr⟩
      clear ownk hgr
      go_wp2
      go_roundw
      case rel =>
        have st := HOWN.out.1.2.stored t (.int .u8 (mk : Int))
        refine ⟨t + 1, by omega, by go_num, ⟨by simp; have := HX.out; omega, ?_⟩, grown_trans HOWN.out.2 st.2 (.inl rfl)⟩
        have e : bv (List.replicate (t + 1) mk ++ xs.drop (t + 1)) = (bv (List.replicate t mk ++ xs.drop t)).set t (.int .u8 (mk : Int)) := by
          rw [← fill_set (by rw [HX.out]; exact hlt)]
          simp [bv, List.map_set]
        rw [e]
        exact st.1
      case measure => simp [intOf]; omega
    · have hge : (n : Int) ≤ (t : Int) := by omega
      obtain rfl : t = n := by omega
      have e : List.replicate t mk ++ xs.drop t = List.replicate t mk := by rw [List.drop_of_length_le (by rw [HX.out]; omega), List.append_nil]
      rw [e] at ownk
      have hBr : B ≤ wr.heap.size := Nat.le_trans hB hgr.size
      clear e
      go_wp2_with (at_builtin; refine wpList_append_mark rfl _ _ rfl B a t c mk _ rfl ownk [_] 1 rfl rfl (by decide) (by omega) hBr ?_; intro a1 m1 c1 w1 hm1 own1 gr1 ol1 nr1 kp1; refine Hid.out ?_)
      refine Lib.hid ?_
      rw [List.replicate_append_replicate] at own1
      have gw1 := grown_trans hgr gr1 (.inl rfl)
      have hB1 : B ≤ w1.heap.size := Nat.le_trans hBr gr1.size
      have HM1 := hm1
      clear hm1
      go_wp2_with (at_builtin; refine wpList_append_mark rfl _ _ rfl B a t c mk _ rfl ol1 [_, _] 2 rfl rfl (by decide) (by omega) hB1 ?_; intro a2 m2 c2 w2 hm2 own2 gr2 ol2 nr2 kp2; refine Hid.out ?_)
      refine Lib.hid ?_
      rw [List.replicate_append_replicate] at own2
      have gw2 := grown_trans gw1 gr2 (.inl rfl)
      have hB2 : B ≤ w2.heap.size := Nat.le_trans hB1 gr2.size
      have HM2 := hm2
      clear hm2
      go_wp2_with (at_builtin; refine wpList_append_mark rfl _ _ rfl B a t c mk _ rfl ol2 [_] 1 rfl rfl (by decide) (by omega) hB2 ?_; intro a3 m3 c3 w3 hm3 own3 gr3 ol3 nr3 kp3; refine Hid.out ?_)
      refine Lib.hid ?_
      rw [List.replicate_append_replicate] at own3
      have gw3 := grown_trans gw2 gr3 (.inl rfl)
      have hB3 : B ≤ w3.heap.size := Nat.le_trans hB2 gr3.size
      have HM3 := hm3
      clear hm3
      have R0 : Hid (Rd w3 (.slice a t c) (List.replicate t mk)) := ol3.rd (rep_bys _ _ hmk) (by omega)
      have R1 : Hid (Rd w3 (.slice a1 m1 c1) (List.replicate m1 mk)) := by
        have r := own1.rd (rep_bys _ _ hmk) (by have := HM1.out; omega)
        rw [← HM1.out] at r
        exact (kp2.trans kp3).rd r
      have R2 : Hid (Rd w3 (.slice a2 m2 c2) (List.replicate m2 mk)) := by
        have r := own2.rd (rep_bys _ _ hmk) (by have := HM2.out; omega)
        rw [← HM2.out] at r
        exact kp3.rd r
      have N1 : Hid (Near w (.slice a t c) (.slice a1 m1 c1)) := Near.on (.inl rfl) nr1 hgr.size
      have N2 : Hid (Near w (.slice a t c) (.slice a2 m2 c2)) := Near.on (.inl rfl) nr2 gw1.size
      have N3 : Near w (.slice a t c) (.slice a3 m3 c3) := Near.on (.inl rfl) nr3 gw2.size
      clear own1 own2 gr1 gr2 gr3 ol1 ol2 ol3 nr1 nr2 nr3 kp1 kp2 kp3 gw1 gw2 hB1 hB2 hBr ownk hgr
      go_wp2
      go_loopw [8, 9] (fun s i wr2 => ∃ q a' m c', q ≤ 100 ∧ i = .int .i64 ((q : Nat) : Int) ∧ s = .slice a' m c' ∧ Own wr2 B (.slice a' m c') m (List.replicate (t + 1 + q) mk) ∧ Near w (.slice a t c) (.slice a' m c') ∧ Keeps mk w3 wr2 ∧ w.grownBy wr2 (Value.slice a t c).ownBlock ∧ B ≤ wr2.heap.size) (fun _ i _ => 100 - (intOf i).toNat)
      case atStart => exact ⟨0, a3, m3, c3, by omega, rfl, rfl, own3, N3, Keeps.refl _ _, gw3, hB3⟩
      case round =>
        obtain ⟨q, a4, m4, c4, hq, rfl, rfl, own4, N4, K4, gw4, hB4⟩ := hrel
        have hm4 : Hid (m4 = t + 1 + q) := by unfold Hid; rw [own4.1]; simp
        have hm4b : m4 ≤ 10200 := by have := hm4.out; omega
        by_cases hlt2 : q < 100
        · have hlt3 : (q : Int) < 100 := by omega
          have HH : Hid (_ ∧ _ ∧ _) := ⟨N4, K4, gw4⟩
          clear N4 K4 gw4
          go_wp2_with (at_builtin; refine wpList_append_mark rfl _ _ rfl B a4 m4 c4 mk _ rfl own4 [_] 1 rfl rfl (by decide) (by omega) hB4 ?_; intro a5 m5 c5 w5 hm5 own5 gr5 ol5 nr5 kp5; refine Hid.out ?_)
          refine Lib.hid ?_
          rw [List.replicate_append_replicate] at own5
          have H5 : Hid (_ ∧ _ ∧ _ ∧ _) := ⟨own5, Near.on HH.out.1 nr5 HH.out.2.2.size, HH.out.2.1.trans kp5, grown_trans HH.out.2.2 gr5 HH.out.1⟩
          have hB5 : B ≤ w5.heap.size := Nat.le_trans hB4 gr5.size
          clear own5 nr5 kp5 gr5 ol5 HH hm5
          go_wp2
          go_roundw
          case rel => exact ⟨q + 1, a5, m5, c5, by omega, by go_num, rfl, H5.out.1, H5.out.2.1, H5.out.2.2.1, H5.out.2.2.2, hB5⟩
          case measure => simp [intOf]; omega
        · have hge3 : (100 : Int) ≤ (q : Int) := by omega
          obtain rfl : q = 100 := by omega
          have A5 := (Below.refl wr.heap.size wr).alloc (Nat.le_refl _) (.cells #[.slice a t c, .slice a1 m1 c1, .slice a2 m2 c2, .slice a4 m4 c4] 33)
          have HF : Hid (_ ∧ _ ∧ _ ∧ _ ∧ _) := ⟨A5, own4, N4, K4, gw4⟩
          clear A5 own4 N4 K4 gw4
          go_wp2
          go_ret
          obtain ⟨A5, own4, N4, K4, gw4⟩ := HF.out
          refine ⟨wr.heap.size, rfl, ⟨gw4.size, fun i hi => ?_⟩, grown_trans gw4 (grown_alloc _ _ (Value.slice a t c).ownBlock) (.inl rfl)⟩
          have hh := heap_new wr (.cells #[.slice a t c, .slice a1 m1 c1, .slice a2 m2 c2, .slice a4 m4 c4] 33)
          have cc : ∀ j : Nat, (wr.alloc (.cells #[.slice a t c, .slice a1 m1 c1, .slice a2 m2 c2, .slice a4 m4 c4] 33)).cell? ⟨wr.heap.size, j, none⟩ = (#[.slice a t c, .slice a1 m1 c1, .slice a2 m2 c2, .slice a4 m4 c4] : Array Value)[j]? := fun j => by
            generalize (wr.alloc (.cells #[.slice a t c, .slice a1 m1 c1, .slice a2 m2 c2, .slice a4 m4 c4] 33)) = wz at hh
            simp [World.cell?, hh]
          have r4 : Rd wr (.slice a4 m4 c4) (List.replicate m4 mk) := by
            have r := own4.rd (rep_bys _ _ hmk) (by omega)
            rw [← hm4.out] at r
            exact r
          match i, hi with
          | 0, _ => exact ⟨a, t, c, by rw [cc]; rfl, (K4.rd R0.out).later A5, .inl rfl⟩
          | 1, _ => exact ⟨a1, m1, c1, by rw [cc]; rfl, (K4.rd R1.out).later A5, N1.out⟩
          | 2, _ => exact ⟨a2, m2, c2, by rw [cc]; rfl, (K4.rd R2.out).later A5, N2.out⟩
          | 3, _ => exact ⟨a4, m4, c4, by rw [cc]; rfl, r4.later A5, N4⟩
/-- Lists that hold a mark alone. -/
def FullL (w : World) (G mk : Nat) : Prop := ∀ i, i < 4 → ∃ ai ki ci, w.cell? ⟨G, i, none⟩ = some (.slice ai ki ci) ∧ Rd w (.slice ai ki ci) (List.replicate ki mk)
theorem FullL.later {w w' : World} {G mk : Nat} (h : FullL w G mk) (hb : Below w.heap.size w w') : FullL w' G mk := fun i hi => by
  obtain ⟨a, k, c, h1, h2⟩ := h i hi
  exact ⟨a, k, c, by rw [hb.cell (p := ⟨G, i, none⟩) (World.block_lt_of_cell? w _ h1)]; exact h1, h2.later hb⟩

set_option maxRecDepth 100000 in
set_option maxHeartbeats 2000000 in
theorem full_any {G mk : Nat} {w : World} (hf : FullL w G mk) :
    Calls Try.prog 39 #[.slice (some ⟨G, 0, none⟩) 4 4, .int .u8 (mk : Int)] w fun e w' => e = .returned (.bool true) ∧ w' = w := by
  have HF : Hid (FullL w G mk) := hf
  clear hf
  go_enter Try.func39, Try.ntmps39
  go_wp2
  go_loopw [5, 6] (fun i k wr => ∃ t : Nat, t ≤ 4 ∧ i = .int .i64 (t : Int) ∧ wr = w) (fun i _ _ => 4 - (intOf i).toNat)
  case atStart => exact ⟨0, by omega, rfl, rfl⟩
  case round =>
    obtain ⟨t, ht, rfl, rfl⟩ := hrel
    by_cases hlt : t < 4
    · have hlt2 : (t : Int) < 4 := by omega
      have ht0 : (0 : Int) ≤ (t : Int) := by omega
      obtain ⟨ai, ki, ci, hc, hr⟩ := HF.out t hlt
      have HR : Hid (Rd wr (.slice ai ki ci) (List.replicate ki mk)) := hr
      have hk48 := (rd_lens hr).2.2.2
      clear hr
      go_wp2
      go_loopw [6] (fun k wr2 => ∃ q : Nat, q ≤ ki ∧ k = .int .i64 (q : Int) ∧ wr2 = wr) (fun k _ => ki - (intOf k).toNat)
      case atStart => exact ⟨0, by omega, rfl, rfl⟩
      case round =>
        obtain ⟨q, hq, rfl, rfl⟩ := hrel
        by_cases hlq : q < ki
        · have hlq2 : (q : Int) < (ki : Int) := by omega
          have hq0 : (0 : Int) ≤ (q : Int) := by omega
          rcases rd_some HR.out with ⟨_, h0, _⟩ | ⟨b, off, rfl⟩
          · omega
          obtain ⟨cq, _⟩ := rd_cell HR.out q hlq
          have e : (List.replicate ki mk).getD q 0 = mk := by simp [List.getD, hlq]
          rw [e] at cq
          go_wp2
          go_roundw
          case rel => exact ⟨q + 1, by omega, by go_num, trivial⟩
          case measure => simp [intOf]; omega
        · have hgq : (ki : Int) ≤ (q : Int) := by omega
          go_wp2
          go_roundw
          case rel => exact ⟨t + 1, by omega, by go_num, trivial⟩
          case measure => simp [intOf]; omega
    · have hge : (4 : Int) ≤ (t : Int) := by omega
      go_wp2
      go_ret
      exact ⟨rfl, rfl⟩

end Go.Proofs.Ythpdlclgiggekaa
