import Derived.Test.YtjcpjpjccoeakaaJ36
import Derived.Lib.Hide
namespace Go.Proofs.Ytjcpjpjccoeakaa
open Go.RowKit
set_option linter.unusedVariables false

theorem mkOf_int (t : Nat) : ((mkOf t : Nat) : Int) = 1 + (t : Int) % 250 := by unfold mkOf; omega
set_option maxRecDepth 100000 in
set_option maxHeartbeats 8000000 in
theorem settle_any {w0 w : World} {B g n : Nat} {its : List Item} (hk0 : Bk w0 B g n its) (h0 : Below w0.heap.size w0 w) (hn : n ≤ 1000) (hB : B ≤ w.heap.size) :
    Calls Try.prog 47 #[.pointer (some ⟨g, 0, none⟩)] w fun r w' => r = .returned (.bool true) ∧ Below B w w' ∧ Fr w w' its ∧ ∀ wx, Below w0.heap.size w' wx → Bs wx B g n its := by
  obtain ⟨aL, cL, aW, cW, sb⟩ := hk0.sb
  have HS0 := Lib.hid sb
  have HS := Lib.hid (sb.later h0)
  have HK := Lib.hid (hk0.later h0)
  clear hk0 sb h0
  go_enter Try.func47, Try.ntmps47
  go_wp2_with fail
  refine (untouched_any HK.out hn).mono ?_
  rintro r w1 ⟨rfl, hb0⟩
  have F0 : Hid (Fr w w1 its) := (Fr.refl w its).later hb0
  have N0 : Hid (Now w1 B its (fillTo its 0)) := (Now.start HK.out).later hb0
  clear hb0
  go_wp2
  go_loopw [3, 4] (fun i c wr => ∃ t : Nat, t ≤ n ∧ i = .int .i64 (t : Int) ∧ Hid (Fr w wr its ∧ Now wr B its (fillTo its t))) (fun i _ _ => n - (intOf i).toNat)
  case atStart => exact ⟨0, by omega, rfl, F0.out, N0.out⟩
  case round =>
    obtain ⟨t, ht, rfl, HR⟩ := hrel
    have kl := (HS.out.kbox HR.out.1).l
    by_cases hlt : t < n
    · have hlt2 : (t : Int) < (n : Int) := by omega
      have ht0 : (0 : Int) ≤ (t : Int) := by omega
      obtain ⟨p, gL, al, cl, hp, hpl, hx, rfl, c1⟩ := HS.out.item HR.out.1 hlt
      obtain ⟨nx, hnx⟩ : ∃ nx, nx = p.xs.length := ⟨_, rfl⟩
      have HP := Lib.hid (And.intro hp (And.intro hpl hnx))
      rw [← hnx] at c1 hx
      clear hp hpl hnx
      go_wp2
      go_loopw [4] (fun c wr2 => ∃ q : Nat, q ≤ nx ∧ c = .int .i64 (q : Int) ∧ Hid (Fr w wr2 its ∧ Now wr2 B its (fillIn its t q))) (fun c _ => nx - (intOf c).toNat)
      case atStart => exact ⟨0, by omega, rfl, HR.out.1, HR.out.2.congr (fillIn_zero its t)⟩
      case round =>
        obtain ⟨q, hq, rfl, HR2⟩ := hrel
        have kl2 := (HS.out.kbox HR2.out.1).l
        clear kl c1
        obtain ⟨p', gL', al', cl', hp', hpl', _, eL, c2⟩ := HS.out.item HR2.out.1 hlt
        obtain rfl : p = p' := by have := HP.out.1; rw [hp'] at this; simpa using this.symm
        obtain rfl : gL = gL' := by simpa using eL
        rw [HP.out.2.1] at hpl'
        simp only [Value.slice.injEq] at hpl'
        obtain ⟨rfl, _, rfl⟩ := hpl'
        rw [← HP.out.2.2] at c2
        clear eL hp'
        by_cases hlq : q < nx
        · have hlq2 : (q : Int) < (nx : Int) := by omega
          have hq0 : (0 : Int) ≤ (q : Int) := by omega
          have own := HR2.out.2 t p HP.out.1
          rw [HP.out.2.1, ← HP.out.2.2] at own
          obtain ⟨gi, rfl⟩ : ∃ gi, al = some ⟨gi, 0, none⟩ := by
            rcases own.2.2 with ⟨h1, h2⟩ | ⟨gi, cap, cur, h1, _⟩
            · omega
            · simp only [Value.slice.injEq] at h1
              exact ⟨gi, h1.1⟩
          have hfz := own.2.frozenAt q
          have hcell : ∃ y : Nat, wr.cell? ⟨gi, q, none⟩ = some (.int .u8 (y : Int)) := by
            refine ⟨(fillIn its t q t).getD q 0, ?_⟩
            rw [own.2.cellAt q (by omega)]
            exact bv_at _ _ (by have := own.1; omega)
          obtain ⟨y, hcell⟩ := hcell
          clear own
          go_wp2
          go_roundw
          case rel =>
            have st := HR2.out.2.store HS.out.apart HP.out.1 (q := q) (mk := mkOf t) (by rw [HP.out.2.1])
            rw [mkOf_int] at st
            exact ⟨q + 1, by omega, by go_num, HR2.out.1.grow (set_grown _ gi q _) (fun x hx => .inr ⟨p, List.mem_of_getElem? HP.out.1, by cases hx; rw [HP.out.2.1]; rfl⟩), st.congr (fillIn_next (by rw [xsAt_eq HP.out.1, ← HP.out.2.2]; exact hlq))⟩
          case measure => simp [intOf]; omega
        · have hge : (nx : Int) ≤ (q : Int) := by omega
          obtain rfl : q = nx := by omega
          go_wp2
          go_roundw
          case rel =>
            refine ⟨t + 1, by omega, by go_num, HR2.out.1, HR2.out.2.congr (fun j => ?_)⟩
            have e := fillIn_end its t j
            rw [xsAt_eq HP.out.1, ← HP.out.2.2] at e
            exact e
          case measure => simp [intOf]; omega
    · have hge : (n : Int) ≤ (t : Int) := by omega
      obtain rfl : t = n := by omega
      have L0 : Hid (Lg w wr B 0 its (.slice none 0 0) []) := Lg.start HS.out HR.out.1 HR.out.2
      clear HR F0 N0
      go_wp2
      go_loopw [5, 6, 7, 8] (fun m i s c wr2 => ∃ u : Nat, u ≤ t ∧ i = .int .i64 (u : Int) ∧ ∃ am cm ms, m = .slice am u cm ∧ Hid (Lg w wr2 B u its (.slice am u cm) ms)) (fun _ i _ _ _ => t - (intOf i).toNat)
      case atStart => exact ⟨0, by omega, rfl, none, 0, [], rfl, L0⟩
      case round =>
        clear L0 kl
        obtain ⟨u, hu, rfl, am, cm, ms, rfl, HL⟩ := hrel
        have kl := (HS.out.kbox HL.out.fr).l
        by_cases hlu : u < t
        · have hlu2 : (u : Int) < (t : Int) := by omega
          have hu0 : (0 : Int) ≤ (u : Int) := by omega
          obtain ⟨p, gL, al, cl, hp, hpl, hx, rfl, c1⟩ := HS.out.item HL.out.fr hlu
          obtain ⟨nx, hnx⟩ : ∃ nx, nx = p.xs.length := ⟨_, rfl⟩
          have O1 := HL.out.rest u p (Nat.le_refl _) hp
          rw [hpl, ← hnx] at O1
          have HO := Lib.hid O1
          have HP := Lib.hid (And.intro hp (And.intro hpl hnx))
          have hBr : B ≤ wr.heap.size := Nat.le_trans hB HL.out.fr.size
          rw [← hnx] at c1 hx
          clear hp hpl hnx O1
          go_wp2
          go_loopw [7, 8] (fun s c wr2 => ∃ q a' m c', q ≤ 70 ∧ c = .int .i64 ((q : Nat) : Int) ∧ s = .slice a' m c' ∧ Own wr2 B (.slice a' m c') m (List.replicate (nx + q) (mkOf u)) ∧ Near wr (.slice al nx cl) (.slice a' m c') ∧ Keeps (mkOf u) wr wr2 ∧ wr.grownBy wr2 (Value.slice al nx cl).ownBlock ∧ B ≤ wr2.heap.size) (fun _ c _ => 70 - (intOf c).toNat)
          case atStart => exact ⟨0, al, nx, cl, by omega, rfl, rfl, HO.out, .inl rfl, Keeps.refl _ _, World.grownBy.refl _ _, hBr⟩
          case round =>
            clear kl c1
            obtain ⟨q, a4, m4, c4, hq, rfl, rfl, own4, N4, K4, gw4, hB4⟩ := hrel
            have hm4 : Hid (m4 = nx + q) := by unfold Hid; rw [own4.1]; simp
            have hm4b : m4 ≤ 100100 := by have := hm4.out; omega
            by_cases hlq : q < 70
            · have hlq2 : (q : Int) < 70 := by omega
              have HH : Hid (_ ∧ _ ∧ _) := ⟨N4, K4, gw4⟩
              clear N4 K4 gw4
              go_wp2_with (at_builtin; refine wpList_append_mark rfl _ _ rfl B a4 m4 c4 (mkOf u) _ rfl own4 [_] 1 rfl (by simp [bv, mkOf_int]) (by decide) (by omega) hB4 ?_; intro a5 m5 c5 w5 hm5 own5 gr5 ol5 nr5 kp5; refine Hid.out ?_)
              refine Lib.hid ?_
              rw [List.replicate_append_replicate] at own5
              have H5 : Hid (_ ∧ _ ∧ _ ∧ _) := ⟨own5, Near.on HH.out.1 nr5 HH.out.2.2.size, HH.out.2.1.trans kp5, grown_trans HH.out.2.2 gr5 HH.out.1⟩
              have hB5 : B ≤ w5.heap.size := Nat.le_trans hB4 gr5.size
              clear own5 nr5 kp5 gr5 ol5 HH hm5
              go_wp2
              go_roundw
              case rel => exact ⟨q + 1, a5, m5, c5, by omega, by go_num, rfl, H5.out.1, H5.out.2.1, H5.out.2.2.1, H5.out.2.2.2, hB5⟩
              case measure => simp [intOf]; omega
            · have hgq : (70 : Int) ≤ (q : Int) := by omega
              obtain rfl : q = 70 := by omega
              have R4 := HL.out.row.far gw4 (fun x hx hy => by
                have h1 := (HL.out.row.2.2.lt x hy).1
                have h2 := ((HS.out.own p (List.mem_of_getElem? HP.out.1)).1.2.lt x (by rw [HP.out.2.1, ← HP.out.2.2]; exact hx)).2
                omega)
              have HF : Hid (_ ∧ _ ∧ _ ∧ _) := ⟨own4, N4, K4, gw4⟩
              clear own4 N4 K4 gw4
              go_wp2_with (at_builtin; refine wpList_append_one rfl _ _ rfl w.heap.size am u cm ms rfl R4 (.slice a4 m4 c4) rfl rfl (by omega) (Nat.le_trans HL.out.fr.size HF.out.2.2.2.size) ?_; intro am' cm' w6 r6 g6 b6; refine Hid.out ?_)
              refine Lib.hid ?_
              have H6 : Hid (Lg w w6 B (u + 1) its (.slice am' (u + 1) cm') (ms ++ [.slice a4 m4 c4])) := by
                obtain ⟨o4, n4, k4, g4⟩ := HF.out
                obtain ⟨hp, hpl, hnx⟩ := HP.out
                have e4 := hm4.out
                rw [hnx] at o4 n4 g4 e4
                subst e4
                rw [← hpl] at n4 g4
                exact Lg.step HS.out HL.out hp o4 n4 k4 g4 r6 g6
              clear r6 g6 b6 R4 HF
              go_wp2
              go_roundw
              case rel => exact ⟨u + 1, by omega, by go_num, am', cm', _, rfl, H6⟩
              case measure => simp [intOf]; omega
        · have hge : (t : Int) ≤ (u : Int) := by omega
          obtain rfl : u = t := by omega
          have HD : Hid (Lg w wr B u its (.slice am u cm) ms) := HL
          go_wp2
          go_loopw [9, 10] (fun i c wr2 => ∃ y : Nat, y ≤ u ∧ i = .int .i64 (y : Int) ∧ wr2 = wr) (fun i _ _ => u - (intOf i).toNat)
          case atStart => exact ⟨0, by omega, rfl, rfl⟩
          case round =>
            obtain ⟨y, hy, rfl, rfl⟩ := hrel
            by_cases hly : y < u
            · have hly2 : (y : Int) < (u : Int) := by omega
              have hy0 : (0 : Int) ≤ (y : Int) := by omega
              obtain ⟨p, gL, al, cl, hp, hpl, hx, rfl, c1⟩ := HS.out.item HD.out.fr hly
              obtain ⟨nx, hnx⟩ : ∃ nx, nx = p.xs.length := ⟨_, rfl⟩
              obtain ⟨gM, rfl, cM⟩ := HD.out.row.at hly
              have hyl : y < ms.length := by have := HD.out.row.1; omega
              obtain ⟨O2, _⟩ := HD.out.new y p ms[y] hp (by simp [hyl])
              have RO := HD.out.old y p hp
              obtain ⟨a2, c2, e2⟩ := own_form O2.2
              rw [List.getElem?_eq_getElem hyl, e2] at cM
              rw [e2] at O2
              have RN := O2.rd (rep_bys _ _ (mkOf_lt y)) (by omega)
              rw [hpl] at RO
              rw [← hnx] at c1 hx cM RN RO
              have HRR := Lib.hid (And.intro RN RO)
              clear O2 RN RO e2 hp hpl hnx
              go_wp2
              go_loopw [10] (fun c wr2 => ∃ q : Nat, q ≤ nx + 70 ∧ c = .int .i64 (q : Int) ∧ wr2 = wr) (fun c _ => nx + 70 - (intOf c).toNat)
              case atStart => exact ⟨0, by omega, rfl, rfl⟩
              case round =>
                obtain ⟨q, hq, rfl, rfl⟩ := hrel
                by_cases hlq : q < nx + 70
                · have hlq2 : (q : Int) < (nx : Int) + 70 := by omega
                  have hq0 : (0 : Int) ≤ (q : Int) := by omega
                  rcases rd_some HRR.out.1 with ⟨_, h0, _⟩ | ⟨b2, off2, rfl⟩
                  · omega
                  obtain ⟨cq, _⟩ := rd_cell HRR.out.1 q hlq
                  have e : (List.replicate (nx + 70) (mkOf y)).getD q 0 = mkOf y := by simp [List.getD, hlq]
                  rw [e, mkOf_int] at cq
                  clear e
                  by_cases hlx : q < nx
                  · have hlx2 : (q : Int) < (nx : Int) := by omega
                    rcases rd_some HRR.out.2 with ⟨_, h0, _⟩ | ⟨b3, off3, rfl⟩
                    · omega
                    obtain ⟨cx, _⟩ := rd_cell HRR.out.2 q hlx
                    have e : (List.replicate nx (mkOf y)).getD q 0 = mkOf y := by simp [List.getD, hlx]
                    rw [e, mkOf_int] at cx
                    clear e
                    go_wp2
                    go_roundw
                    case rel => exact ⟨q + 1, by omega, by go_num, trivial⟩
                    case measure => simp [intOf]; omega
                  · have hgx : (nx : Int) ≤ (q : Int) := by omega
                    go_wp2
                    go_roundw
                    case rel => exact ⟨q + 1, by omega, by go_num, trivial⟩
                    case measure => simp [intOf]; omega
                · have hgq : (nx : Int) + 70 ≤ (q : Int) := by omega
                  go_wp2
                  go_roundw
                  case rel => exact ⟨y + 1, by omega, by go_num, trivial⟩
                  case measure => simp [intOf]; omega
            · have hgy : (u : Int) ≤ (y : Int) := by omega
              go_wp2
              go_ret
              exact ⟨rfl, HD.out.fr.below (fun p hp x hx => ((HS.out.own p hp).1.2.lt x hx).1) hB, HD.out.fr, fun wx k => HD.out.bs HS0.out HS.out k⟩

set_option maxRecDepth 100000 in
set_option maxHeartbeats 4000000 in
/-- Each still holds its mark. -/
theorem settled_any {w : World} {B g n : Nat} {its : List Item} (h : Bs w B g n its) (hn : n ≤ 1000) :
    Calls Try.prog 51 #[.pointer (some ⟨g, 0, none⟩)] w fun r w' => r = .returned (.bool true) ∧ w' = w := by
  have HS := Lib.hid h
  obtain ⟨aL, cL, aW, cW, h1, h2, h3⟩ := h.box
  have kl := h1.l
  have HRL := Lib.hid h2
  have HLN : Hid (n = its.length) := by unfold Hid; have := h2.1; simpa using this
  clear h h1 h2 h3
  go_enter Try.func51, Try.ntmps51
  go_wp2
  go_loopw [3, 4] (fun i c wr2 => ∃ y : Nat, y ≤ n ∧ i = .int .i64 (y : Int) ∧ wr2 = w) (fun i _ _ => n - (intOf i).toNat)
  case atStart => exact ⟨0, by omega, rfl, rfl⟩
  case round =>
    obtain ⟨y, hy, rfl, rfl⟩ := hrel
    by_cases hly : y < n
    · have hly2 : (y : Int) < (n : Int) := by omega
      have hy0 : (0 : Int) ≤ (y : Int) := by omega
      have hyi : y < its.length := by have := HLN.out; omega
      obtain ⟨gL, rfl, c1⟩ := HRL.out.at hly
      have RO := HS.out.marks y its[y] (by simp [hyi])
      obtain ⟨al, cl, e1⟩ : ∃ al cl, its[y].l = .slice al its[y].xs.length cl := by
        obtain ⟨_, a, cap, h2, _⟩ := RO
        exact ⟨a, cap, by simpa using h2⟩
      have e0 : (its.map Item.l)[y]? = some its[y].l := by simp [hyi]
      have hx := (HS.out.own its[y] (List.getElem_mem hyi)).2.2
      rw [e0, e1] at c1
      rw [e1] at RO
      obtain ⟨nx, hnx⟩ : ∃ nx, nx = its[y].xs.length := ⟨_, rfl⟩
      rw [← hnx] at c1 hx RO
      have HRR := Lib.hid RO
      clear RO e0 e1 hnx
      go_wp2
      go_loopw [4] (fun c wr2 => ∃ q : Nat, q ≤ nx ∧ c = .int .i64 (q : Int) ∧ wr2 = wr) (fun c _ => nx - (intOf c).toNat)
      case atStart => exact ⟨0, by omega, rfl, rfl⟩
      case round =>
        obtain ⟨q, hq, rfl, rfl⟩ := hrel
        by_cases hlq : q < nx
        · have hlq2 : (q : Int) < (nx : Int) := by omega
          have hq0 : (0 : Int) ≤ (q : Int) := by omega
          rcases rd_some HRR.out with ⟨_, h0, _⟩ | ⟨b2, off2, rfl⟩
          · omega
          obtain ⟨cq, _⟩ := rd_cell HRR.out q hlq
          have e : (List.replicate nx (mkOf y)).getD q 0 = mkOf y := by simp [List.getD, hlq]
          rw [e, mkOf_int] at cq
          clear e
          go_wp2
          go_roundw
          case rel => exact ⟨q + 1, by omega, by go_num, trivial⟩
          case measure => simp [intOf]; omega
        · have hgq : (nx : Int) ≤ (q : Int) := by omega
          go_wp2
          go_roundw
          case rel => exact ⟨y + 1, by omega, by go_num, trivial⟩
          case measure => simp [intOf]; omega
    · have hgy : (n : Int) ≤ (y : Int) := by omega
      go_wp2
      go_ret
      exact ⟨rfl, rfl⟩

end Go.Proofs.Ytjcpjpjccoeakaa
