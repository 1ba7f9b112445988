import Derived.Test.YtnjopfdeapclhaaJ34
import Derived.Lib.Hide
import Derived.Test.YtnjopfdeapclhaaJ21
import Derived.Test.YtnjopfdeapclhaaJ28
import Derived.Test.YtnjopfdeapclhaaJ31
import Derived.Test.YtnjopfdeapclhaaJ22
namespace Go.Proofs.Ytnjopfdeapclhaa
open Go.RowKit
set_option linter.unusedVariables false

theorem mkOf_int (t : Nat) : ((mkOf t : Nat) : Int) = 1 + (t : Int) % 250 := by unfold mkOf; omega
set_option maxRecDepth 100000 in
set_option maxHeartbeats 8000000 in
theorem settle_any {w0 w : World} {B g n : Nat} {its : List Item} (hk0 : Bk w0 B g n its) (h0 : Below w0.heap.size w0 w) (hn : n ≤ 1000) (hB : B ≤ w.heap.size) :
    Calls Try.prog 25 #[.pointer (some ⟨g, 0, none⟩)] w fun r w' => r = .returned (.bool true) ∧ Below B w w' ∧ Fr w w' its ∧ ∀ wx, Below w0.heap.size w' wx → Bs wx B g n its := by
  obtain ⟨aL, cL, aW, cW, sb⟩ := hk0.sb
  have HS0 := Lib.hid sb
  have HS := Lib.hid (sb.later h0)
  have HK := Lib.hid (hk0.later h0)
  clear hk0 sb h0
  go_enter Try.func25, Try.ntmps25
  go_wp2_with fail
  refine (untouched_any HK.out hn).mono ?_
  rintro r w1 ⟨rfl, hb0⟩
  have F0 : Hid (Fr w w1 its) := (Fr.refl w its).later hb0
  have N0 : Hid (Now w1 B its (fillTo its 0)) := (Now.start HK.out).later hb0
  clear hb0
  go_wp2
  go_loopw [3, 4] (fun i c wr => ∃ t : Nat, t ≤ n ∧ i = .int .i64 (t : Int) ∧ Hid (Fr w wr its ∧ Now wr B its (fillTo its t))) (fun i _ _ => n - (intOf i).toNat)
  case atStart => exact ⟨0, by omega, rfl, F0.out, N0.out⟩
  case round =>
    obtain ⟨t, ht, rfl, HR⟩ := hrel
    have kl := (HS.out.kbox HR.out.1).l
    by_cases hlt : t < n
    · have hlt2 : (t : Int) < (n : Int) := by omega
      have ht0 : (0 : Int) ≤ (t : Int) := by omega
      obtain ⟨p, gL, al, cl, hp, hpl, hx, rfl, c1⟩ := HS.out.item HR.out.1 hlt
      obtain ⟨nx, hnx⟩ : ∃ nx, nx = p.xs.length := ⟨_, rfl⟩
      have HP := Lib.hid (And.intro hp (And.intro hpl hnx))
      rw [← hnx] at c1 hx
      clear hp hpl hnx
      go_wp2
      go_loopw [4] (fun c wr2 => ∃ q : Nat, q ≤ nx ∧ c = .int .i64 (q : Int) ∧ Hid (Fr w wr2 its ∧ Now wr2 B its (fillIn its t q))) (fun c _ => nx - (intOf c).toNat)
      case atStart => exact ⟨0, by omega, rfl, HR.out.1, HR.out.2.congr (fillIn_zero its t)⟩
      case round =>
        obtain ⟨q, hq, rfl, HR2⟩ := hrel
        have kl2 := (HS.out.kbox HR2.out.1).l
        clear kl c1
        obtain ⟨p', gL', al', cl', hp', hpl', _, eL, c2⟩ := HS.out.item HR2.out.1 hlt
        obtain rfl : p = p' := by have := HP.out.1; rw [hp'] at this; simpa using this.symm
        obtain rfl : gL = gL' := by simpa using eL
        rw [HP.out.2.1] at hpl'
        simp only [Value.slice.injEq] at hpl'
        obtain ⟨rfl, _, rfl⟩ := hpl'
        rw [← HP.out.2.2] at c2
        clear eL hp'
        by_cases hlq : q < nx
        · have hlq2 : (q : Int) < (nx : Int) := by omega
          have hq0 : (0 : Int) ≤ (q : Int) := by omega
          have own := HR2.out.2 t p HP.out.1
          rw [HP.out.2.1, ← HP.out.2.2] at own
          obtain ⟨gi, rfl⟩ : ∃ gi, al = some ⟨gi, 0, none⟩ := by
            rcases own.2.2 with ⟨h1, h2⟩ | ⟨gi, cap, cur, h1, _⟩
            · omega
            · simp only [Value.slice.injEq] at h1
              exact ⟨gi, h1.1⟩
          have hfz := own.2.frozenAt q
          have hcell : ∃ y : Nat, wr.cell? ⟨gi, q, none⟩ = some (.int .u8 (y : Int)) := by
            refine ⟨(fillIn its t q t).getD q 0, ?_⟩
            rw [own.2.cellAt q (by omega)]
            exact bv_at _ _ (by have := own.1; omega)
          obtain ⟨y, hcell⟩ := hcell
          clear own
          go_wp2
          go_roundw
          case rel =>
            have st := HR2.out.2.store HS.out.apart HP.out.1 (q := q) (mk := mkOf t) (by rw [HP.out.2.1])
            rw [mkOf_int] at st
            exact ⟨q + 1, by omega, by go_num, HR2.out.1.grow (set_grown _ gi q _) (fun x hx => .inr ⟨p, List.mem_of_getElem? HP.out.1, by cases hx; rw [HP.out.2.1]; rfl⟩), st.congr (fillIn_next (by rw [xsAt_eq HP.out.1, ← HP.out.2.2]; exact hlq))⟩
          case measure => simp [intOf]; omega
        · have hge : (nx : Int) ≤ (q : Int) := by omega
          obtain rfl : q = nx := by omega
          go_wp2
          go_roundw
          case rel =>
            refine ⟨t + 1, by omega, by go_num, HR2.out.1, HR2.out.2.congr (fun j => ?_)⟩
            have e := fillIn_end its t j
            rw [xsAt_eq HP.out.1, ← HP.out.2.2] at e
            exact e
          case measure => simp [intOf]; omega
    · have hge : (n : Int) ≤ (t : Int) := by omega
      obtain rfl : t = n := by omega
      have L0 : Hid (Lg w wr B 0 its (.slice none 0 0) []) := Lg.start HS.out HR.out.1 HR.out.2
      clear HR F0 N0
      go_wp2
      go_loopw [5, 6, 7, 8] (fun m i s c wr2 => ∃ u : Nat, u ≤ t ∧ i = .int .i64 (u : Int) ∧ ∃ am cm ms, m = .slice am u cm ∧ Hid (Lg w wr2 B u its (.slice am u cm) ms)) (fun _ i _ _ _ => t - (intOf i).toNat)
      case atStart => exact ⟨0, by omega, rfl, none, 0, [], rfl, L0⟩
      case round =>
        clear L0 kl
        obtain ⟨u, hu, rfl, am, cm, ms, rfl, HL⟩ := hrel
        have kl := (HS.out.kbox HL.out.fr).l
        by_cases hlu : u < t
        · have hlu2 : (u : Int) < (t : Int) := by omega
          have hu0 : (0 : Int) ≤ (u : Int) := by omega
          obtain ⟨p, gL, al, cl, hp, hpl, hx, rfl, c1⟩ := HS.out.item HL.out.fr hlu
          obtain ⟨nx, hnx⟩ : ∃ nx, nx = p.xs.length := ⟨_, rfl⟩
          have O1 := HL.out.rest u p (Nat.le_refl _) hp
          rw [hpl, ← hnx] at O1
          have HO := Lib.hid O1
          have HP := Lib.hid (And.intro hp (And.intro hpl hnx))
          have hBr : B ≤ wr.heap.size := Nat.le_trans hB HL.out.fr.size
          rw [← hnx] at c1 hx
          clear hp hpl hnx O1
          go_wp2
          go_loopw [7, 8] (fun s c wr2 => ∃ q a' m c', q ≤ 70 ∧ c = .int .i64 ((q : Nat) : Int) ∧ s = .slice a' m c' ∧ Own wr2 B (.slice a' m c') m (List.replicate (nx + q) (mkOf u)) ∧ Near wr (.slice al nx cl) (.slice a' m c') ∧ Keeps (mkOf u) wr wr2 ∧ wr.grownBy wr2 (Value.slice al nx cl).ownBlock ∧ B ≤ wr2.heap.size) (fun _ c _ => 70 - (intOf c).toNat)
          case atStart => exact ⟨0, al, nx, cl, by omega, rfl, rfl, HO.out, .inl rfl, Keeps.refl _ _, World.grownBy.refl _ _, hBr⟩
          case round =>
            clear kl c1
            obtain ⟨q, a4, m4, c4, hq, rfl, rfl, own4, N4, K4, gw4, hB4⟩ := hrel
            have hm4 : Hid (m4 = nx + q) := by unfold Hid; rw [own4.1]; simp
            have hm4b : m4 ≤ 100100 := by have := hm4.out; omega
            by_cases hlq : q < 70
            · have hlq2 : (q : Int) < 70 := by omega
              have HH : Hid (_ ∧ _ ∧ _) := ⟨N4, K4, gw4⟩
              clear N4 K4 gw4
              go_wp2_with (at_builtin; refine wpList_append_mark rfl _ _ rfl B a4 m4 c4 (mkOf u) _ rfl own4 [_] 1 rfl (by simp [bv, mkOf_int]) (by decide) (by omega) hB4 ?_; intro a5 m5 c5 w5 hm5 own5 gr5 ol5 nr5 kp5; refine Hid.out ?_)
              refine Lib.hid ?_
              rw [List.replicate_append_replicate] at own5
              have H5 : Hid (_ ∧ _ ∧ _ ∧ _) := ⟨own5, Near.on HH.out.1 nr5 HH.out.2.2.size, HH.out.2.1.trans kp5, grown_trans HH.out.2.2 gr5 HH.out.1⟩
              have hB5 : B ≤ w5.heap.size := Nat.le_trans hB4 gr5.size
              clear own5 nr5 kp5 gr5 ol5 HH hm5
              go_wp2
              go_roundw
              case rel => exact ⟨q + 1, a5, m5, c5, by omega, by go_num, rfl, H5.out.1, H5.out.2.1, H5.out.2.2.1, H5.out.2.2.2, hB5⟩
              case measure => simp [intOf]; omega
            · have hgq : (70 : Int) ≤ (q : Int) := by omega
              obtain rfl : q = 70 := by omega
              have R4 := HL.out.row.far gw4 (fun x hx hy => by
                have h1 := (HL.out.row.2.2.lt x hy).1
                have h2 := ((HS.out.own p (List.mem_of_getElem? HP.out.1)).1.2.lt x (by rw [HP.out.2.1, ← HP.out.2.2]; exact hx)).2
                omega)
              have HF : Hid (_ ∧ _ ∧ _ ∧ _) := ⟨own4, N4, K4, gw4⟩
              clear own4 N4 K4 gw4
              go_wp2_with (at_builtin; refine wpList_append_one rfl _ _ rfl w.heap.size am u cm ms rfl R4 (.slice a4 m4 c4) rfl rfl (by omega) (Nat.le_trans HL.out.fr.size HF.out.2.2.2.size) ?_; intro am' cm' w6 r6 g6 b6; refine Hid.out ?_)
              refine Lib.hid ?_
              have H6 : Hid (Lg w w6 B (u + 1) its (.slice am' (u + 1) cm') (ms ++ [.slice a4 m4 c4])) := by
                obtain ⟨o4, n4, k4, g4⟩ := HF.out
                obtain ⟨hp, hpl, hnx⟩ := HP.out
                have e4 := hm4.out
                rw [hnx] at o4 n4 g4 e4
                subst e4
                rw [← hpl] at n4 g4
                exact Lg.step HS.out HL.out hp o4 n4 k4 g4 r6 g6
              clear r6 g6 b6 R4 HF
              go_wp2
              go_roundw
              case rel => exact ⟨u + 1, by omega, by go_num, am', cm', _, rfl, H6⟩
              case measure => simp [intOf]; omega
        · have hge : (t : Int) ≤ (u : Int) := by omega
          obtain rfl : u = t := by omega
          have HD : Hid (Lg w wr B u its (.slice am u cm) ms) := HL
          go_wp2
          go_loopw [9, 10] (fun i c wr2 => ∃ y : Nat, y ≤ u ∧ i = .int .i64 (y : Int) ∧ wr2 = wr) (fun i _ _ => u - (intOf i).toNat)
          case atStart => exact ⟨0, by omega, rfl, rfl⟩
          case round =>
            obtain ⟨y, hy, rfl, rfl⟩ := hrel
            by_cases hly : y < u
            · have hly2 : (y : Int) < (u : Int) := by omega
              have hy0 : (0 : Int) ≤ (y : Int) := by omega
              obtain ⟨p, gL, al, cl, hp, hpl, hx, rfl, c1⟩ := HS.out.item HD.out.fr hly
              obtain ⟨nx, hnx⟩ : ∃ nx, nx = p.xs.length := ⟨_, rfl⟩
              obtain ⟨gM, rfl, cM⟩ := HD.out.row.at hly
              have hyl : y < ms.length := by have := HD.out.row.1; omega
              obtain ⟨O2, _⟩ := HD.out.new y p ms[y] hp (by simp [hyl])
              have RO := HD.out.old y p hp
              obtain ⟨a2, c2, e2⟩ := own_form O2.2
              rw [List.getElem?_eq_getElem hyl, e2] at cM
              rw [e2] at O2
              have RN := O2.rd (rep_bys _ _ (mkOf_lt y)) (by omega)
              rw [hpl] at RO
              rw [← hnx] at c1 hx cM RN RO
              have HRR := Lib.hid (And.intro RN RO)
              clear O2 RN RO e2 hp hpl hnx
              go_wp2
              go_loopw [10] (fun c wr2 => ∃ q : Nat, q ≤ nx + 70 ∧ c = .int .i64 (q : Int) ∧ wr2 = wr) (fun c _ => nx + 70 - (intOf c).toNat)
              case atStart => exact ⟨0, by omega, rfl, rfl⟩
              case round =>
                obtain ⟨q, hq, rfl, rfl⟩ := hrel
                by_cases hlq : q < nx + 70
                · have hlq2 : (q : Int) < (nx : Int) + 70 := by omega
                  have hq0 : (0 : Int) ≤ (q : Int) := by omega
                  rcases rd_some HRR.out.1 with ⟨_, h0, _⟩ | ⟨b2, off2, rfl⟩
                  · omega
                  obtain ⟨cq, _⟩ := rd_cell HRR.out.1 q hlq
                  have e : (List.replicate (nx + 70) (mkOf y)).getD q 0 = mkOf y := by simp [List.getD, hlq]
                  rw [e, mkOf_int] at cq
                  clear e
                  by_cases hlx : q < nx
                  · have hlx2 : (q : Int) < (nx : Int) := by omega
                    rcases rd_some HRR.out.2 with ⟨_, h0, _⟩ | ⟨b3, off3, rfl⟩
                    · omega
                    obtain ⟨cx, _⟩ := rd_cell HRR.out.2 q hlx
                    have e : (List.replicate nx (mkOf y)).getD q 0 = mkOf y := by simp [List.getD, hlx]
                    rw [e, mkOf_int] at cx
                    clear e
                    go_wp2
                    go_roundw
                    case rel => exact ⟨q + 1, by omega, by go_num, trivial⟩
                    case measure => simp [intOf]; omega
                  · have hgx : (nx : Int) ≤ (q : Int) := by omega
                    go_wp2
                    go_roundw
                    case rel => exact ⟨q + 1, by omega, by go_num, trivial⟩
                    case measure => simp [intOf]; omega
                · have hgq : (nx : Int) + 70 ≤ (q : Int) := by omega
                  go_wp2
                  go_roundw
                  case rel => exact ⟨y + 1, by omega, by go_num, trivial⟩
                  case measure => simp [intOf]; omega
            · have hgy : (u : Int) ≤ (y : Int) := by omega
              go_wp2
              go_ret
              exact ⟨rfl, HD.out.fr.below (fun p hp x hx => ((HS.out.own p hp).1.2.lt x hx).1) hB, HD.out.fr, fun wx k => HD.out.bs HS0.out HS.out k⟩

set_option maxRecDepth 100000 in
set_option maxHeartbeats 4000000 in
/-- Each still holds its mark. -/
theorem settled_any {w : World} {B g n : Nat} {its : List Item} (h : Bs w B g n its) (hn : n ≤ 1000) :
    Calls Try.prog 26 #[.pointer (some ⟨g, 0, none⟩)] w fun r w' => r = .returned (.bool true) ∧ w' = w := by
  have HS := Lib.hid h
  obtain ⟨aL, cL, aW, cW, h1, h2, h3⟩ := h.box
  have kl := h1.l
  have HRL := Lib.hid h2
  have HLN : Hid (n = its.length) := by unfold Hid; have := h2.1; simpa using this
  clear h h1 h2 h3
  go_enter Try.func26, Try.ntmps26
  go_wp2
  go_loopw [3, 4] (fun i c wr2 => ∃ y : Nat, y ≤ n ∧ i = .int .i64 (y : Int) ∧ wr2 = w) (fun i _ _ => n - (intOf i).toNat)
  case atStart => exact ⟨0, by omega, rfl, rfl⟩
  case round =>
    obtain ⟨y, hy, rfl, rfl⟩ := hrel
    by_cases hly : y < n
    · have hly2 : (y : Int) < (n : Int) := by omega
      have hy0 : (0 : Int) ≤ (y : Int) := by omega
      have hyi : y < its.length := by have := HLN.out; omega
      obtain ⟨gL, rfl, c1⟩ := HRL.out.at hly
      have RO := HS.out.marks y its[y] (by simp [hyi])
      obtain ⟨al, cl, e1⟩ : ∃ al cl, its[y].l = .slice al its[y].xs.length cl := by
        obtain ⟨_, a, cap, h2, _⟩ := RO
        exact ⟨a, cap, by simpa using h2⟩
      have e0 : (its.map Item.l)[y]? = some its[y].l := by simp [hyi]
      have hx := (HS.out.own its[y] (List.getElem_mem hyi)).2.2
      rw [e0, e1] at c1
      rw [e1] at RO
      obtain ⟨nx, hnx⟩ : ∃ nx, nx = its[y].xs.length := ⟨_, rfl⟩
      rw [← hnx] at c1 hx RO
      have HRR := Lib.hid RO
      clear RO e0 e1 hnx
      go_wp2
      go_loopw [4] (fun c wr2 => ∃ q : Nat, q ≤ nx ∧ c = .int .i64 (q : Int) ∧ wr2 = wr) (fun c _ => nx - (intOf c).toNat)
      case atStart => exact ⟨0, by omega, rfl, rfl⟩
      case round =>
        obtain ⟨q, hq, rfl, rfl⟩ := hrel
        by_cases hlq : q < nx
        · have hlq2 : (q : Int) < (nx : Int) := by omega
          have hq0 : (0 : Int) ≤ (q : Int) := by omega
          rcases rd_some HRR.out with ⟨_, h0, _⟩ | ⟨b2, off2, rfl⟩
          · omega
          obtain ⟨cq, _⟩ := rd_cell HRR.out q hlq
          have e : (List.replicate nx (mkOf y)).getD q 0 = mkOf y := by simp [List.getD, hlq]
          rw [e, mkOf_int] at cq
          clear e
          go_wp2
          go_roundw
          case rel => exact ⟨q + 1, by omega, by go_num, trivial⟩
          case measure => simp [intOf]; omega
        · have hgq : (nx : Int) ≤ (q : Int) := by omega
          go_wp2
          go_roundw
          case rel => exact ⟨y + 1, by omega, by go_num, trivial⟩
          case measure => simp [intOf]; omega
    · have hgy : (n : Int) ≤ (y : Int) := by omega
      go_wp2
      go_ret
      exact ⟨rfl, rfl⟩

end Go.Proofs.Ytnjopfdeapclhaa

namespace Go.Proofs.Ytnjopfdeapclhaa
open Go.RowKit Go.Shelf
set_option linter.unusedVariables false

/-- Two tables and the reference, while entries are added. -/
structure Ln (w : World) (tA tB rB B : Nat) (X : World) (L M R : List EntD) (rv : Value) : Prop where
  a : Tb (fun i => B ≤ i) X tA L ((pk L : Nat) : Int) false
  b : Tb (fun i => B ≤ i) X tB M ((pk M : Nat) : Int) false
  ref : LB X B rv R
  rb : RBx X rB rv false
  below : Below w.heap.size w X
  size : B ≤ X.heap.size
  ns : w.heap.size < tA ∧ tA < tB ∧ tB < rB ∧ rB < B
variable {w X Y : World} {tA tB rB B : Nat} {L M R : List EntD} {rv : Value}
theorem Ln.later (h : Ln w tA tB rB B X L M R rv) (k : Below X.heap.size X Y) : Ln w tA tB rB B Y L M R rv :=
  ⟨h.a.later k, h.b.later k, h.ref.later k, h.rb.later k, h.below.trans (k.mono h.below.size), Nat.le_trans h.size k.size, h.ns⟩
theorem Ln.addA {L' : List EntD} (h : Ln w tA tB rB B X L M R rv) (k : X.grownBy Y (some tA)) (t : Tb (fun i => B ≤ i) Y tA L' ((pk L' : Nat) : Int) false) : Ln w tA tB rB B Y L' M R rv := by
  obtain ⟨n1, n2, n3, n4⟩ := h.ns
  exact ⟨t, h.b.far k (fun x e => by cases e; omega), h.ref.far k (fun g e => by cases e; omega), h.rb.far k (fun e => by cases e; omega), h.below.grown k h.below.size (fun g e => by cases e; omega), Nat.le_trans h.size k.size, h.ns⟩
theorem Ln.addB {M' : List EntD} (h : Ln w tA tB rB B X L M R rv) (k : X.grownBy Y (some tB)) (t : Tb (fun i => B ≤ i) Y tB M' ((pk M' : Nat) : Int) false) : Ln w tA tB rB B Y L M' R rv := by
  obtain ⟨n1, n2, n3, n4⟩ := h.ns
  exact ⟨h.a.far k (fun x e => by cases e; omega), t, h.ref.far k (fun g e => by cases e; omega), h.rb.far k (fun e => by cases e; omega), h.below.grown k h.below.size (fun g e => by cases e; omega), Nat.le_trans h.size k.size, h.ns⟩
theorem Ln.setR {rv' : Value} {R' : List EntD} (h : Ln w tA tB rB B X L M R rv) (k : X.grownBy Y (some rB)) (r : RBx Y rB rv' false) (hl : LB X B rv' R') : Ln w tA tB rB B Y L M R' rv' := by
  obtain ⟨n1, n2, n3, n4⟩ := h.ns
  exact ⟨h.a.far k (fun x e => by cases e; omega), h.b.far k (fun x e => by cases e; omega), hl.far k (fun g e => by cases e; omega), r, h.below.grown k h.below.size (fun g e => by cases e; omega), Nat.le_trans h.size k.size, h.ns⟩

/-! What stays while nothing below N is changed. -/
theorem Tb.lo {G : Nat → Prop} {X Y : World} {t N : Nat} {L : List EntD} {k : Int} {f : Bool} (h : Tb G X t L k f) (hG : ∀ i, G i → i < N) (ht : t < N) (b : Below N X Y) : Tb G Y t L k f := by
  obtain ⟨p, T, h1, h2, h3⟩ := h.tree
  exact ⟨h.not, h.srt, h.good, h.few, p, T, (b.block t ht).trans h1, h2.kept ⟨b.size, fun i _ hg => b.block i (hG i hg)⟩, h3⟩
theorem Tb.cap {G : Nat → Prop} {X : World} {t : Nat} {L : List EntD} {k : Int} {f : Bool} (h : Tb G X t L k f) : Tb (fun i => G i ∧ i < X.heap.size) X t L k f := by
  obtain ⟨p, T, h1, h2, h3⟩ := h.tree
  exact ⟨fun hh => h.not hh.1, h.srt, h.good, h.few, p, T, h1, h2.lt, h3⟩
theorem RdL.lo {X Y : World} {v : Value} {xs : List EntD} {N : Nat} (h : RdL X v xs) (hN : X.heap.size ≤ N) (b : Below N X Y) : RdL Y v xs := h.later (b.mono hN)
theorem check_cut (x : EntD) : checkS x.cut = checkS x := by
  have e1 : (x.cut.row.length = 0 ∨ 256 < x.cut.row.length) ↔ (x.row.length = 0 ∨ 256 < x.row.length) := by
    unfold EntD.cut; simp only [List.length_take]; omega
  have e2 : (256 < x.cut.qual.length ∨ (0 < x.cut.qual.length ∧ x.cut.kind = 5)) ↔ (256 < x.qual.length ∨ (0 < x.qual.length ∧ x.kind = 5)) := by
    unfold EntD.cut; simp only [List.length_take]; omega
  have e3 : (4096 < x.cut.val.length ∨ (0 < x.cut.val.length ∧ x.cut.kind ≠ 1)) ↔ (4096 < x.val.length ∨ (0 < x.val.length ∧ x.kind ≠ 1)) := by
    unfold EntD.cut; simp only [List.length_take]; omega
  unfold checkS
  simp only [e1, e2, e3]
  rfl
theorem cut_good {x : EntD} (h : checkS x = 0) : EntD.Same x.cut x := by
  have c := check_facts h
  refine ⟨rfl, rfl, rfl, rfl, ?_, ?_, ?_⟩
  · exact List.take_of_length_le (by omega)
  · exact List.take_of_length_le (by omega)
  · exact List.take_of_length_le (by omega)
/-- Both Adds answer the same, where the reference's is of a copy that may be cut. -/
theorem both_add2 {R L R' L' : List EntD} {D e : EntD} {c c' : Nat} (hs : Sm R L) (hl : Srt L) (hce : checkS D = checkS e) (hde : checkS D = 0 → EntD.Same D e)
    (ht : (checkS D ≠ 0 ∧ c = checkS D ∧ L' = L) ∨ (checkS D = 0 ∧ (∃ y ∈ L, compareS D y = 0) ∧ c = 80 ∧ L' = L) ∨ (c = 0 ∧ checkS D = 0 ∧ (¬ ∃ y ∈ L, compareS D y = 0) ∧ ∃ A B x, L = A ++ B ∧ EntD.Same x D ∧ L' = A ++ x :: B ∧ Srt (A ++ x :: B)))
    (hr : (checkS e ≠ 0 ∧ c' = checkS e ∧ R' = R) ∨ (checkS e = 0 ∧ ∃ t, Spot R e t ∧ ((c' = 80 ∧ R' = R ∧ ∃ x, R[t]? = some x ∧ compareS x e = 0) ∨ (c' = 0 ∧ (∀ x, R[t]? = some x → compareS x e ≠ 0) ∧ ∃ x, EntD.Same x e ∧ R' = R.take t ++ x :: R.drop t)))) : c = c' ∧ Sm R' L' := by
  by_cases h0 : checkS D = 0
  · exact both_add hs hl (hde h0) ht hr
  · rcases ht with ⟨_, rfl, rfl⟩ | ⟨h1, _⟩ | ⟨_, h1, _⟩
    · rcases hr with ⟨_, rfl, rfl⟩ | ⟨k1, _⟩
      · exact ⟨hce, hs⟩
      · exact absurd (hce.trans k1) h0
    · exact absurd h1 h0
    · exact absurd h1 h0
end Go.Proofs.Ytnjopfdeapclhaa

namespace Go.Proofs.Ytnjopfdeapclhaa
open Go.RowKit Go.Shelf
set_option linter.unusedVariables false

theorem RdL.form {w : World} {v : Value} {xs : List EntD} (h : RdL w v xs) : ∃ a n c, v = .slice a n c := by
  obtain ⟨a, c, e⟩ := h.slice
  exact ⟨_, _, _, e⟩
/-- The byte strings of entries. -/
def strs : List EntD → List (Value × List Nat)
  | [] => []
  | x :: xs => (x.vr, x.row) :: (x.vq, x.qual) :: (x.vv, x.val) :: strs xs
theorem strs_app : ∀ (a b : List EntD), strs (a ++ b) = strs a ++ strs b
  | [], _ => rfl
  | x :: a, b => by simp [strs, strs_app a b]
theorem strs_len : ∀ (a : List EntD), (strs a).length = 3 * a.length
  | [] => rfl
  | x :: a => by simp only [strs, List.length_cons, strs_len a]; omega
theorem strs_mem : ∀ {xs : List EntD} {p : Value × List Nat}, p ∈ strs xs → ∃ x ∈ xs, p = (x.vr, x.row) ∨ p = (x.vq, x.qual) ∨ p = (x.vv, x.val)
  | x :: xs, p, h => by
    simp only [strs, List.mem_cons] at h
    rcases h with h | h | h | h
    · exact ⟨x, by simp, .inl h⟩
    · exact ⟨x, by simp, .inr (.inl h)⟩
    · exact ⟨x, by simp, .inr (.inr h)⟩
    · obtain ⟨y, hy, hp⟩ := strs_mem h
      exact ⟨y, by simp [hy], hp⟩
/-- What an entry's own byte strings may be. -/
def Small (x : EntD) : Prop := (Bys x.row ∧ x.row.length ≤ 256) ∧ (Bys x.qual ∧ x.qual.length ≤ 256) ∧ (Bys x.val ∧ x.val.length ≤ 4096)
theorem small_of {w : World} {x y : EntD} (h : EntD.Ok w x) (s : EntD.Same x y) (c : checkS y = 0) : Small x := by
  have f := check_facts ((checkS_same s).trans c)
  exact ⟨⟨h.1.1, by omega⟩, ⟨h.2.1.1, by omega⟩, ⟨h.2.2.1, by omega⟩⟩
theorem O3.ownV {w : World} {b : Nat} {x : EntD} (h : O3 w b x) (s : Small x) : OwnV w b x := ⟨s.1, s.2.1, s.2.2, h.row, h.qual, h.val, h.arq, h.arv, h.aqv⟩
theorem strs_block {x : EntD} {p : Value × List Nat} (hp : p = (x.vr, x.row) ∨ p = (x.vq, x.qual) ∨ p = (x.vv, x.val)) {g : Nat} (hg : p.1.ownBlock = some g) : x.vr.ownBlock = some g ∨ x.vq.ownBlock = some g ∨ x.vv.ownBlock = some g := by
  rcases hp with rfl | rfl | rfl
  · exact .inl hg
  · exact .inr (.inl hg)
  · exact .inr (.inr hg)
theorem strs_ap {w : World} {b : Nat} : ∀ {xs : List EntD}, (∀ x ∈ xs, O3 w b x) → xs.Pairwise Dsj → ((strs xs).map Prod.fst).Pairwise AP
  | [], _, _ => List.Pairwise.nil
  | x :: xs, ho, hd => by
    have hx := ho x (by simp)
    have hd' := List.pairwise_cons.1 hd
    have hz : ∀ v ∈ (strs xs).map Prod.fst, ∀ g, (x.vr.ownBlock = some g ∨ x.vq.ownBlock = some g ∨ x.vv.ownBlock = some g) → v.ownBlock ≠ some g := fun v hv g hg e => by
      obtain ⟨p, hp, rfl⟩ := List.mem_map.1 hv
      obtain ⟨y, hy, hpy⟩ := strs_mem hp
      exact hd'.1 y hy g hg (strs_block hpy e)
    simp only [strs, List.map_cons, List.pairwise_cons]
    refine ⟨fun v hv => ?_, fun v hv => ?_, fun v hv g hg => hz v hv g (.inr (.inr hg)), strs_ap (fun y hy => ho y (by simp [hy])) hd'.2⟩
    · simp only [List.mem_cons] at hv
      rcases hv with rfl | rfl | hv
      · exact hx.arq
      · exact hx.arv
      · exact fun g hg => hz v hv g (.inl hg)
    · simp only [List.mem_cons] at hv
      rcases hv with rfl | hv
      · exact hx.aqv
      · exact fun g hg => hz v hv g (.inr (.inl hg))
/-- A list that was just handed out joins what is yet to be kept. -/
theorem Pend.pushL {w w' : World} {B g n : Nat} {its : List Item} {vs : List (Value × List Nat)} {xs : List EntD} (h : Pend w B its vs) (hk : Bk w B g n its) (hb : Below w.heap.size w w') (ho : OL w' w.heap.size xs) (hB : B ≤ w.heap.size) (hs : ∀ x ∈ xs, Small x) : Pend w' B its (vs ++ strs xs) := by
  have hv : ∀ p ∈ strs xs, ∀ x, p.1.ownBlock = some x → w.heap.size ≤ x := fun p hp x hx => by
    obtain ⟨y, hy, hpy⟩ := strs_mem hp
    exact ((ho.own y hy).lt x (strs_block hpy hx)).1
  refine ⟨fun p hp => ?_, ?_, fun p hp => ?_⟩
  · rcases List.mem_append.1 hp with hp | hp
    · exact (h.later hb).own p hp
    · obtain ⟨y, hy, hpy⟩ := strs_mem hp
      have o := ho.own y hy
      have s := hs y hy
      rcases hpy with rfl | rfl | rfl
      · exact ⟨o.row.mono hB, s.1.1, by have := s.1.2; simp only; omega⟩
      · exact ⟨o.qual.mono hB, s.2.1.1, by have := s.2.1.2; simp only; omega⟩
      · exact ⟨o.val.mono hB, s.2.2.1, by have := s.2.2.2; simp only; omega⟩
  · rw [List.map_append, List.pairwise_append]
    refine ⟨h.ap, strs_ap ho.own ho.ap, fun u hu y hy => ?_⟩
    obtain ⟨p, hp, rfl⟩ := List.mem_map.1 hu
    obtain ⟨q, hq, rfl⟩ := List.mem_map.1 hy
    exact fun x hx hy => by have := ((h.own p hp).1.2.lt x hx).2; have := hv q hq x hy; omega
  · rcases List.mem_append.1 hp with hp | hp
    · exact h.hap p hp
    · exact Hap.new hk (hv p hp)
end Go.Proofs.Ytnjopfdeapclhaa

namespace Go.Proofs.Ytnjopfdeapclhaa
open Go.RowKit Go.Shelf
set_option linter.unusedVariables false

theorem grown_two (w : World) (b : Nat) (u v : Value) : w.grownBy ((w.setCell ⟨b, 0, none⟩ u).setCell ⟨b, 1, none⟩ v) (some b) :=
  ⟨rfl, rfl, rfl, by simp, fun i hi hne => (Below.heap_setCell _ _ _ _ (fun e => hne (by rw [e]))).trans (Below.heap_setCell _ _ _ _ (fun e => hne (by rw [e])))⟩
theorem RBx.two {w : World} {b : Nat} {v : Value} {f : Bool} (h : RBx w b v f) (u : Value) (g : Bool) : RBx ((w.setCell ⟨b, 0, none⟩ u).setCell ⟨b, 1, none⟩ (.bool g)) b u g := by
  have h1 := h.set0 u
  unfold RBx at *
  simp [World.setCell, Array.getElem?_modify, h]
/-- A list stays over a store into a box that is no block of its own. -/
theorem LB.put {X : World} {B nB : Nat} {v u : Value} {f : Bool} {R : List EntD} (h : LB X B v R) (nb : RBx X nB u f) (hne : R = [] ∨ ∀ b, v.ownBlock = some b → b ≠ nB) (v0 : Value) (g : Bool) : LB ((X.setCell ⟨nB, 0, none⟩ v0).setCell ⟨nB, 1, none⟩ (.bool g)) B v R := by
  have ku : KU X ((X.setCell ⟨nB, 0, none⟩ v0).setCell ⟨nB, 1, none⟩ (.bool g)) := (KU.set nb (by decide) 0 v0).trans (KU.set (nb.set0 v0) (by decide) 1 (.bool g))
  have gr := grown_two X nB v0 (.bool g)
  refine ⟨?_, fun x hx => (h.ents x hx).ku ku, h.row⟩
  obtain ⟨a, cap, rfl, h2, h3, h4, h5, h6⟩ := h.rd
  refine ⟨a, cap, rfl, h2, h3, h4, h5, fun i x hx => ?_⟩
  obtain ⟨k1, b, off, rfl, k3⟩ := h6 i x hx
  refine ⟨((h.ents x (List.mem_of_getElem? hx)).ku ku).ok, b, off, rfl, k3.far gr (fun e => ?_)⟩
  rcases hne with hne | hne
  · rw [hne] at hx; simp at hx
  · exact hne b rfl (by cases e; rfl)
/-- What Add of the reference leaves, and what both answer. -/
structure AddQ (B : Nat) (X : World) (x : EntD) (L M R : List EntD) (lv : Value) (R' : List EntD) (c : Nat) : Prop where
  ref : LB X B lv R'
  len : R'.length ≤ R.length + 1
  qa : ∀ L' c2, (checkS x ≠ 0 ∧ c2 = checkS x ∧ L' = L) ∨ (checkS x = 0 ∧ (∃ y ∈ L, compareS x y = 0) ∧ c2 = 80 ∧ L' = L) ∨ (c2 = 0 ∧ checkS x = 0 ∧ (¬ ∃ y ∈ L, compareS x y = 0) ∧ ∃ A B z, L = A ++ B ∧ EntD.Same z x ∧ L' = A ++ z :: B ∧ Srt (A ++ z :: B)) → c2 = c ∧ Sm R' L'
  qb : ∀ L' c2, (checkS x ≠ 0 ∧ c2 = checkS x ∧ L' = M) ∨ (checkS x = 0 ∧ (∃ y ∈ M, compareS x y = 0) ∧ c2 = 80 ∧ L' = M) ∨ (c2 = 0 ∧ checkS x = 0 ∧ (¬ ∃ y ∈ M, compareS x y = 0) ∧ ∃ A B z, M = A ++ B ∧ EntD.Same z x ∧ L' = A ++ z :: B ∧ Srt (A ++ z :: B)) → c2 = c ∧ Sm R' L'
theorem addQ_of {w wr Za w2 : World} {tA tB rB B : Nat} {L M R R' : List EntD} {rv lv : Value} {x K : EntD} {c : Nat} (h0 : Ln w tA tB rB B wr L M R rv) (hSL : Sm R L) (hSM : Sm R M) (sK : EntD.Same K x.cut) (D : Below wr.heap.size wr Za) (rl : RdL w2 lv R') (hb3 : Below Za.heap.size Za w2)
    (hcs : (checkS K ≠ 0 ∧ c = checkS K ∧ R' = R ∧ lv = rv) ∨ (checkS K = 0 ∧ ∃ t, Spot R K t ∧ ((c = 80 ∧ (R' = R ∧ lv = rv) ∧ ∃ y, R[t]? = some y ∧ compareS y K = 0) ∨ (c = 0 ∧ (∀ y, R[t]? = some y → compareS y K ≠ 0) ∧ ∃ y, EntD.Same y K ∧ R' = R.take t ++ y :: R.drop t ∧ EOk (fun i => Za.heap.size ≤ i) w2 y ∧ ∀ b, lv.ownBlock = some b → Za.heap.size ≤ b)))) :
    AddQ B w2 x L M R lv R' c ∧ (R' = [] ∨ ∀ b, lv.ownBlock = some b → b < wr.heap.size ∨ Za.heap.size ≤ b) := by
  have hZ := h0.later D
  have q2 := hZ.ref.later hb3
  have hce : checkS x = checkS K := by rw [checkS_same sK, check_cut]
  have hsm : checkS x = 0 → EntD.Same x K := fun h => (sK.trans (cut_good h)).symm
  have hr : (checkS K ≠ 0 ∧ c = checkS K ∧ R' = R) ∨ (checkS K = 0 ∧ ∃ t, Spot R K t ∧ ((c = 80 ∧ R' = R ∧ ∃ y, R[t]? = some y ∧ compareS y K = 0) ∨ (c = 0 ∧ (∀ y, R[t]? = some y → compareS y K ≠ 0) ∧ ∃ y, EntD.Same y K ∧ R' = R.take t ++ y :: R.drop t))) := by
    rcases hcs with ⟨h1, h2, h3, _⟩ | ⟨h1, t, h2, ⟨h3, ⟨h4, _⟩, h5⟩ | ⟨h3, h4, y, h5, h6, _⟩⟩
    · exact .inl ⟨h1, h2, h3⟩
    · exact .inr ⟨h1, t, h2, .inl ⟨h3, h4, h5⟩⟩
    · exact .inr ⟨h1, t, h2, .inr ⟨h3, h4, y, h5, h6⟩⟩
  have old : ∀ b, rv.ownBlock = some b → R = [] ∨ b < wr.heap.size := fun b hb => by
    obtain ⟨a, cap, rfl, _, _, _, _, h6⟩ := h0.ref.rd
    cases hR : R with
    | nil => exact .inl rfl
    | cons y ys =>
      obtain ⟨_, b', off, e, cs⟩ := h6 0 y (by rw [hR]; simp)
      subst e
      cases hb
      exact .inr (World.block_lt_of_cell? _ _ cs.1)
  refine ⟨⟨?_, ?_, fun L' c2 h => both_add2 hSL h0.a.srt hce hsm h hr, fun L' c2 h => both_add2 hSM h0.b.srt hce hsm h hr⟩, ?_⟩
  · rcases hcs with ⟨_, _, rfl, rfl⟩ | ⟨_, t, _, ⟨_, ⟨rfl, rfl⟩, _⟩ | ⟨_, _, y, _, rfl, oy, orow⟩⟩
    · exact q2
    · exact q2
    · refine ⟨rl, fun z hz => ?_, fun b hb => Nat.le_trans hZ.size (orow b hb)⟩
      simp only [List.mem_append, List.mem_cons] at hz
      rcases hz with hz | rfl | hz
      · exact q2.ents z (List.mem_of_mem_take hz)
      · exact oy.mono (fun i hi => Nat.le_trans hZ.size hi)
      · exact q2.ents z (List.mem_of_mem_drop hz)
  · rcases hcs with ⟨_, _, rfl, _⟩ | ⟨_, t, _, ⟨_, ⟨rfl, _⟩, _⟩ | ⟨_, _, y, _, rfl, _⟩⟩
    · omega
    · omega
    · simp only [List.length_append, List.length_cons, List.length_take, List.length_drop]; omega
  · rcases hcs with ⟨_, _, rfl, rfl⟩ | ⟨_, t, _, ⟨_, ⟨rfl, rfl⟩, _⟩ | ⟨_, _, y, _, rfl, _, orow⟩⟩
    · by_cases hR : R' = []
      · exact .inl hR
      · exact .inr fun b hb => .inl ((old b hb).resolve_left hR)
    · by_cases hR : R' = []
      · exact .inl hR
      · exact .inr fun b hb => .inl ((old b hb).resolve_left hR)
    · exact .inr fun b hb => .inr (orow b hb)
/-- Add of a table, as the reference's. -/
theorem add_q {G : Nat → Prop} {X : World} {t c : Nat} {L R' : List EntD} {x : EntD} (hb : Tb G X t L ((pk L : Nat) : Int) false) (he : EntD.Ok X x) (hG : ∀ i, X.heap.size ≤ i → G i) (hsz : L.length < 1000000000)
    (q : ∀ L' c2, (checkS x ≠ 0 ∧ c2 = checkS x ∧ L' = L) ∨ (checkS x = 0 ∧ (∃ y ∈ L, compareS x y = 0) ∧ c2 = 80 ∧ L' = L) ∨ (c2 = 0 ∧ checkS x = 0 ∧ (¬ ∃ y ∈ L, compareS x y = 0) ∧ ∃ A B z, L = A ++ B ∧ EntD.Same z x ∧ L' = A ++ z :: B ∧ Srt (A ++ z :: B)) → c2 = c ∧ Sm R' L') :
    Calls Try.prog 9 #[.pointer (some ⟨t, 0, none⟩), .agg x.cells] X fun z w' => z = .returned (.int .i64 (c : Int)) ∧ ∃ L', Tb G w' t L' ((pk L' : Nat) : Int) false ∧ Sm R' L' ∧ L'.length ≤ L.length + 1 ∧ X.grownBy w' (some t) := by
  refine (add_tc hb he hG hsz).mono ?_
  rintro z w' ⟨c2, rfl, hap, hcs2⟩
  have hg : X.grownBy w' (some t) := ⟨hap.os, hap.tape, hap.output, hap.size, fun i hi hne => hap.block i hi (fun e => hne (by rw [e]))⟩
  rcases hcs2 with ⟨p1, p2, p3⟩ | ⟨p1, p2, p3, p4⟩ | ⟨p1, p2, p3, A, C, y, p4, p5, p6⟩
  · obtain ⟨rfl, q2⟩ := q L c2 (.inl ⟨p1, p2, rfl⟩)
    exact ⟨rfl, L, p3, q2, by omega, hg⟩
  · obtain ⟨rfl, q2⟩ := q L c2 (.inr (.inl ⟨p1, p2, p3, rfl⟩))
    exact ⟨rfl, L, p4, q2, by omega, hg⟩
  · obtain ⟨rfl, q2⟩ := q (A ++ y :: C) c2 (.inr (.inr ⟨p1, p2, p3, A, C, y, p4, p5, rfl, p6.srt⟩))
    refine ⟨rfl, A ++ y :: C, ?_, q2, by rw [p4]; simp; omega, hg⟩
    have e : ((pk (A ++ y :: C) : Nat) : Int) = ((pk L : Nat) : Int) + ((packL x).length : Nat) := by rw [pk_ins A C p5, ← p4]; simp
    rw [e]; exact p6
end Go.Proofs.Ytnjopfdeapclhaa
