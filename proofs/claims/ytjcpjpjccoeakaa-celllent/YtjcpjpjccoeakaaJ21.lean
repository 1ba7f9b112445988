import Derived.Test.YtjcpjpjccoeakaaCell53
import Derived.Deep.RegionHeld3
import Derived.Lib.Hide
import Derived.Test.YtjcpjpjccoeakaaJ18
import Derived.Test.YtjcpjpjccoeakaaJ13
namespace Go.Proofs.Ytjcpjpjccoeakaa
open Go.RowKit
set_option linter.unusedVariables false

set_option maxRecDepth 100000 in
set_option maxHeartbeats 16000000 in
theorem writtenE_any {e was other : EntD} {w : World} (he : EntD.Ok w e) (hw : EntD.Ok w was) (ho : EntD.Ok w other) (hs : EntD.Same e was) (hf : EntD.Fine e) :
    Calls Try.prog 45 #[.agg e.cells, .agg was.cells, .agg other.cells] w fun r w' => r = .returned (.bool true) ∧ Below w.heap.size w w' := by
  have HK : Hid (EntD.Ok w e ∧ EntD.Ok w was ∧ EntD.Ok w other) := ⟨he, hw, ho⟩
  have HI := Lib.hid (three_in w e was other)
  obtain ⟨K, hK⟩ : ∃ K, K = keyA e := ⟨_, rfl⟩
  obtain ⟨P, hP⟩ : ∃ P, P = packA e := ⟨_, rfl⟩
  obtain ⟨C, hC⟩ : ∃ C, C = checkS e := ⟨_, rfl⟩
  obtain ⟨S, hS⟩ : ∃ S, S = startL e.row := ⟨_, rfl⟩
  obtain ⟨T, hT⟩ : ∃ T, T = behindL e.row := ⟨_, rfl⟩
  obtain ⟨F, hF⟩ : ∃ F, F = rowE e.row := ⟨_, rfl⟩
  obtain ⟨M, hM⟩ : ∃ M, M = compareS e other := ⟨_, rfl⟩
  have HB : Hid (((Bys K ∧ K.length ≤ 6000) ∧ (Bys P ∧ P.length ≤ 6000)) ∧ ((Bys S ∧ S.length ≤ 520) ∧ (Bys T ∧ T.length ≤ 520))) := by
    unfold Hid; rw [hK, hP, hS, hT]; exact ⟨⟨keyA_ok hf, packA_ok hf⟩, ⟨startL_ok _ hf.1.1, behindL_ok _ hf.1.1⟩⟩
  have er : was.row = e.row := hs.2.2.2.2.1.symm
  have CKey : Hid (∀ wx, EntD.Ok wx e → Calls Try.prog 23 #[.agg e.cells] wx fun r w' => ∃ a m c, r = .returned (.tuple #[.slice a m c, .int .i64 (C : Int)]) ∧ Own w' wx.heap.size (.slice a m c) m K ∧ Below wx.heap.size wx w') := fun wx h => by rw [hC, hK]; exact key_all h
  have CRKey : Hid (∀ wx, EntD.Ok wx was → Calls Try.prog 41 #[.agg was.cells] wx fun r w' => ∃ a m c, r = .returned (.tuple #[.slice a m c, .int .i64 (C : Int)]) ∧ Own w' wx.heap.size (.slice a m c) m K ∧ Below wx.heap.size wx w') := fun wx h => by rw [hC, hK, check_same hs, keyA_same hs]; exact refKey_all h
  have CPack : Hid (∀ wx, EntD.Ok wx e → Calls Try.prog 27 #[.agg e.cells] wx fun r w' => ∃ a m c, r = .returned (.tuple #[.slice a m c, .int .i64 (C : Int)]) ∧ Own w' wx.heap.size (.slice a m c) m P ∧ Below wx.heap.size wx w') := fun wx h => by rw [hC, hP]; exact pack_all h
  have CRPack : Hid (∀ wx, EntD.Ok wx was → Calls Try.prog 42 #[.agg was.cells] wx fun r w' => ∃ a m c, r = .returned (.tuple #[.slice a m c, .int .i64 (C : Int)]) ∧ Own w' wx.heap.size (.slice a m c) m P ∧ Below wx.heap.size wx w') := fun wx h => by rw [hC, hP, check_same hs, packA_same hs]; exact refPack_all h
  have CStart : Hid (∀ wx, EntD.Ok wx e → Calls Try.prog 32 #[e.vr] wx fun r w' => ∃ a m c, r = .returned (.tuple #[.slice a m c, .int .i64 (F : Int)]) ∧ Own w' wx.heap.size (.slice a m c) m S ∧ Below wx.heap.size wx w') := fun wx h => by rw [hS, hF]; exact start_any h.1
  have CRStart : Hid (∀ wx, EntD.Ok wx was → Calls Try.prog 34 #[was.vr] wx fun r w' => ∃ a m c, r = .returned (.tuple #[.slice a m c, .int .i64 (F : Int)]) ∧ Own w' wx.heap.size (.slice a m c) m S ∧ Below wx.heap.size wx w') := fun wx h => by rw [hS, hF, ← er]; exact refStart_any h.1
  have CBeh : Hid (∀ wx, EntD.Ok wx e → Calls Try.prog 33 #[e.vr] wx fun r w' => ∃ a m c, r = .returned (.tuple #[.slice a m c, .int .i64 (F : Int)]) ∧ Own w' wx.heap.size (.slice a m c) m T ∧ Below wx.heap.size wx w') := fun wx h => by rw [hT, hF]; exact behind_any h.1
  have CRBeh : Hid (∀ wx, EntD.Ok wx was → Calls Try.prog 35 #[was.vr] wx fun r w' => ∃ a m c, r = .returned (.tuple #[.slice a m c, .int .i64 (F : Int)]) ∧ Own w' wx.heap.size (.slice a m c) m T ∧ Below wx.heap.size wx w') := fun wx h => by rw [hT, hF, ← er]; exact refBehind_any h.1
  have CC1 : Hid (∀ wx, EntD.Ok wx e → Calls Try.prog 24 #[.agg e.cells] wx fun r w' => r = .returned (.int .i64 (C : Int)) ∧ Below wx.heap.size wx w') := fun wx h => by rw [hC]; exact check_any h
  have CC2 : Hid (∀ wx, EntD.Ok wx was → Calls Try.prog 40 #[.agg was.cells] wx fun r w' => r = .returned (.int .i64 (C : Int)) ∧ Below wx.heap.size wx w') := fun wx h => by rw [hC, check_same hs]; exact refCheck_any h
  have CC3 : Hid (∀ wx, EntD.Ok wx e → EntD.Ok wx other → Calls Try.prog 20 #[.agg e.cells, .agg other.cells] wx fun r w' => r = .returned (.int .i64 M) ∧ Below wx.heap.size wx w') := fun wx h k => by rw [hM]; exact compare_any h k
  have CC4 : Hid (∀ wx, EntD.Ok wx was → EntD.Ok wx other → Calls Try.prog 21 #[.agg was.cells, .agg other.cells] wx fun r w' => r = .returned (.int .i64 M) ∧ Below wx.heap.size wx w') := fun wx h k => by rw [hM, compareS_same hs ⟨rfl, rfl, rfl, rfl, rfl, rfl, rfl⟩]; exact refCompare_any h k
  have RD : Hid (∀ (L : List Nat) (n : Nat) (wx : World) (B : Nat) (a : Option Addr) (m c : Nat), Bys L ∧ L.length ≤ n → n ≤ 6000 → Own wx B (.slice a m c) m L → Rd wx (.slice a m c) L) := fun L n wx B a m c h hn o => o.rd h.1 (by rw [o.1]; have := h.2; omega)
  clear he hw ho hs hf hK hP hC hS hT hF hM er
  have HK0 := Lib.hid (And.intro (HK.out.1.later HI.out.2.2.2) (And.intro (HK.out.2.1.later HI.out.2.2.2) (HK.out.2.2.later HI.out.2.2.2)))
  have I0 := Lib.hid (And.intro HI.out.1 (And.intro HI.out.2.1 HI.out.2.2.1))
  have B0 := Lib.hid HI.out.2.2.2
  obtain ⟨c0, c1, c2, c3, c4, c5, c6⟩ := I0.out.1.cells7
  clear HI HK
  simp only [EntD.cells] at HK0 I0 B0 c0 c1 c2 c3 c4 c5 c6 ⊢
  go_enter Try.func45, Try.ntmps45
  go_wp2_with fail
  refine (CKey.out _ HK0.out.1).mono ?_
  rintro r1 w1 ⟨a1, m1, k1, rfl, o1, hb1⟩
  have HK1 := Lib.hid (And.intro (HK0.out.1.later hb1) (And.intro (HK0.out.2.1.later hb1) (HK0.out.2.2.later hb1)))
  have I1 := Lib.hid (And.intro (I0.out.1.later hb1) (And.intro (I0.out.2.1.later hb1) (I0.out.2.2.later hb1)))
  have B1 := Lib.hid (B0.out.trans (hb1.mono B0.out.size))
  have O1 := Lib.hid o1
  clear HK0 I0 B0 o1 hb1 c0 c1 c2 c3 c4 c5 c6
  obtain ⟨c0, c1, c2, c3, c4, c5, c6⟩ := I1.out.2.1.cells7
  go_wp2_with fail
  refine (CRKey.out _ HK1.out.2.1).mono ?_
  rintro r2 w2 ⟨a2, m2, k2, rfl, o2, hb2⟩
  have HK2 := Lib.hid (And.intro (HK1.out.1.later hb2) (And.intro (HK1.out.2.1.later hb2) (HK1.out.2.2.later hb2)))
  have I2 := Lib.hid (And.intro (I1.out.1.later hb2) (And.intro (I1.out.2.1.later hb2) (I1.out.2.2.later hb2)))
  have B2 := Lib.hid (B1.out.trans (hb2.mono B1.out.size))
  have O2 := Lib.hid (And.intro (O1.out.later hb2) o2)
  clear HK1 I1 B1 o2 hb2 c0 c1 c2 c3 c4 c5 c6 O1
  obtain ⟨c0, c1, c2, c3, c4, c5, c6⟩ := I2.out.1.cells7
  go_wp2_with fail
  refine (CPack.out _ HK2.out.1).mono ?_
  rintro r3 w3 ⟨a3, m3, k3, rfl, o3, hb3⟩
  have HK3 := Lib.hid (And.intro (HK2.out.1.later hb3) (And.intro (HK2.out.2.1.later hb3) (HK2.out.2.2.later hb3)))
  have I3 := Lib.hid (And.intro (I2.out.1.later hb3) (And.intro (I2.out.2.1.later hb3) (I2.out.2.2.later hb3)))
  have B3 := Lib.hid (B2.out.trans (hb3.mono B2.out.size))
  have O3 := Lib.hid (And.intro (O2.out.1.later hb3) (And.intro (O2.out.2.later hb3) o3))
  clear HK2 I2 B2 o3 hb3 c0 c1 c2 c3 c4 c5 c6 O2
  obtain ⟨c0, c1, c2, c3, c4, c5, c6⟩ := I3.out.2.1.cells7
  go_wp2_with fail
  refine (CRPack.out _ HK3.out.2.1).mono ?_
  rintro r4 w4 ⟨a4, m4, k4, rfl, o4, hb4⟩
  have HK4 := Lib.hid (And.intro (HK3.out.1.later hb4) (And.intro (HK3.out.2.1.later hb4) (HK3.out.2.2.later hb4)))
  have I4 := Lib.hid (And.intro (I3.out.1.later hb4) (And.intro (I3.out.2.1.later hb4) (I3.out.2.2.later hb4)))
  have B4 := Lib.hid (B3.out.trans (hb4.mono B3.out.size))
  have O4 := Lib.hid (And.intro (O3.out.1.later hb4) (And.intro (O3.out.2.1.later hb4) (And.intro (O3.out.2.2.later hb4) o4)))
  clear HK3 I3 B3 o4 hb4 c0 c1 c2 c3 c4 c5 c6 O3
  obtain ⟨c0, c1, c2, c3, c4, c5, c6⟩ := I4.out.1.cells7
  go_wp2_with fail
  refine (CStart.out _ HK4.out.1).mono ?_
  rintro r5 w5 ⟨a5, m5, k5, rfl, o5, hb5⟩
  have HK5 := Lib.hid (And.intro (HK4.out.1.later hb5) (And.intro (HK4.out.2.1.later hb5) (HK4.out.2.2.later hb5)))
  have I5 := Lib.hid (And.intro (I4.out.1.later hb5) (And.intro (I4.out.2.1.later hb5) (I4.out.2.2.later hb5)))
  have B5 := Lib.hid (B4.out.trans (hb5.mono B4.out.size))
  have O5 := Lib.hid (And.intro (O4.out.1.later hb5) (And.intro (O4.out.2.1.later hb5) (And.intro (O4.out.2.2.1.later hb5) (And.intro (O4.out.2.2.2.later hb5) o5))))
  clear HK4 I4 B4 o5 hb5 c0 c1 c2 c3 c4 c5 c6 O4
  obtain ⟨c0, c1, c2, c3, c4, c5, c6⟩ := I5.out.2.1.cells7
  go_wp2_with fail
  refine (CRStart.out _ HK5.out.2.1).mono ?_
  rintro r6 w6 ⟨a6, m6, k6, rfl, o6, hb6⟩
  have HK6 := Lib.hid (And.intro (HK5.out.1.later hb6) (And.intro (HK5.out.2.1.later hb6) (HK5.out.2.2.later hb6)))
  have I6 := Lib.hid (And.intro (I5.out.1.later hb6) (And.intro (I5.out.2.1.later hb6) (I5.out.2.2.later hb6)))
  have B6 := Lib.hid (B5.out.trans (hb6.mono B5.out.size))
  have O6 := Lib.hid (And.intro (O5.out.1.later hb6) (And.intro (O5.out.2.1.later hb6) (And.intro (O5.out.2.2.1.later hb6) (And.intro (O5.out.2.2.2.1.later hb6) (And.intro (O5.out.2.2.2.2.later hb6) o6)))))
  clear HK5 I5 B5 o6 hb6 c0 c1 c2 c3 c4 c5 c6 O5
  obtain ⟨c0, c1, c2, c3, c4, c5, c6⟩ := I6.out.1.cells7
  go_wp2_with fail
  refine (CBeh.out _ HK6.out.1).mono ?_
  rintro r7 w7 ⟨a7, m7, k7, rfl, o7, hb7⟩
  have HK7 := Lib.hid (And.intro (HK6.out.1.later hb7) (And.intro (HK6.out.2.1.later hb7) (HK6.out.2.2.later hb7)))
  have I7 := Lib.hid (And.intro (I6.out.1.later hb7) (And.intro (I6.out.2.1.later hb7) (I6.out.2.2.later hb7)))
  have B7 := Lib.hid (B6.out.trans (hb7.mono B6.out.size))
  have O7 := Lib.hid (And.intro (O6.out.1.later hb7) (And.intro (O6.out.2.1.later hb7) (And.intro (O6.out.2.2.1.later hb7) (And.intro (O6.out.2.2.2.1.later hb7) (And.intro (O6.out.2.2.2.2.1.later hb7) (And.intro (O6.out.2.2.2.2.2.later hb7) o7))))))
  clear HK6 I6 B6 o7 hb7 c0 c1 c2 c3 c4 c5 c6 O6
  obtain ⟨c0, c1, c2, c3, c4, c5, c6⟩ := I7.out.2.1.cells7
  go_wp2_with fail
  refine (CRBeh.out _ HK7.out.2.1).mono ?_
  rintro r8 w8 ⟨a8, m8, k8, rfl, o8, hb8⟩
  have HK8 := Lib.hid (And.intro (HK7.out.1.later hb8) (And.intro (HK7.out.2.1.later hb8) (HK7.out.2.2.later hb8)))
  have I8 := Lib.hid (And.intro (I7.out.1.later hb8) (And.intro (I7.out.2.1.later hb8) (I7.out.2.2.later hb8)))
  have B8 := Lib.hid (B7.out.trans (hb8.mono B7.out.size))
  have O8 := Lib.hid (And.intro (O7.out.1.later hb8) (And.intro (O7.out.2.1.later hb8) (And.intro (O7.out.2.2.1.later hb8) (And.intro (O7.out.2.2.2.1.later hb8) (And.intro (O7.out.2.2.2.2.1.later hb8) (And.intro (O7.out.2.2.2.2.2.1.later hb8) (And.intro (O7.out.2.2.2.2.2.2.later hb8) o8)))))))
  clear HK7 I7 B7 o8 hb8 c0 c1 c2 c3 c4 c5 c6 O7
  have KS : Hid (∀ wx, Below w8.heap.size w8 wx → (wx.cell? ⟨w.heap.size, 0, none⟩ = some e.vr ∧ wx.cell? ⟨w.heap.size, 1, none⟩ = some (.int .i64 e.fam) ∧ wx.cell? ⟨w.heap.size, 2, none⟩ = some e.vq ∧ wx.cell? ⟨w.heap.size, 3, none⟩ = some (.int .i64 e.ts) ∧ wx.cell? ⟨w.heap.size, 4, none⟩ = some (.int .i64 e.seq) ∧ wx.cell? ⟨w.heap.size, 5, none⟩ = some (.int .i64 e.kind) ∧ wx.cell? ⟨w.heap.size, 6, none⟩ = some e.vv) ∧ (wx.cell? ⟨(w.heap.size + 1), 0, none⟩ = some was.vr ∧ wx.cell? ⟨(w.heap.size + 1), 1, none⟩ = some (.int .i64 was.fam) ∧ wx.cell? ⟨(w.heap.size + 1), 2, none⟩ = some was.vq ∧ wx.cell? ⟨(w.heap.size + 1), 3, none⟩ = some (.int .i64 was.ts) ∧ wx.cell? ⟨(w.heap.size + 1), 4, none⟩ = some (.int .i64 was.seq) ∧ wx.cell? ⟨(w.heap.size + 1), 5, none⟩ = some (.int .i64 was.kind) ∧ wx.cell? ⟨(w.heap.size + 1), 6, none⟩ = some was.vv) ∧ (wx.cell? ⟨(w.heap.size + 1 + 1), 0, none⟩ = some other.vr ∧ wx.cell? ⟨(w.heap.size + 1 + 1), 1, none⟩ = some (.int .i64 other.fam) ∧ wx.cell? ⟨(w.heap.size + 1 + 1), 2, none⟩ = some other.vq ∧ wx.cell? ⟨(w.heap.size + 1 + 1), 3, none⟩ = some (.int .i64 other.ts) ∧ wx.cell? ⟨(w.heap.size + 1 + 1), 4, none⟩ = some (.int .i64 other.seq) ∧ wx.cell? ⟨(w.heap.size + 1 + 1), 5, none⟩ = some (.int .i64 other.kind) ∧ wx.cell? ⟨(w.heap.size + 1 + 1), 6, none⟩ = some other.vv)) := fun wx h => ⟨(I8.out.1.later h).cells7, (I8.out.2.1.later h).cells7, (I8.out.2.2.later h).cells7⟩
  have OK8 : Hid (∀ wx, Below w8.heap.size w8 wx → EntD.Ok wx e ∧ EntD.Ok wx was ∧ EntD.Ok wx other) := fun wx h => ⟨HK8.out.1.later h, HK8.out.2.1.later h, HK8.out.2.2.later h⟩
  have D0 : Below w8.heap.size w8 w8.drew := (Below.refl _ _).drew
  go_wp2_with fail
  go_region_held3 (fun wx => (wx.cell? ⟨w.heap.size, 0, none⟩ = some e.vr ∧ wx.cell? ⟨w.heap.size, 1, none⟩ = some (.int .i64 e.fam) ∧ wx.cell? ⟨w.heap.size, 2, none⟩ = some e.vq ∧ wx.cell? ⟨w.heap.size, 3, none⟩ = some (.int .i64 e.ts) ∧ wx.cell? ⟨w.heap.size, 4, none⟩ = some (.int .i64 e.seq) ∧ wx.cell? ⟨w.heap.size, 5, none⟩ = some (.int .i64 e.kind) ∧ wx.cell? ⟨w.heap.size, 6, none⟩ = some e.vv) ∧ (wx.cell? ⟨(w.heap.size + 1), 0, none⟩ = some was.vr ∧ wx.cell? ⟨(w.heap.size + 1), 1, none⟩ = some (.int .i64 was.fam) ∧ wx.cell? ⟨(w.heap.size + 1), 2, none⟩ = some was.vq ∧ wx.cell? ⟨(w.heap.size + 1), 3, none⟩ = some (.int .i64 was.ts) ∧ wx.cell? ⟨(w.heap.size + 1), 4, none⟩ = some (.int .i64 was.seq) ∧ wx.cell? ⟨(w.heap.size + 1), 5, none⟩ = some (.int .i64 was.kind) ∧ wx.cell? ⟨(w.heap.size + 1), 6, none⟩ = some was.vv) ∧ (wx.cell? ⟨(w.heap.size + 1 + 1), 0, none⟩ = some other.vr ∧ wx.cell? ⟨(w.heap.size + 1 + 1), 1, none⟩ = some (.int .i64 other.fam) ∧ wx.cell? ⟨(w.heap.size + 1 + 1), 2, none⟩ = some other.vq ∧ wx.cell? ⟨(w.heap.size + 1 + 1), 3, none⟩ = some (.int .i64 other.ts) ∧ wx.cell? ⟨(w.heap.size + 1 + 1), 4, none⟩ = some (.int .i64 other.seq) ∧ wx.cell? ⟨(w.heap.size + 1 + 1), 5, none⟩ = some (.int .i64 other.kind) ∧ wx.cell? ⟨(w.heap.size + 1 + 1), 6, none⟩ = some other.vv)) (first | exact KS.out _ D0 | exact KS.out _ DD1 | exact KS.out _ DD2 | exact KS.out _ DD3 | exact KS.out _ DD4)
    (first
      | (go_at_call 24; refine (CC1.out _ (OK8.out _ D0).1).mono ?_; rintro e1 w9 ⟨rfl, hb9⟩; have DD1 := D0.trans (hb9.mono D0.size))
      | (go_at_call 40; refine (CC2.out _ (OK8.out _ DD1).2.1).mono ?_; rintro e2 w10 ⟨rfl, hb10⟩; have DD2 := DD1.trans (hb10.mono DD1.size))
      | (go_at_call 20; refine (CC3.out _ (OK8.out _ DD2).1 (OK8.out _ DD2).2.2).mono ?_; rintro e3 w11 ⟨rfl, hb11⟩; have DD3 := DD2.trans (hb11.mono DD2.size))
      | (go_at_call 21; refine (CC4.out _ (OK8.out _ DD3).2.1 (OK8.out _ DD3).2.2).mono ?_; rintro e4 w12 ⟨rfl, hb12⟩; have DD4 := DD3.trans (hb12.mono DD3.size)))
  have DZ := Lib.hid DD4
  clear D0 DD1 DD2 DD3 DD4 hb9 hb10 hb11 hb12 KS CC1 CC2 CC3 CC4
  go_wp2_with fail
  refine (alike_same (RD.out _ 6000 _ _ _ _ _ HB.out.1.1 (by decide) (O8.out.1.later DZ.out)) (RD.out _ 6000 _ _ _ _ _ HB.out.1.1 (by decide) (O8.out.2.1.later DZ.out))).mono ?_
  rintro q13 w13 ⟨rfl, hb13⟩
  have DZ' := Lib.hid (DZ.out.trans (hb13.mono DZ.out.size))
  clear DZ hb13
  have DZ := DZ'
  clear DZ'
  go_wp2_with fail
  refine (alike_same (RD.out _ 6000 _ _ _ _ _ HB.out.1.2 (by decide) (O8.out.2.2.1.later DZ.out)) (RD.out _ 6000 _ _ _ _ _ HB.out.1.2 (by decide) (O8.out.2.2.2.1.later DZ.out))).mono ?_
  rintro q14 w14 ⟨rfl, hb14⟩
  have DZ' := Lib.hid (DZ.out.trans (hb14.mono DZ.out.size))
  clear DZ hb14
  have DZ := DZ'
  clear DZ'
  go_wp2_with fail
  refine (alike_same (RD.out _ 520 _ _ _ _ _ HB.out.2.1 (by decide) (O8.out.2.2.2.2.1.later DZ.out)) (RD.out _ 520 _ _ _ _ _ HB.out.2.1 (by decide) (O8.out.2.2.2.2.2.1.later DZ.out))).mono ?_
  rintro q15 w15 ⟨rfl, hb15⟩
  have DZ' := Lib.hid (DZ.out.trans (hb15.mono DZ.out.size))
  clear DZ hb15
  have DZ := DZ'
  clear DZ'
  go_wp2_with fail
  refine (alike_same (RD.out _ 520 _ _ _ _ _ HB.out.2.2 (by decide) (O8.out.2.2.2.2.2.2.1.later DZ.out)) (RD.out _ 520 _ _ _ _ _ HB.out.2.2 (by decide) (O8.out.2.2.2.2.2.2.2.later DZ.out))).mono ?_
  rintro q16 w16 ⟨rfl, hb16⟩
  have DZ' := Lib.hid (DZ.out.trans (hb16.mono DZ.out.size))
  clear DZ hb16
  have DZ := DZ'
  clear DZ'
  go_wp2
  go_ret
  exact ⟨rfl, B8.out.trans (DZ.out.mono B8.out.size)⟩

end Go.Proofs.Ytjcpjpjccoeakaa

namespace Go.Proofs.Ytjcpjpjccoeakaa
open Go.RowKit
set_option linter.unusedVariables false

theorem Laid.set {w : World} {B g n c k : Nat} {bs : List Nat} (h : Laid w B (.slice (some ⟨g, 0, none⟩) n c) bs) (hk : k < bs.length) (v : Nat) : Laid (w.setCell ⟨g, k, none⟩ (.int .u8 (v : Int))) B (.slice (some ⟨g, 0, none⟩) n c) (bs.set k v) ∧ w.grownBy (w.setCell ⟨g, k, none⟩ (.int .u8 (v : Int))) (some g) := by
  obtain ⟨g2, c2, h1, h2, h3, h4⟩ := h
  simp only [Value.slice.injEq, Option.some.injEq] at h1
  obtain ⟨e1, rfl, rfl⟩ := h1
  obtain rfl : g = g2 := by injection e1
  have st := h4.2.stored k (.int .u8 (v : Int))
  refine ⟨⟨g, c, by simp, by simpa using h2, h3, ⟨by simp; rfl, ?_⟩⟩, st.2⟩
  have e : ((bs.set k v ++ marks5) ++ List.replicate 70 206) = ((bs ++ marks5) ++ List.replicate 70 206).set k v := by
    rw [List.set_append_left _ _ (by simp; omega), List.set_append_left _ _ hk]
  rw [e]
  have e2 : bv (((bs ++ marks5) ++ List.replicate 70 206).set k v) = (bv ((bs ++ marks5) ++ List.replicate 70 206)).set k (.int .u8 (v : Int)) := by simp [bv, List.map_set]
  rw [e2]
  simpa using st.1
theorem Laid.cellF {w : World} {B g n c k : Nat} {bs : List Nat} (h : Laid w B (.slice (some ⟨g, 0, none⟩) n c) bs) (hk : k < bs.length) : (∃ y : Nat, w.cell? ⟨g, k, none⟩ = some (.int .u8 (y : Int))) ∧ w.frozen? ⟨g, k, none⟩ = false := by
  obtain ⟨g2, c2, h1, h2, h3, h4⟩ := h
  simp only [Value.slice.injEq, Option.some.injEq] at h1
  obtain ⟨e1, rfl, rfl⟩ := h1
  obtain rfl : g = g2 := by injection e1
  refine ⟨⟨((bs ++ marks5) ++ List.replicate 70 206).getD k 0, ?_⟩, h4.2.frozenAt k⟩
  rw [h4.2.cellAt k (by omega)]
  exact bv_at _ _ (by simp; omega)

set_option maxRecDepth 100000 in
set_option maxHeartbeats 4000000 in
theorem put_any {w : World} {B g n c : Nat} {at_ by_ : Int} {bs : List Nat} (h : Laid w B (.slice (some ⟨g, 0, none⟩) n c) bs) (hl : bs.length ≤ 5000) (hb : Bys bs) :
    Calls Try.prog 73 #[.slice (some ⟨g, 0, none⟩) n c, .int .i64 at_, .int .i64 by_] w fun r w' => r = .returned (.tuple #[]) ∧ ∃ bs', bs'.length = bs.length ∧ Bys bs' ∧ Laid w' B (.slice (some ⟨g, 0, none⟩) n c) bs' ∧ w.grownBy w' (some g) := by
  have hn : n = bs.length := by
    obtain ⟨g2, c2, h1, _⟩ := h
    simp only [Value.slice.injEq] at h1
    exact h1.2.1
  have HL := Lib.hid h
  have HB := Lib.hid hb
  have HN := Lib.hid hn
  by_cases h0 : n = 0
  · subst h0
    clear h hn hb
    go_enter Try.func73, Try.ntmps73
    go_wp2
    first | go_ret | refine bodyPost_end (v := .tuple #[]) (by first | rfl | kernel_rfl) rfl ?_ | refine bodyPost_ret (v := .tuple #[]) (by first | rfl | kernel_rfl) rfl ?_
    exact ⟨rfl, bs, rfl, HB.out, HL.out, World.grownBy.refl _ _⟩
  · have hz0 : ((n : Int) == 0) = false := by simp; omega
    have hz1 : ¬ ((n : Int) = 0) := by omega
    obtain ⟨v, hv⟩ : ∃ v : Nat, (v : Int) = by_ % 256 := ⟨(by_ % 256).toNat, by omega⟩
    have hv256 : v < 256 := by omega
    have KEY : Hid (∀ k, k < n → ∃ bs', bs'.length = bs.length ∧ Bys bs' ∧ Laid (w.setCell ⟨g, k, none⟩ (.int .u8 (v : Int))) B (.slice (some ⟨g, 0, none⟩) n c) bs' ∧ w.grownBy (w.setCell ⟨g, k, none⟩ (.int .u8 (v : Int))) (some g)) := fun k hk => by
      have := HL.out.set (k := k) (by omega) v
      refine ⟨bs.set k v, by simp, fun x hx => ?_, this.1, this.2⟩
      rcases List.mem_or_eq_of_mem_set hx with h | h
      · exact HB.out x h
      · omega
    have CEL : Hid (∀ k, k < n → (∃ y : Nat, w.cell? ⟨g, k, none⟩ = some (.int .u8 (y : Int))) ∧ w.frozen? ⟨g, k, none⟩ = false) := fun k hk => HL.out.cellF (by omega)
    obtain ⟨z, hz⟩ : ∃ z, z = at_.tmod (n : Int) := ⟨_, rfl⟩
    have hzl : -(n : Int) < z ∧ z < (n : Int) := by
      rw [hz]
      have h1 := Int.tmod_lt_of_pos at_ (b := (n : Int)) (by omega)
      have h2 := Int.lt_tmod_of_pos at_ (b := (n : Int)) (by omega)
      omega
    clear h hb hn HL HB
    have HV := Lib.hid hv
    have hzs := hz.symm
    clear hz hv
    by_cases hneg : z < 0
    · obtain ⟨k, hk⟩ : ∃ k : Nat, z = (k : Int) - (n : Int) := ⟨(z + (n : Int)).toNat, by omega⟩
      subst hk
      have hkn : k < n := by omega
      have hkn' : (k : Int) < (n : Int) := by omega
      have hk0 : (0 : Int) ≤ (k : Int) := by omega
      have hwk : wrap64 (k : Int) = (k : Int) := by have := HN.out; unfold wrap64; omega
      obtain ⟨⟨y, hy⟩, hfz⟩ := CEL.out k hkn
      go_enter Try.func73, Try.ntmps73
      go_wp2
      refine bodyPost_end (v := .tuple #[]) (by first | rfl | kernel_rfl) rfl ?_
      refine ⟨rfl, ?_⟩
      have hk := KEY.out k hkn
      rw [HV.out] at hk
      exact hk
    · obtain ⟨k, hk⟩ : ∃ k : Nat, z = (k : Int) := ⟨z.toNat, by omega⟩
      subst hk
      have hkn : k < n := by omega
      have hkn' : (k : Int) < (n : Int) := by omega
      have hk0 : (0 : Int) ≤ (k : Int) := by omega
      have hwk : wrap64 (k : Int) = (k : Int) := by have := HN.out; unfold wrap64; omega
      obtain ⟨⟨y, hy⟩, hfz⟩ := CEL.out k hkn
      go_enter Try.func73, Try.ntmps73
      go_wp2
      refine bodyPost_end (v := .tuple #[]) (by first | rfl | kernel_rfl) rfl ?_
      refine ⟨rfl, ?_⟩
      have hk := KEY.out k hkn
      rw [HV.out] at hk
      exact hk

end Go.Proofs.Ytjcpjpjccoeakaa

namespace Go.Proofs.Ytjcpjpjccoeakaa
open Go.RowKit
set_option linter.unusedVariables false

set_option maxRecDepth 100000 in
theorem ref1Same_any {a b : Value} {xs ys : List Nat} {w : World} (ha : Rd w a xs) (hb : Rd w b ys) :
    Calls Try.prog 71 #[a, b] w fun e w' => e = .returned (.bool (decide (xs = ys))) ∧ w' = w := by
  have h1 := conv_str ha
  have h2 := conv_str hb
  go_enter Try.func71, Try.ntmps71
  go_wp2
  go_ret
  exact ⟨by rw [← beq_str ha.1 hb.1]; rfl, rfl⟩
theorem refRO_at {v : Value} {bs L : List Nat} {w : World} {P E : Nat} (hr : Rd w v bs) (z : Int) (k : Nat) (hz : z = (k : Int)) (hk : k ≤ bs.length) (h47 : bs.length ≤ 140737488355328) (q : ordR bs k = (L, P, E)) :
    Calls Try.prog 69 #[v, .int .i64 z] w fun e w' => ∃ a m c, e = .returned (.tuple #[.slice a m c, .int .i64 (P : Int), .int .i64 (E : Int)]) ∧ Own w' w.heap.size (.slice a m c) m L ∧ Below w.heap.size w w' := by
  subst hz
  have := refReadOrdered_in hr k hk h47
  rw [q] at this
  exact this
theorem refRF_at {v : Value} {bs : List Nat} {w : World} {V P E : Nat} (hr : Rd w v bs) (z : Int) (k : Nat) (hz : z = (k : Int)) (hk : k ≤ bs.length) (q : fallR bs k = (V, P, E)) :
    Calls Try.prog 70 #[v, .int .i64 z] w fun e w' => e = .returned (.tuple #[.int .i64 (V : Int), .int .i64 (P : Int), .int .i64 (E : Int)]) ∧ w' = w := by
  subst hz
  have := refReadFalling_in hr k hk
  rw [q] at this
  exact this
theorem refRF_b {v : Value} {bs : List Nat} {w : World} {V P E : Nat} (hr : Rd w v bs) (z : Int) (k : Nat) (hz : z = (k : Int)) (hk : k ≤ bs.length) (q : fallR bs k = (V, P, E)) :
    Calls Try.prog 70 #[v, .int .i64 z] w fun e w' => e = .returned (.tuple #[.int .i64 (V : Int), .int .i64 (P : Int), .int .i64 (E : Int)]) ∧ Below w.heap.size w w' :=
  (refRF_at hr z k hz hk q).mono fun _ _ h => ⟨h.1, by rw [h.2]; exact Below.refl _ _⟩
theorem one_inv {bs : List Nat} {k x P : Nat} (hk : k ≤ bs.length) (h : oneR bs k = (x, P, false)) : k < bs.length ∧ x = bs.getD k 0 ∧ P = k + 1 := by
  unfold oneR at h
  split at h
  · simp at h
  · rename_i n
    simp only [Prod.mk.injEq] at h
    exact ⟨by omega, h.1.symm, h.2.1.symm⟩
theorem ord_le {bs row : List Nat} {k p E : Nat} (h : k ≤ bs.length) (q : ordR bs k = (row, p, E)) : p ≤ bs.length := by have := ordR_le bs k h; rw [q] at this; exact this
theorem fall_le {bs : List Nat} {k v p E : Nat} (h : k ≤ bs.length) (q : fallR bs k = (v, p, E)) : p ≤ bs.length := by have := fallR_le bs k h; rw [q] at this; exact this
theorem nat_entry {D : EntD} (hc : checkS D = 0) (hv : D.val = []) (a b c : Value) : checkS ⟨a, ((D.fam.toNat : Nat) : Int), b, ((D.ts.toNat : Nat) : Int), ((D.seq.toNat : Nat) : Int), ((D.kind.toNat : Nat) : Int), c, D.row, D.qual, []⟩ = 0 ∧ keyL ⟨a, ((D.fam.toNat : Nat) : Int), b, ((D.ts.toNat : Nat) : Int), ((D.seq.toNat : Nat) : Int), ((D.kind.toNat : Nat) : Int), c, D.row, D.qual, []⟩ = keyL D := by
  refine ⟨checkS_eq hc hv a b c, ?_⟩
  obtain ⟨_, f, _, _, t, s, k, _⟩ := check_facts hc
  rw [Int.toNat_of_nonneg f.1, Int.toNat_of_nonneg (show 0 ≤ D.ts by omega), Int.toNat_of_nonneg s.1, Int.toNat_of_nonneg (show 0 ≤ D.kind by omega)]
  exact keyL_val D a b c []

theorem parse_plain_facts {bs row qual : List Nat} {p1 p4 p6 p7 E1 E4 E6 E7 ts sq : Nat} (q1 : ordR bs 0 = (row, p1, E1)) (hfm : bs.getD (p1 + 1) 0 ≠ 0) (q4 : ordR bs (p1 + 2) = (qual, p4, E4)) (q6 : fallR bs (p4 + 1) = (ts, p6, E6)) (q7 : fallR bs p6 = (sq, p7, E7)) (a b c : Value) (h : IsKey bs) :
    E1 = 0 ∧ p1 + 2 ≤ bs.length ∧ E4 = 0 ∧ p4 + 1 ≤ bs.length ∧ E6 = 0 ∧ E7 = 0 ∧ p7 + 1 = bs.length ∧ checkS ⟨a, ((bs.getD p1 0 : Nat) : Int), b, (ts : Int), (sq : Int), ((bs.getD p7 0 : Nat) : Int), c, row, qual, []⟩ = 0 ∧ keyL ⟨a, ((bs.getD p1 0 : Nat) : Int), b, (ts : Int), (sq : Int), ((bs.getD p7 0 : Nat) : Int), c, row, qual, []⟩ = bs := by
  obtain ⟨D, hc, hv, hk⟩ := h
  have l1 := ord_le (Nat.zero_le _) q1
  by_cases k5 : D.kind = 5
  · exfalso
    obtain ⟨u1, u2, u3, u6, u7, r1, r2, r3, r6, r7, r8⟩ := reads_fam hc k5
    rw [hk] at r1 r2 r3
    rw [q1] at r1
    simp only [Prod.mk.injEq] at r1
    obtain ⟨rfl, rfl, rfl⟩ := r1
    obtain ⟨a2, b2, rfl⟩ := one_inv l1 r2
    obtain ⟨a3, b3, rfl⟩ := one_inv (by omega) r3
    exact hfm b3.symm
  · obtain ⟨u1, u2, u3, u4, u5, u6, u7, r1, r2, r3, r4, r5, r6, r7, r8⟩ := reads_plain hc k5
    rw [hk] at r1 r2 r3 r4 r5 r6 r7 r8
    rw [q1] at r1
    simp only [Prod.mk.injEq] at r1
    obtain ⟨e1, rfl, rfl⟩ := r1
    obtain ⟨a2, b2, rfl⟩ := one_inv l1 r2
    obtain ⟨a3, b3, rfl⟩ := one_inv (by omega) r3
    rw [q4] at r4
    simp only [Prod.mk.injEq] at r4
    obtain ⟨e4, rfl, rfl⟩ := r4
    have l4 := ord_le (by omega) q4
    obtain ⟨a5, b5, rfl⟩ := one_inv l4 r5
    rw [q6] at r6
    simp only [Prod.mk.injEq] at r6
    obtain ⟨e6, rfl, rfl⟩ := r6
    have l6 := fall_le (by omega) q6
    rw [q7] at r7
    simp only [Prod.mk.injEq] at r7
    obtain ⟨e7, rfl, rfl⟩ := r7
    have l7 := fall_le l6 q7
    obtain ⟨a8, b8, e8⟩ := one_inv l7 r8
    have n := nat_entry hc hv a b c
    rw [hk] at n
    rw [← b2, ← b8, e1, e4, e6, e7]
    exact ⟨rfl, by omega, rfl, by omega, rfl, rfl, e8.symm, n.1, n.2⟩
theorem parse_fam_facts {bs row : List Nat} {p1 p6 p7 E1 E6 E7 ts sq : Nat} (q1 : ordR bs 0 = (row, p1, E1)) (hfm : bs.getD (p1 + 1) 0 = 0) (q6 : fallR bs (p1 + 2) = (ts, p6, E6)) (q7 : fallR bs p6 = (sq, p7, E7)) (a b c : Value) (h : IsKey bs) :
    E1 = 0 ∧ p1 + 2 ≤ bs.length ∧ E6 = 0 ∧ E7 = 0 ∧ p7 + 1 = bs.length ∧ checkS ⟨a, ((bs.getD p1 0 : Nat) : Int), b, (ts : Int), (sq : Int), ((bs.getD p7 0 : Nat) : Int), c, row, [], []⟩ = 0 ∧ keyL ⟨a, ((bs.getD p1 0 : Nat) : Int), b, (ts : Int), (sq : Int), ((bs.getD p7 0 : Nat) : Int), c, row, [], []⟩ = bs := by
  obtain ⟨D, hc, hv, hk⟩ := h
  have l1 := ord_le (Nat.zero_le _) q1
  by_cases k5 : D.kind = 5
  · obtain ⟨u1, u2, u3, u6, u7, r1, r2, r3, r6, r7, r8⟩ := reads_fam hc k5
    rw [hk] at r1 r2 r3 r6 r7 r8
    rw [q1] at r1
    simp only [Prod.mk.injEq] at r1
    obtain ⟨e1, rfl, rfl⟩ := r1
    obtain ⟨a2, b2, rfl⟩ := one_inv l1 r2
    obtain ⟨a3, b3, rfl⟩ := one_inv (by omega) r3
    rw [q6] at r6
    simp only [Prod.mk.injEq] at r6
    obtain ⟨e6, rfl, rfl⟩ := r6
    have l6 := fall_le (by omega) q6
    rw [q7] at r7
    simp only [Prod.mk.injEq] at r7
    obtain ⟨e7, rfl, rfl⟩ := r7
    have l7 := fall_le l6 q7
    obtain ⟨a8, b8, e8⟩ := one_inv l7 r8
    have n := nat_entry hc hv a b c
    rw [hk, (check_facts hc).2.2.2.1 k5] at n
    rw [← b2, ← b8, e1, e6, e7]
    exact ⟨rfl, by omega, rfl, rfl, e8.symm, n.1, n.2⟩
  · exfalso
    obtain ⟨u1, u2, u3, u4, u5, u6, u7, r1, r2, r3, r4, r5, r6, r7, r8⟩ := reads_plain hc k5
    rw [hk] at r1 r2 r3
    rw [q1] at r1
    simp only [Prod.mk.injEq] at r1
    obtain ⟨e1, rfl, rfl⟩ := r1
    obtain ⟨a2, b2, rfl⟩ := one_inv l1 r2
    obtain ⟨a3, b3, rfl⟩ := one_inv (by omega) r3
    rw [hfm] at b3
    cases b3
end Go.Proofs.Ytjcpjpjccoeakaa

namespace Go.Proofs.Ytjcpjpjccoeakaa
open Go.RowKit
set_option linter.unusedVariables false

theorem Own.put {w : World} {B g i m : Nat} {u x : Value} {bs : List Nat} (h : Own w B u m bs) (hg : g < B) : Own (w.setCell ⟨g, i, none⟩ x) B u m bs := by
  refine ⟨h.1, h.2.1, ?_⟩
  rcases h.2.2 with h5 | ⟨g3, cap, cur, h5, h6, h7, h8⟩
  · exact .inl h5
  · refine .inr ⟨g3, cap, cur, h5, h6, ?_, h8⟩
    rw [Below.heap_setCell w ⟨g, i, none⟩ x g3 (by simp; omega)]
    exact h7
theorem Own.fillo {w : World} {B g m : Nat} {u : Value} {bs : List Nat} {D : EntD} (h : Own w B u m bs) (hg : g < B) : Own (filled w g D) B u m bs :=
  (((((((h.put hg).put hg).put hg).put hg).put hg).put hg).put hg)
theorem three_boxes : (∀ w : World, EBox (((w.alloc (.cells #[.slice none 0 0, .int .i64 0, .slice none 0 0, .int .i64 0, .int .i64 0, .int .i64 0, .slice none 0 0] 35)).alloc (.cells #[.slice none 0 0, .int .i64 0, .slice none 0 0, .int .i64 0, .int .i64 0, .int .i64 0, .slice none 0 0] 35)).alloc (.cells #[.slice none 0 0, .int .i64 0, .slice none 0 0, .int .i64 0, .int .i64 0, .int .i64 0, .slice none 0 0] 35)) (w.heap.size) ⟨.slice none 0 0, 0, .slice none 0 0, 0, 0, 0, .slice none 0 0, [], [], []⟩) ∧ (∀ w : World, EBox (((w.alloc (.cells #[.slice none 0 0, .int .i64 0, .slice none 0 0, .int .i64 0, .int .i64 0, .int .i64 0, .slice none 0 0] 35)).alloc (.cells #[.slice none 0 0, .int .i64 0, .slice none 0 0, .int .i64 0, .int .i64 0, .int .i64 0, .slice none 0 0] 35)).alloc (.cells #[.slice none 0 0, .int .i64 0, .slice none 0 0, .int .i64 0, .int .i64 0, .int .i64 0, .slice none 0 0] 35)) (w.heap.size + 1) ⟨.slice none 0 0, 0, .slice none 0 0, 0, 0, 0, .slice none 0 0, [], [], []⟩) ∧ (∀ w : World, EBox (((w.alloc (.cells #[.slice none 0 0, .int .i64 0, .slice none 0 0, .int .i64 0, .int .i64 0, .int .i64 0, .slice none 0 0] 35)).alloc (.cells #[.slice none 0 0, .int .i64 0, .slice none 0 0, .int .i64 0, .int .i64 0, .int .i64 0, .slice none 0 0] 35)).alloc (.cells #[.slice none 0 0, .int .i64 0, .slice none 0 0, .int .i64 0, .int .i64 0, .int .i64 0, .slice none 0 0] 35)) (w.heap.size + 1 + 1) ⟨.slice none 0 0, 0, .slice none 0 0, 0, 0, 0, .slice none 0 0, [], [], []⟩) := by
  refine ⟨fun w => ?_, fun w => ?_, fun w => ?_⟩
  · exact (((EBox.new w ⟨.slice none 0 0, 0, .slice none 0 0, 0, 0, 0, .slice none 0 0, [], [], []⟩).later ((Below.refl _ _).alloc (Nat.le_refl _) _)).later ((Below.refl _ _).alloc (Nat.le_refl _) _))
  · have h := EBox.new (w.alloc (.cells #[.slice none 0 0, .int .i64 0, .slice none 0 0, .int .i64 0, .int .i64 0, .int .i64 0, .slice none 0 0] 35)) ⟨.slice none 0 0, 0, .slice none 0 0, 0, 0, 0, .slice none 0 0, [], [], []⟩
    rw [World.size_alloc] at h
    exact h.later ((Below.refl _ _).alloc (Nat.le_refl _) _)
  · have h := EBox.new ((w.alloc (.cells #[.slice none 0 0, .int .i64 0, .slice none 0 0, .int .i64 0, .int .i64 0, .int .i64 0, .slice none 0 0] 35)).alloc (.cells #[.slice none 0 0, .int .i64 0, .slice none 0 0, .int .i64 0, .int .i64 0, .int .i64 0, .slice none 0 0] 35)) ⟨.slice none 0 0, 0, .slice none 0 0, 0, 0, 0, .slice none 0 0, [], [], []⟩
    rw [World.size_alloc, World.size_alloc] at h
    exact h


end Go.Proofs.Ytjcpjpjccoeakaa
