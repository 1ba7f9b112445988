import Derived.Test.YtjcpjpjccoeakaaJ31
import Derived.Test.YtjcpjpjccoeakaaCell65
import Derived.Deep.RegionHeld3
namespace Go.Proofs.Ytjcpjpjccoeakaa
open Go.RowKit
set_option linter.unusedVariables false

def again2Ops : Array Oper := #[{ dst := some 43, op := Op.move (Operand.tmp 11), type := 33, pos := "again.go:130", after := #[], guard := none }, { dst := some 44, op := Op.call { callee := Callee.value (Operand.func 31), args := #[Operand.tmp 43], argTypes := #[33] }, type := 33, pos := "again.go:130", after := #[{ on := 0, ground := Ground.data }], guard := none }, { dst := some 45, op := Op.load 35 (Operand.tmp 12), type := 35, pos := "again.go:130", after := #[], guard := none }, { dst := some 46, op := Op.call { callee := Callee.value (Operand.func 19), args := #[Operand.tmp 45], argTypes := #[35] }, type := 35, pos := "again.go:130", after := #[{ on := 2, ground := Ground.data }, { on := 1, ground := Ground.chain }], guard := none }, { dst := some 16, op := Op.alloc 35, type := 0, pos := "again.go:130", after := #[], guard := none }, { dst := some 15, op := Op.assign (Operand.tmp 44), type := 33, pos := "again.go:130", after := #[{ on := 1, ground := Ground.data }, { on := 3, ground := Ground.chain }, { on := 0, ground := Ground.phase }, { on := 1, ground := Ground.phase }, { on := 2, ground := Ground.textOnly Departure.lateStores }, { on := 3, ground := Ground.textOnly Departure.lateStoresUnsure }, { on := 4, ground := Ground.phase }], guard := none }, { dst := none, op := Op.store 35 (Operand.tmp 16) (Operand.tmp 46), type := 0, pos := "again.go:130", after := #[{ on := 4, ground := Ground.data }, { on := 3, ground := Ground.data }, { on := 5, ground := Ground.chain }, { on := 0, ground := Ground.phase }, { on := 1, ground := Ground.phase }, { on := 2, ground := Ground.phase }, { on := 3, ground := Ground.phase }, { on := 4, ground := Ground.phase }, { on := 5, ground := Ground.phase }], guard := none }]
def again2Act (s0 s1 s2 s3 s4 s6 s7 s10 s11 s12 s13 s14 s17 s18 s19 s20 s21 s22 s23 s24 s25 s26 s27 s28 s29 s30 s31 s32 s33 s34 s35 s36 s37 s38 s39 s40 s41 s42 s47 s48 s49 s50 s51 s52 s53 s54 s55 s56 s57 s58 s59 s60 s61 s62 s63 s64 s65 s66 s67 s68 s69 s70 s71 s72 s73 s74 s75 s76 s77 s78 s79 s80 s81 s82 s83 s84 s85 s86 s87 s88 s89 s90 s91 s92 s93 s94 s95 s96 s97 s98 s99 s100 s101 s102 s103 s104 s105 s106 s107 s108 s109 s110 s111 s112 s113 s114 s115 s116 s117 s118 s119 s120 s121 s122 s123 s124 s125 s126 s127 s128 s129 s130 v15 v16 v43 v44 v45 v46 : Value) : Act := ⟨#[s0, s1, s2, s3, s4, undef, s6, s7, undef, undef, s10, s11, s12, s13, s14, v15, v16, s17, s18, s19, s20, s21, s22, s23, s24, s25, s26, s27, s28, s29, s30, s31, s32, s33, s34, s35, s36, s37, s38, s39, s40, s41, s42, v43, v44, v45, v46, s47, s48, s49, s50, s51, s52, s53, s54, s55, s56, s57, s58, s59, s60, s61, s62, s63, s64, s65, s66, s67, s68, s69, s70, s71, s72, s73, s74, s75, s76, s77, s78, s79, s80, s81, s82, s83, s84, s85, s86, s87, s88, s89, s90, s91, s92, s93, s94, s95, s96, s97, s98, s99, s100, s101, s102, s103, s104, s105, s106, s107, s108, s109, s110, s111, s112, s113, s114, s115, s116, s117, s118, s119, s120, s121, s122, s123, s124, s125, s126, s127, s128, s129, s130, undef], []⟩

set_option maxRecDepth 100000 in
set_option maxHeartbeats 8000000 in
theorem again2_region {e0 : EntD} {g0 : Nat} {ba : Option Addr} {bn bc : Nat} {bs : List Nat} {X : World} (hr : Rd X (.slice ba bn bc) bs) (h47 : bs.length ≤ 140737488355328) (h0 : EBox X g0 e0) (k0 : EntD.Ok X e0) {s0 s1 s2 s3 s4 s6 s7 s10 s13 s14 s17 s18 s19 s20 s21 s22 s23 s24 s25 s26 s27 s28 s29 s30 s31 s32 s33 s34 s35 s36 s37 s38 s39 s40 s41 s42 s47 s48 s49 s50 s51 s52 s53 s54 s55 s56 s57 s58 s59 s60 s61 s62 s63 s64 s65 s66 s67 s68 s69 s70 s71 s72 s73 s74 s75 s76 s77 s78 s79 s80 s81 s82 s83 s84 s85 s86 s87 s88 s89 s90 s91 s92 s93 s94 s95 s96 s97 s98 s99 s100 s101 s102 s103 s104 s105 s106 s107 s108 s109 s110 s111 s112 s113 s114 s115 s116 s117 s118 s119 s120 s121 s122 s123 s124 s125 s126 s127 s128 s129 s130 z15 z16 z43 z44 z45 z46 : Value} (Q : Exit → Act → World → Prop)
    (hQ : Hid (∀ (b0 : Nat) (va0 : Option Addr) (vm0 : Nat) (vc0 : Nat) (t0 : Nat) (D1 : EntD) (t1 : Nat) (wF : World), EBox wF b0 D1 → X.heap.size ≤ b0 → Own wF X.heap.size (.slice va0 vm0 vc0) vm0 bs → (∀ g, (Value.slice va0 vm0 vc0).ownBlock = some g → X.heap.size ≤ g ∧ g < t0) → t0 ≤ wF.heap.size → LaidE wF X.heap.size D1 → Within D1 t0 t1 → EntD.Same D1 e0.cut → ApE D1 → t1 ≤ wF.heap.size → Below X.heap.size X wF → Q .normal (again2Act s0 s1 s2 s3 s4 s6 s7 s10 (.slice ba bn bc) (.pointer (some ⟨g0, 0, none⟩)) s13 s14 s17 s18 s19 s20 s21 s22 s23 s24 s25 s26 s27 s28 s29 s30 s31 s32 s33 s34 s35 s36 s37 s38 s39 s40 s41 s42 s47 s48 s49 s50 s51 s52 s53 s54 s55 s56 s57 s58 s59 s60 s61 s62 s63 s64 s65 s66 s67 s68 s69 s70 s71 s72 s73 s74 s75 s76 s77 s78 s79 s80 s81 s82 s83 s84 s85 s86 s87 s88 s89 s90 s91 s92 s93 s94 s95 s96 s97 s98 s99 s100 s101 s102 s103 s104 s105 s106 s107 s108 s109 s110 s111 s112 s113 s114 s115 s116 s117 s118 s119 s120 s121 s122 s123 s124 s125 s126 s127 s128 s129 s130 (.slice va0 vm0 vc0) (.pointer (some ⟨b0, 0, none⟩)) (.slice ba bn bc) (.slice va0 vm0 vc0) (.agg e0.cells) (.agg D1.cells)) wF)) :
    Code.wp Try.prog (Code.region 5 again2Ops true) Q (again2Act s0 s1 s2 s3 s4 s6 s7 s10 (.slice ba bn bc) (.pointer (some ⟨g0, 0, none⟩)) s13 s14 s17 s18 s19 s20 s21 s22 s23 s24 s25 s26 s27 s28 s29 s30 s31 s32 s33 s34 s35 s36 s37 s38 s39 s40 s41 s42 s47 s48 s49 s50 s51 s52 s53 s54 s55 s56 s57 s58 s59 s60 s61 s62 s63 s64 s65 s66 s67 s68 s69 s70 s71 s72 s73 s74 s75 s76 s77 s78 s79 s80 s81 s82 s83 s84 s85 s86 s87 s88 s89 s90 s91 s92 s93 s94 s95 s96 s97 s98 s99 s100 s101 s102 s103 s104 s105 s106 s107 s108 s109 s110 s111 s112 s113 s114 s115 s116 s117 s118 s119 s120 s121 s122 s123 s124 s125 s126 s127 s128 s129 s130 z15 z16 z43 z44 z45 z46) X := by
  have HK : Hid (EntD.Ok X e0 ∧ True) := ⟨k0, trivial⟩
  have HR : Hid (Rd X (.slice ba bn bc) bs ∧ bs.length ≤ 140737488355328) := ⟨hr, h47⟩
  have XD : Below X.heap.size X X.drew := (Below.refl _ _).drew
  have HB : Hid (EBox X g0 e0 ∧ True) := ⟨h0, trivial⟩
  clear h0 k0 hr h47
  refine wp_region_noPanic ?_
  have st2_1 : ∀ (wx : World) (b0 : Nat) (va0 : Option Addr) (vm0 : Nat) (vc0 : Nat) (t0 : Nat) (D1 : EntD) (t1 : Nat), (fun wx => EBox wx g0 e0 ∧ Below X.heap.size X wx) wx → EBox wx b0 zeroD → X.heap.size ≤ b0 → Own wx X.heap.size (.slice va0 vm0 vc0) vm0 bs → (∀ g, (Value.slice va0 vm0 vc0).ownBlock = some g → X.heap.size ≤ g ∧ g < t0) → t0 ≤ wx.heap.size → LaidE wx X.heap.size D1 → Within D1 t0 t1 → EntD.Same D1 e0.cut → ApE D1 → t1 ≤ wx.heap.size → wpAnyH Try.prog .any again2Ops (NoPanic Q) (fun wx => EBox wx g0 e0 ∧ Below X.heap.size X wx) 2 #[true, true, true, true, true, false, false] (again2Act s0 s1 s2 s3 s4 s6 s7 s10 (.slice ba bn bc) (.pointer (some ⟨g0, 0, none⟩)) s13 s14 s17 s18 s19 s20 s21 s22 s23 s24 s25 s26 s27 s28 s29 s30 s31 s32 s33 s34 s35 s36 s37 s38 s39 s40 s41 s42 s47 s48 s49 s50 s51 s52 s53 s54 s55 s56 s57 s58 s59 s60 s61 s62 s63 s64 s65 s66 s67 s68 s69 s70 s71 s72 s73 s74 s75 s76 s77 s78 s79 s80 s81 s82 s83 s84 s85 s86 s87 s88 s89 s90 s91 s92 s93 s94 s95 s96 s97 s98 s99 s100 s101 s102 s103 s104 s105 s106 s107 s108 s109 s110 s111 s112 s113 s114 s115 s116 s117 s118 s119 s120 s121 s122 s123 s124 s125 s126 s127 s128 s129 s130 z15 (.pointer (some ⟨b0, 0, none⟩)) (.slice ba bn bc) (.slice va0 vm0 vc0) (.agg e0.cells) (.agg D1.cells)) wx := by
    intro wx b0 va0 vm0 vc0 t0 D1 t1 hS x0 r0 f0 p0 m0 f1 p1 q1 a1 m1
    refine wpAnyH_ready (rs := [5]) (by kernel_rfl) (by simp) ?_
    refine AllReadyH.cons (o := { dst := some 15, op := Op.assign (Operand.tmp 44), type := 33, pos := "again.go:130", after := #[{ on := 1, ground := Ground.data }, { on := 3, ground := Ground.chain }, { on := 0, ground := Ground.phase }, { on := 1, ground := Ground.phase }, { on := 2, ground := Ground.textOnly Departure.lateStores }, { on := 3, ground := Ground.textOnly Departure.lateStoresUnsure }, { on := 4, ground := Ground.phase }], guard := none }) rfl (fun K hK => ?_) AllReadyH.nil
    rw [if_pos (by rfl)]
    refine wp_assign_tmp (v := (.slice va0 vm0 vc0)) rfl ?_
    refine hK.out _ _ ?_ (fun hS' => ?_)
    · exact ⟨hS.1, (hS.2)⟩
    refine wpAnyH_ready (rs := [6]) (by kernel_rfl) (by simp) ?_
    refine AllReadyH.cons (o := { dst := none, op := Op.store 35 (Operand.tmp 16) (Operand.tmp 46), type := 0, pos := "again.go:130", after := #[{ on := 4, ground := Ground.data }, { on := 3, ground := Ground.data }, { on := 5, ground := Ground.chain }, { on := 0, ground := Ground.phase }, { on := 1, ground := Ground.phase }, { on := 2, ground := Ground.phase }, { on := 3, ground := Ground.phase }, { on := 4, ground := Ground.phase }, { on := 5, ground := Ground.phase }], guard := none }) rfl (fun K hK => ?_) AllReadyH.nil
    rw [if_pos (by rfl)]
    have y0 : EBox wx b0 zeroD := x0
    refine wp_store_entry y0 f1 rfl rfl ?_
    refine hK.out _ _ ?_ (fun hS' => ?_)
    · exact ⟨(hS.1.apart (filled_apart _ b0 D1) (ne_of_lt_le (ebox_lt HB.out.1) r0)), ((hS.2).trans ((filled_apart _ b0 D1).below r0 (hS.2).size))⟩
    refine wpAnyH_done (by kernel_rfl) ?_ _
    exact NoPanic.normal (hQ.out b0 va0 vm0 vc0 t0 D1 t1 _ (filled_box y0 D1) r0 (f0.apartE y0 (filled_apart _ b0 D1)) p0 (Nat.le_trans m0 (filled_apart _ b0 D1).size) (f1.fillE (E := D1) y0) p1 q1 a1 (Nat.le_trans m1 (filled_apart _ b0 D1).size) ((hS.2).trans ((filled_apart _ b0 D1).below r0 (hS.2).size)))
  have st2_0 : ∀ (wx : World) (va0 : Option Addr) (vm0 : Nat) (vc0 : Nat) (t0 : Nat) (D1 : EntD) (t1 : Nat), (fun wx => EBox wx g0 e0 ∧ Below X.heap.size X wx) wx → Own wx X.heap.size (.slice va0 vm0 vc0) vm0 bs → (∀ g, (Value.slice va0 vm0 vc0).ownBlock = some g → X.heap.size ≤ g ∧ g < t0) → t0 ≤ wx.heap.size → LaidE wx X.heap.size D1 → Within D1 t0 t1 → EntD.Same D1 e0.cut → ApE D1 → t1 ≤ wx.heap.size → wpAnyH Try.prog .any again2Ops (NoPanic Q) (fun wx => EBox wx g0 e0 ∧ Below X.heap.size X wx) 3 #[true, true, true, true, false, false, false] (again2Act s0 s1 s2 s3 s4 s6 s7 s10 (.slice ba bn bc) (.pointer (some ⟨g0, 0, none⟩)) s13 s14 s17 s18 s19 s20 s21 s22 s23 s24 s25 s26 s27 s28 s29 s30 s31 s32 s33 s34 s35 s36 s37 s38 s39 s40 s41 s42 s47 s48 s49 s50 s51 s52 s53 s54 s55 s56 s57 s58 s59 s60 s61 s62 s63 s64 s65 s66 s67 s68 s69 s70 s71 s72 s73 s74 s75 s76 s77 s78 s79 s80 s81 s82 s83 s84 s85 s86 s87 s88 s89 s90 s91 s92 s93 s94 s95 s96 s97 s98 s99 s100 s101 s102 s103 s104 s105 s106 s107 s108 s109 s110 s111 s112 s113 s114 s115 s116 s117 s118 s119 s120 s121 s122 s123 s124 s125 s126 s127 s128 s129 s130 z15 z16 (.slice ba bn bc) (.slice va0 vm0 vc0) (.agg e0.cells) (.agg D1.cells)) wx := by
    intro wx va0 vm0 vc0 t0 D1 t1 hS f0 p0 m0 f1 p1 q1 a1 m1
    refine wpAnyH_ready (rs := [4]) (by kernel_rfl) (by simp) ?_
    refine AllReadyH.cons (o := { dst := some 16, op := Op.alloc 35, type := 0, pos := "again.go:130", after := #[], guard := none }) rfl (fun K hK => ?_) ?_
    · rw [if_pos (by rfl)]
      refine wp_alloc_entry ?_
      refine hK.out _ _ ?_ (fun hS' => ?_)
      · exact ⟨(hS.1).later ((Below.refl wx.heap.size wx).alloc (Nat.le_refl _) (.cells zeroD.cells 35)), (hS.2).trans (((Below.refl wx.heap.size wx).alloc (Nat.le_refl _) (.cells zeroD.cells 35)).mono (hS.2).size)⟩
      · exact st2_1 _ wx.heap.size va0 vm0 vc0 t0 D1 t1 hS' (EBox.new wx zeroD) (hS.2).size (f0.later ((Below.refl wx.heap.size wx).alloc (Nat.le_refl _) (.cells zeroD.cells 35))) p0 (Nat.le_trans m0 ((Below.refl wx.heap.size wx).alloc (Nat.le_refl _) (.cells zeroD.cells 35)).size) (f1.later ((Below.refl wx.heap.size wx).alloc (Nat.le_refl _) (.cells zeroD.cells 35))) p1 q1 a1 (Nat.le_trans m1 ((Below.refl wx.heap.size wx).alloc (Nat.le_refl _) (.cells zeroD.cells 35)).size)
    exact AllReadyH.nil
  have st1_1 : ∀ (wx : World) (b0 : Nat) (va0 : Option Addr) (vm0 : Nat) (vc0 : Nat) (t0 : Nat), (fun wx => EBox wx g0 e0 ∧ Below X.heap.size X wx) wx → EBox wx b0 zeroD → X.heap.size ≤ b0 → Own wx X.heap.size (.slice va0 vm0 vc0) vm0 bs → (∀ g, (Value.slice va0 vm0 vc0).ownBlock = some g → X.heap.size ≤ g ∧ g < t0) → t0 ≤ wx.heap.size → wpAnyH Try.prog .any again2Ops (NoPanic Q) (fun wx => EBox wx g0 e0 ∧ Below X.heap.size X wx) 3 #[true, true, true, false, true, false, false] (again2Act s0 s1 s2 s3 s4 s6 s7 s10 (.slice ba bn bc) (.pointer (some ⟨g0, 0, none⟩)) s13 s14 s17 s18 s19 s20 s21 s22 s23 s24 s25 s26 s27 s28 s29 s30 s31 s32 s33 s34 s35 s36 s37 s38 s39 s40 s41 s42 s47 s48 s49 s50 s51 s52 s53 s54 s55 s56 s57 s58 s59 s60 s61 s62 s63 s64 s65 s66 s67 s68 s69 s70 s71 s72 s73 s74 s75 s76 s77 s78 s79 s80 s81 s82 s83 s84 s85 s86 s87 s88 s89 s90 s91 s92 s93 s94 s95 s96 s97 s98 s99 s100 s101 s102 s103 s104 s105 s106 s107 s108 s109 s110 s111 s112 s113 s114 s115 s116 s117 s118 s119 s120 s121 s122 s123 s124 s125 s126 s127 s128 s129 s130 z15 (.pointer (some ⟨b0, 0, none⟩)) (.slice ba bn bc) (.slice va0 vm0 vc0) (.agg e0.cells) z46) wx := by
    intro wx b0 va0 vm0 vc0 t0 hS x0 r0 f0 p0 m0
    refine wpAnyH_ready (rs := [3]) (by kernel_rfl) (by simp) ?_
    refine AllReadyH.cons (o := { dst := some 46, op := Op.call { callee := Callee.value (Operand.func 19), args := #[Operand.tmp 45], argTypes := #[35] }, type := 35, pos := "again.go:130", after := #[{ on := 2, ground := Ground.data }, { on := 1, ground := Ground.chain }], guard := none }) rfl (fun K hK => ?_) ?_
    · rw [if_pos (by rfl)]
      refine wp_call_entry (entry_ap ((HK.out.1).later (hS.2))) rfl ?_
      rintro r w' ⟨D1, rfl, qN, lN, hb, aN⟩
      refine ⟨_, rfl, hK.out _ _ ?_ (fun hS' => ?_)⟩
      · exact ⟨(hS.1).later (hb), (hS.2).trans ((hb).mono (hS.2).size)⟩
      · exact st2_1 w' b0 va0 vm0 vc0 t0 D1 w'.heap.size hS' (x0.later (hb)) r0 (f0.later (hb)) p0 (Nat.le_trans m0 (hb).size) (lN.mono (hS.2).size) (lN.within.from_ m0) qN aN (Nat.le_refl _)
    exact AllReadyH.nil
  have st1_0 : ∀ (wx : World) (va0 : Option Addr) (vm0 : Nat) (vc0 : Nat) (t0 : Nat), (fun wx => EBox wx g0 e0 ∧ Below X.heap.size X wx) wx → Own wx X.heap.size (.slice va0 vm0 vc0) vm0 bs → (∀ g, (Value.slice va0 vm0 vc0).ownBlock = some g → X.heap.size ≤ g ∧ g < t0) → t0 ≤ wx.heap.size → wpAnyH Try.prog .any again2Ops (NoPanic Q) (fun wx => EBox wx g0 e0 ∧ Below X.heap.size X wx) 4 #[true, true, true, false, false, false, false] (again2Act s0 s1 s2 s3 s4 s6 s7 s10 (.slice ba bn bc) (.pointer (some ⟨g0, 0, none⟩)) s13 s14 s17 s18 s19 s20 s21 s22 s23 s24 s25 s26 s27 s28 s29 s30 s31 s32 s33 s34 s35 s36 s37 s38 s39 s40 s41 s42 s47 s48 s49 s50 s51 s52 s53 s54 s55 s56 s57 s58 s59 s60 s61 s62 s63 s64 s65 s66 s67 s68 s69 s70 s71 s72 s73 s74 s75 s76 s77 s78 s79 s80 s81 s82 s83 s84 s85 s86 s87 s88 s89 s90 s91 s92 s93 s94 s95 s96 s97 s98 s99 s100 s101 s102 s103 s104 s105 s106 s107 s108 s109 s110 s111 s112 s113 s114 s115 s116 s117 s118 s119 s120 s121 s122 s123 s124 s125 s126 s127 s128 s129 s130 z15 z16 (.slice ba bn bc) (.slice va0 vm0 vc0) (.agg e0.cells) z46) wx := by
    intro wx va0 vm0 vc0 t0 hS f0 p0 m0
    refine wpAnyH_ready (rs := [3, 4]) (by kernel_rfl) (by simp) ?_
    refine AllReadyH.cons (o := { dst := some 46, op := Op.call { callee := Callee.value (Operand.func 19), args := #[Operand.tmp 45], argTypes := #[35] }, type := 35, pos := "again.go:130", after := #[{ on := 2, ground := Ground.data }, { on := 1, ground := Ground.chain }], guard := none }) rfl (fun K hK => ?_) ?_
    · rw [if_pos (by rfl)]
      refine wp_call_entry (entry_ap ((HK.out.1).later (hS.2))) rfl ?_
      rintro r w' ⟨D1, rfl, qN, lN, hb, aN⟩
      refine ⟨_, rfl, hK.out _ _ ?_ (fun hS' => ?_)⟩
      · exact ⟨(hS.1).later (hb), (hS.2).trans ((hb).mono (hS.2).size)⟩
      · exact st2_0 w' va0 vm0 vc0 t0 D1 w'.heap.size hS' (f0.later (hb)) p0 (Nat.le_trans m0 (hb).size) (lN.mono (hS.2).size) (lN.within.from_ m0) qN aN (Nat.le_refl _)
    refine AllReadyH.cons (o := { dst := some 16, op := Op.alloc 35, type := 0, pos := "again.go:130", after := #[], guard := none }) rfl (fun K hK => ?_) ?_
    · rw [if_pos (by rfl)]
      refine wp_alloc_entry ?_
      refine hK.out _ _ ?_ (fun hS' => ?_)
      · exact ⟨(hS.1).later ((Below.refl wx.heap.size wx).alloc (Nat.le_refl _) (.cells zeroD.cells 35)), (hS.2).trans (((Below.refl wx.heap.size wx).alloc (Nat.le_refl _) (.cells zeroD.cells 35)).mono (hS.2).size)⟩
      · exact st1_1 _ wx.heap.size va0 vm0 vc0 t0 hS' (EBox.new wx zeroD) (hS.2).size (f0.later ((Below.refl wx.heap.size wx).alloc (Nat.le_refl _) (.cells zeroD.cells 35))) p0 (Nat.le_trans m0 ((Below.refl wx.heap.size wx).alloc (Nat.le_refl _) (.cells zeroD.cells 35)).size)
    exact AllReadyH.nil
  have st0_1 : ∀ (wx : World) (b0 : Nat), (fun wx => EBox wx g0 e0 ∧ Below X.heap.size X wx) wx → EBox wx b0 zeroD → X.heap.size ≤ b0 → wpAnyH Try.prog .any again2Ops (NoPanic Q) (fun wx => EBox wx g0 e0 ∧ Below X.heap.size X wx) 4 #[true, false, true, false, true, false, false] (again2Act s0 s1 s2 s3 s4 s6 s7 s10 (.slice ba bn bc) (.pointer (some ⟨g0, 0, none⟩)) s13 s14 s17 s18 s19 s20 s21 s22 s23 s24 s25 s26 s27 s28 s29 s30 s31 s32 s33 s34 s35 s36 s37 s38 s39 s40 s41 s42 s47 s48 s49 s50 s51 s52 s53 s54 s55 s56 s57 s58 s59 s60 s61 s62 s63 s64 s65 s66 s67 s68 s69 s70 s71 s72 s73 s74 s75 s76 s77 s78 s79 s80 s81 s82 s83 s84 s85 s86 s87 s88 s89 s90 s91 s92 s93 s94 s95 s96 s97 s98 s99 s100 s101 s102 s103 s104 s105 s106 s107 s108 s109 s110 s111 s112 s113 s114 s115 s116 s117 s118 s119 s120 s121 s122 s123 s124 s125 s126 s127 s128 s129 s130 z15 (.pointer (some ⟨b0, 0, none⟩)) (.slice ba bn bc) z44 (.agg e0.cells) z46) wx := by
    intro wx b0 hS x0 r0
    refine wpAnyH_ready (rs := [1]) (by kernel_rfl) (by simp) ?_
    refine AllReadyH.cons (o := { dst := some 44, op := Op.call { callee := Callee.value (Operand.func 31), args := #[Operand.tmp 43], argTypes := #[33] }, type := 33, pos := "again.go:130", after := #[{ on := 0, ground := Ground.data }], guard := none }) rfl (fun K hK => ?_) ?_
    · rw [if_pos (by rfl)]
      refine wp_call_copied (copied_any ((HR.out.1).later (hS.2)) HR.out.2) rfl ?_
      rintro r w' ⟨va0, vm0, vc0, rfl, lN, hb⟩
      refine ⟨_, rfl, hK.out _ _ ?_ (fun hS' => ?_)⟩
      · exact ⟨(hS.1).later (hb), (hS.2).trans ((hb).mono (hS.2).size)⟩
      · exact st1_1 w' b0 va0 vm0 vc0 w'.heap.size hS' (x0.later (hb)) r0 (lN.mono (hS.2).size) (fun g hg => ⟨Nat.le_trans (hS.2).size (lN.2.lt g hg).1, (lN.2.lt g hg).2⟩) (Nat.le_refl _)
    exact AllReadyH.nil
  have st0_0 : ∀ (wx : World), (fun wx => EBox wx g0 e0 ∧ Below X.heap.size X wx) wx → wpAnyH Try.prog .any again2Ops (NoPanic Q) (fun wx => EBox wx g0 e0 ∧ Below X.heap.size X wx) 5 #[true, false, true, false, false, false, false] (again2Act s0 s1 s2 s3 s4 s6 s7 s10 (.slice ba bn bc) (.pointer (some ⟨g0, 0, none⟩)) s13 s14 s17 s18 s19 s20 s21 s22 s23 s24 s25 s26 s27 s28 s29 s30 s31 s32 s33 s34 s35 s36 s37 s38 s39 s40 s41 s42 s47 s48 s49 s50 s51 s52 s53 s54 s55 s56 s57 s58 s59 s60 s61 s62 s63 s64 s65 s66 s67 s68 s69 s70 s71 s72 s73 s74 s75 s76 s77 s78 s79 s80 s81 s82 s83 s84 s85 s86 s87 s88 s89 s90 s91 s92 s93 s94 s95 s96 s97 s98 s99 s100 s101 s102 s103 s104 s105 s106 s107 s108 s109 s110 s111 s112 s113 s114 s115 s116 s117 s118 s119 s120 s121 s122 s123 s124 s125 s126 s127 s128 s129 s130 z15 z16 (.slice ba bn bc) z44 (.agg e0.cells) z46) wx := by
    intro wx hS
    refine wpAnyH_ready (rs := [1, 4]) (by kernel_rfl) (by simp) ?_
    refine AllReadyH.cons (o := { dst := some 44, op := Op.call { callee := Callee.value (Operand.func 31), args := #[Operand.tmp 43], argTypes := #[33] }, type := 33, pos := "again.go:130", after := #[{ on := 0, ground := Ground.data }], guard := none }) rfl (fun K hK => ?_) ?_
    · rw [if_pos (by rfl)]
      refine wp_call_copied (copied_any ((HR.out.1).later (hS.2)) HR.out.2) rfl ?_
      rintro r w' ⟨va0, vm0, vc0, rfl, lN, hb⟩
      refine ⟨_, rfl, hK.out _ _ ?_ (fun hS' => ?_)⟩
      · exact ⟨(hS.1).later (hb), (hS.2).trans ((hb).mono (hS.2).size)⟩
      · exact st1_0 w' va0 vm0 vc0 w'.heap.size hS' (lN.mono (hS.2).size) (fun g hg => ⟨Nat.le_trans (hS.2).size (lN.2.lt g hg).1, (lN.2.lt g hg).2⟩) (Nat.le_refl _)
    refine AllReadyH.cons (o := { dst := some 16, op := Op.alloc 35, type := 0, pos := "again.go:130", after := #[], guard := none }) rfl (fun K hK => ?_) ?_
    · rw [if_pos (by rfl)]
      refine wp_alloc_entry ?_
      refine hK.out _ _ ?_ (fun hS' => ?_)
      · exact ⟨(hS.1).later ((Below.refl wx.heap.size wx).alloc (Nat.le_refl _) (.cells zeroD.cells 35)), (hS.2).trans (((Below.refl wx.heap.size wx).alloc (Nat.le_refl _) (.cells zeroD.cells 35)).mono (hS.2).size)⟩
      · exact st0_1 _ wx.heap.size hS' (EBox.new wx zeroD) (hS.2).size
    exact AllReadyH.nil
  refine wp_region_held_drew (S := (fun wx => EBox wx g0 e0 ∧ Below X.heap.size X wx)) (by kernel_rfl) ⟨HB.out.1.later XD, XD⟩ (fun hS => ?_)
  refine wpAnyH_take (i := 0) (oi := { dst := some 43, op := Op.move (Operand.tmp 11), type := 33, pos := "again.go:130", after := #[], guard := none }) (v := .slice ba bn bc) rfl (by kernel_rfl) (by kernel_rfl) (by kernel_rfl) (fun _ _ _ h => h) (Or.inl ⟨by rfl, fun w hw => move_tmp rfl⟩) hS ?_
  refine wpAnyH_take (i := 2) (oi := { dst := some 45, op := Op.load 35 (Operand.tmp 12), type := 35, pos := "again.go:130", after := #[], guard := none }) (v := .agg e0.cells) rfl (by kernel_rfl) (by kernel_rfl) (by kernel_rfl) (fun _ _ _ h => h) (Or.inl ⟨by rfl, fun w hw => load_entry (hw.1) rfl⟩) hS ?_
  exact st0_0 _ hS
end Go.Proofs.Ytjcpjpjccoeakaa

namespace Go.Proofs.Ytjcpjpjccoeakaa
open Go.RowKit
set_option linter.unusedVariables false

structure TurnD where
  k : Int
  a : Int
  b : Int
/-- A list of turns reads as these. -/
def RdT (w : World) (v : Value) (ts : List TurnD) : Prop := ∃ a cap, v = .slice a ts.length cap ∧ ts.length ≤ cap ∧ cap ≤ maxLen ∧ ts.length ≤ 281474976710656 ∧ (ts = [] ∨ ∃ b off, a = some ⟨b, off, none⟩ ∧ ∀ i f, ts[i]? = some f → w.cell? ⟨b, off + i * 3, none⟩ = some (.int .i64 f.k) ∧ w.cell? ⟨b, off + i * 3 + 1, none⟩ = some (.int .i64 f.a) ∧ w.cell? ⟨b, off + i * 3 + 2, none⟩ = some (.int .i64 f.b))
theorem RdT.later {w w' : World} {v : Value} {fs : List TurnD} (h : RdT w v fs) (hb : Below w.heap.size w w') : RdT w' v fs := by
  obtain ⟨a, cap, h1, h2, h3, h4, h5⟩ := h
  refine ⟨a, cap, h1, h2, h3, h4, ?_⟩
  rcases h5 with h5 | ⟨b, off, rfl, hc⟩
  · exact .inl h5
  · refine .inr ⟨b, off, rfl, fun i f hf => ?_⟩
    obtain ⟨c0, c1, c2⟩ := hc i f hf
    exact ⟨by rw [hb.cell (p := ⟨b, off + i * 3, none⟩) (World.block_lt_of_cell? w _ c0)]; exact c0, by rw [hb.cell (p := ⟨b, off + i * 3 + 1, none⟩) (World.block_lt_of_cell? w _ c1)]; exact c1, by rw [hb.cell (p := ⟨b, off + i * 3 + 2, none⟩) (World.block_lt_of_cell? w _ c2)]; exact c2⟩
/-- What stands between two rounds. -/
structure Ag (w wr : World) (o : EntD) (qi qf : Nat) (vb : Value) (I Fd : EntD) (bs : List Nat) : Prop where
  ei : EBox wr qi I
  ef : EBox wr qf Fd
  eo : EBox wr (w.heap.size + 1) o
  li : LaidE wr w.heap.size I
  lf : LaidE wr w.heap.size Fd
  lb : Laid wr w.heap.size vb bs
  fi : EntD.Fine I
  hb : Bys bs ∧ bs.length ≤ 5000
  bel : Below w.heap.size w wr
theorem Ag.later {w wr wx : World} {o : EntD} {qi qf : Nat} {vb : Value} {I Fd : EntD} {bs : List Nat} (h : Ag w wr o qi qf vb I Fd bs) (k : Below wr.heap.size wr wx) : Ag w wx o qi qf vb I Fd bs :=
  ⟨h.ei.later k, h.ef.later k, h.eo.later k, h.li.later k, h.lf.later k, h.lb.later k, h.fi, h.hb, h.bel.trans (k.mono h.bel.size)⟩
theorem cut_same {D : EntD} (h : EntD.Fine D) : EntD.Same D.cut D := by
  refine ⟨rfl, rfl, rfl, rfl, ?_, ?_, ?_⟩
  · exact List.take_of_length_le h.1.2
  · exact List.take_of_length_le h.2.1.2
  · exact List.take_of_length_le h.2.2.2
theorem Laid.form2 {w : World} {B : Nat} {u : Value} {bs : List Nat} (h : Laid w B u bs) : ∃ g n c, u = .slice (some ⟨g, 0, none⟩) n c := by
  obtain ⟨g, c, h1, _⟩ := h
  exact ⟨_, _, _, h1⟩
theorem two_in (w : World) (a b : EntD) : EBox ((w.alloc (.cells a.cells 35)).alloc (.cells b.cells 35)) w.heap.size a ∧ EBox ((w.alloc (.cells a.cells 35)).alloc (.cells b.cells 35)) (w.heap.size + 1) b ∧ Below w.heap.size w ((w.alloc (.cells a.cells 35)).alloc (.cells b.cells 35)) := by
  refine ⟨(EBox.new w a).later ((Below.refl _ _).alloc (Nat.le_refl _) _), ?_, (((Below.refl w.heap.size w).alloc (Nat.le_refl _) _).alloc (by simp) _)⟩
  have h := EBox.new (w.alloc (.cells a.cells 35)) b
  rw [World.size_alloc] at h
  exact h

end Go.Proofs.Ytjcpjpjccoeakaa
