import Derived.Test.YtppbkdgpcgbmgaaDoorOneWayG5
import Derived.Test.YtppbkdgpcgbmgaaDoorOneWayG8
namespace Go.Proofs.YtppbkdgpcgbmgaaDoor
open Go.RowKit
set_option linter.unusedVariables false

set_option maxRecDepth 1000000 in
set_option maxHeartbeats 8000000 in
theorem oneway_walk {vb : Value} {bs : List Nat} {w : World} (z : Int) (hb : Rd w vb bs) (ht : Tab w) (hl : bs.length ≤ 140737488351232) :
    Calls Tryd.prog 3 #[vb, .int .i64 z] w fun e w' => e = .returned (.bool true) ∧ Below w.heap.size w w' := by
  obtain ⟨a, n, cap, rfl⟩ := rd_slice hb
  obtain ⟨hn, hle, hm, hl48⟩ := rd_lens hb
  rw [← hn] at hl
  have HN : Hid (n = bs.length) := hn
  have HBY : Hid (Bys bs) := hb.1
  have HBL : Hid (bs.length ≤ 140737488351232) := by unfold Hid; rw [← hn]; exact hl
  unfold maxLen at hm
  clear hn
  have part : ∀ k P : Nat, k < P → P ≤ n → ∃ b off, a = some ⟨b, off, none⟩ := by
    intro k P h1 h2
    rcases rd_some hb with ⟨h0, _⟩ | h
    · omega
    · exact h
  have HPART : Hid (∀ k P : Nat, k < P → P ≤ n → ∃ b off, a = some ⟨b, off, none⟩) := part
  clear part
  go_enter Tryd.func3, Tryd.ntmps3
  go_wp2_with fail
  refine (readUint_z hb z).mono ?_
  rintro e w1 ⟨V1, P1, E1, rfl, hw1, HG0⟩
  have B1 : Below w.heap.size w w1 := by rw [hw1]; exact (Below.refl _ _)
  have HG : Hid (E1 = 0 → _) := HG0
  clear HG0 hw1
  have RB1 := hb.later B1
  have TB1 := ht.later B1
  go_upto_region 2 with fail
  refine reg2 (bs := bs) _ _ _ _ _ _ _ _ _ _ _ _ _ _ _ _ _ _ _ _ _ _ _ _ _ _ _ _ _ _ _ _ _ _ _ _ _ _ _ _ _ _ _ _ _ _ _ _ _ _ _ _ _ _ _ _ _ _ _ _ _ _ _ _ _ _ _ _ _ _ _ _ _ _ _ _ _ _ _ _ _ _ _ _ _ _ _ _ _ _ _ _ _ _ _ _ _ _ _ _ _ _ _ _ _ _ _ _ _ _ _ _ _ _ _ _ _ _ _ _ _ _ _ _ _ _ _ _ _ _ _ _ _ _ _ _ _ _ _ _ _ _ _ _ _ _ _ _ _ _ _ _ _ _ _ _ _ _ _ _ _ _ _ _ _ _ _ _ _ _ _ _ _ _ _ _ _ _ _ _ _ _ _ _ _ _ _ _ _ _ _ _ _ _ _ _ _ _ _ _ _ _ _ _ _ _ _ _ _ _ _ _ _ _ _ _ _ _ _ _ _ _ _ _ _ _ _ _ _ _ _ _ _ _ _ _ _ _ _ _ _ _ _ _ _ HBL.out RB1 HG.out ?_
  intro y0 y1 y2 y3 y4 y5 y6 y7 y8 y9 y10 y11 y12 y13 y14 y15 y16 y17 y18 y19 y20 y21 y22 y23 y24 y25 y26 x1 hx1
  have BC1 := B1.trans (hx1.mono B1.size)
  have RC1 := hb.later BC1
  have TC1 := ht.later BC1
  clear HG hx1
  go_wp2_with fail
  refine (readBytes_z RC1 z n (by omega) (by have := HBL.out; omega)).mono ?_
  rintro e w2 ⟨L2, P2, E2, a2, m2, c2, rfl, own2, hbl2, HG0⟩
  have B2 : Below w.heap.size w w2 := BC1.trans (hbl2.mono BC1.size)
  have HG : Hid (E2 = 0 → _) := HG0
  clear HG0 hbl2
  have RB2 := hb.later B2
  have TB2 := ht.later B2
  go_upto_region 5 with fail
  refine reg5 (bs := bs) _ _ _ _ _ _ _ _ _ _ _ _ _ _ _ _ _ _ _ _ _ _ _ _ _ _ _ _ _ _ _ _ _ _ _ _ _ _ _ _ _ _ _ _ _ _ _ _ _ _ _ _ _ _ _ _ _ _ _ _ _ _ _ _ _ _ _ _ _ _ _ _ _ _ _ _ _ _ _ _ _ _ _ _ _ _ _ _ _ _ _ _ _ _ _ _ _ _ _ _ _ _ _ _ _ _ _ _ _ _ _ _ _ _ _ _ _ _ _ _ _ _ _ _ _ _ _ _ _ _ _ _ _ _ _ _ _ _ _ _ _ _ _ _ _ _ _ _ _ _ _ _ _ _ _ _ _ _ _ _ _ _ _ _ _ _ _ _ _ _ _ _ _ _ _ _ _ _ _ _ _ _ _ _ _ _ _ _ _ _ _ _ _ _ _ _ _ _ _ _ _ _ _ _ _ _ _ _ _ _ _ _ _ _ _ _ _ _ _ _ _ _ _ _ _ _ _ _ _ _ _ _ _ _ _ _ _ _ _ _ _ _ _ _ _ HBL.out RB2 own2 HG.out ?_
  intro y0 y1 y2 y3 y4 y5 y6 y7 y8 y9 y10 y11 y12 y13 y14 y15 y16 y17 y18 y19 y20 y21 y22 y23 y24 y25 y26 x2 hx2
  have BC2 := B2.trans (hx2.mono B2.size)
  have RC2 := hb.later BC2
  have TC2 := ht.later BC2
  clear HG hx2
  go_wp2_with fail
  refine (readOrdered_z RC2 z (by have := HBL.out; omega)).mono ?_
  rintro e w3 ⟨L3, P3, E3, a3, m3, c3, rfl, own3, hbl3, HG0⟩
  have B3 : Below w.heap.size w w3 := BC2.trans (hbl3.mono BC2.size)
  have HG : Hid (E3 = 0 → _) := HG0
  clear HG0 hbl3
  have RB3 := hb.later B3
  have TB3 := ht.later B3
  go_upto_region 8 with fail
  refine reg8 (bs := bs) _ _ _ _ _ _ _ _ _ _ _ _ _ _ _ _ _ _ _ _ _ _ _ _ _ _ _ _ _ _ _ _ _ _ _ _ _ _ _ _ _ _ _ _ _ _ _ _ _ _ _ _ _ _ _ _ _ _ _ _ _ _ _ _ _ _ _ _ _ _ _ _ _ _ _ _ _ _ _ _ _ _ _ _ _ _ _ _ _ _ _ _ _ _ _ _ _ _ _ _ _ _ _ _ _ _ _ _ _ _ _ _ _ _ _ _ _ _ _ _ _ _ _ _ _ _ _ _ _ _ _ _ _ _ _ _ _ _ _ _ _ _ _ _ _ _ _ _ _ _ _ _ _ _ _ _ _ _ _ _ _ _ _ _ _ _ _ _ _ _ _ _ _ _ _ _ _ _ _ _ _ _ _ _ _ _ _ _ _ _ _ _ _ _ _ _ _ _ _ _ _ _ _ _ _ _ _ _ _ _ _ _ _ _ _ _ _ _ _ _ _ _ _ _ _ _ _ _ _ _ _ _ _ _ _ _ _ _ _ _ _ _ _ _ _ HBL.out RB3 own3 HG.out ?_
  intro y0 y1 y2 y3 y4 y5 y6 y7 y8 y9 y10 y11 y12 y13 y14 y15 y16 y17 y18 y19 y20 y21 y22 y23 y24 y25 y26 x3 hx3
  have BC3 := B3.trans (hx3.mono B3.size)
  have RC3 := hb.later BC3
  have TC3 := ht.later BC3
  clear HG hx3
  go_wp2_with fail
  refine (readRising_z RC3 z).mono ?_
  rintro e w4 ⟨V4, P4, E4, rfl, hw4, HG0⟩
  have B4 : Below w.heap.size w w4 := by rw [hw4]; exact BC3
  have HG : Hid (E4 = 0 → _) := HG0
  clear HG0 hw4
  have RB4 := hb.later B4
  have TB4 := ht.later B4
  go_upto_region 11 with fail
  rename_i KA4 hA4 KB4 hB4
  have JOIN4 : Hid (∀ (c2 c3 c5 c6 c7 c8 c9 c10 c11 c12 c13 c14 c15 c16 c17 c18 c19 c20 c21 c22 c23 c24 c25 c26 c27 c28 c29 c30 c31 c32 c33 c34 c35 c36 c37 c38 c39 c40 c41 c42 c43 c44 c45 c46 c47 c48 c49 c50 c51 c52 c53 c54 c55 c56 c57 c58 c59 c60 c61 c62 c63 c64 c65 c66 c67 c68 c69 c70 c71 c72 c73 c74 c75 c76 c77 c78 c79 c80 c81 c82 c83 c84 c85 c86 c87 c88 c89 c90 c91 c92 c93 c94 c95 c96 c97 c98 c99 c100 c101 c102 c103 c104 c105 c106 c107 c108 c109 c110 c111 c112 c113 c114 c115 c116 c117 c118 c119 c120 c121 c122 c123 c124 c125 c126 c127 c128 c129 c130 c131 c132 c133 c134 c135 c136 c137 c138 c139 c140 c141 c142 c143 c144 c145 c146 c147 c148 c149 c150 c151 c152 c153 c154 c155 c156 c157 c158 c159 c160 c161 c162 c163 c164 c165 c166 c167 c168 c169 c170 c171 c172 c173 c174 c175 c176 c177 c178 c179 c180 c181 c182 c183 c184 c185 c186 c187 c188 c189 c190 c191 c192 c193 c194 c195 c196 c197 c198 c199 c200 c201 c202 c203 c204 c205 c206 c207 c208 c209 c210 c211 c212 c213 c214 c215 c216 c217 c218 c219 c220 c221 c222 c223 c224 c225 c226 c227 c228 c229 c230 c231 c232 c233 c234 c235 c236 c237 c238 c239 c240 c241 c242 c243 c244 c245 c246 c247 c248 c249 : Value) (wx : World), Below w.heap.size w wx → KA4 ⟨#[.slice a n cap, .int .i64 z, c2, c3, .bool false, c5, c6, c7, c8, c9, c10, c11, c12, c13, c14, c15, c16, c17, c18, c19, c20, c21, c22, c23, c24, c25, c26, c27, c28, c29, c30, c31, c32, c33, c34, c35, c36, c37, c38, c39, c40, c41, c42, c43, c44, c45, c46, c47, c48, c49, c50, c51, c52, c53, c54, c55, c56, c57, c58, c59, c60, c61, c62, c63, c64, c65, c66, c67, c68, c69, c70, c71, c72, c73, c74, c75, c76, c77, c78, c79, c80, c81, c82, c83, c84, c85, c86, c87, c88, c89, c90, c91, c92, c93, c94, c95, c96, c97, c98, c99, c100, c101, c102, c103, c104, c105, c106, c107, c108, c109, c110, c111, c112, c113, c114, c115, c116, c117, c118, c119, c120, c121, c122, c123, c124, c125, c126, c127, c128, c129, c130, c131, c132, c133, c134, c135, c136, c137, c138, c139, c140, c141, c142, c143, c144, c145, c146, c147, c148, c149, c150, c151, c152, c153, c154, c155, c156, c157, c158, c159, c160, c161, c162, c163, c164, c165, c166, c167, c168, c169, c170, c171, c172, c173, c174, c175, c176, c177, c178, c179, c180, c181, c182, c183, c184, c185, c186, c187, c188, c189, c190, c191, c192, c193, c194, c195, c196, c197, c198, c199, c200, c201, c202, c203, c204, c205, c206, c207, c208, c209, c210, c211, c212, c213, c214, c215, c216, c217, c218, c219, c220, c221, c222, c223, c224, c225, c226, c227, c228, c229, c230, c231, c232, c233, c234, c235, c236, c237, c238, c239, c240, c241, c242, c243, c244, c245, c246, c247, c248, c249], []⟩ wx) := by
    unfold Hid
    intro c2 c3 c5 c6 c7 c8 c9 c10 c11 c12 c13 c14 c15 c16 c17 c18 c19 c20 c21 c22 c23 c24 c25 c26 c27 c28 c29 c30 c31 c32 c33 c34 c35 c36 c37 c38 c39 c40 c41 c42 c43 c44 c45 c46 c47 c48 c49 c50 c51 c52 c53 c54 c55 c56 c57 c58 c59 c60 c61 c62 c63 c64 c65 c66 c67 c68 c69 c70 c71 c72 c73 c74 c75 c76 c77 c78 c79 c80 c81 c82 c83 c84 c85 c86 c87 c88 c89 c90 c91 c92 c93 c94 c95 c96 c97 c98 c99 c100 c101 c102 c103 c104 c105 c106 c107 c108 c109 c110 c111 c112 c113 c114 c115 c116 c117 c118 c119 c120 c121 c122 c123 c124 c125 c126 c127 c128 c129 c130 c131 c132 c133 c134 c135 c136 c137 c138 c139 c140 c141 c142 c143 c144 c145 c146 c147 c148 c149 c150 c151 c152 c153 c154 c155 c156 c157 c158 c159 c160 c161 c162 c163 c164 c165 c166 c167 c168 c169 c170 c171 c172 c173 c174 c175 c176 c177 c178 c179 c180 c181 c182 c183 c184 c185 c186 c187 c188 c189 c190 c191 c192 c193 c194 c195 c196 c197 c198 c199 c200 c201 c202 c203 c204 c205 c206 c207 c208 c209 c210 c211 c212 c213 c214 c215 c216 c217 c218 c219 c220 c221 c222 c223 c224 c225 c226 c227 c228 c229 c230 c231 c232 c233 c234 c235 c236 c237 c238 c239 c240 c241 c242 c243 c244 c245 c246 c247 c248 c249 wx BC4
    have RC4 := hb.later BC4
    have TC4 := ht.later BC4
    refine hA4 _ _ ?_
    go_wp2_with fail
    refine (readFalling_z RC4 z).mono ?_
    rintro e w5 ⟨V5, P5, E5, rfl, hw5, HG0⟩
    have B5 : Below w.heap.size w w5 := by rw [hw5]; exact BC4
    have HG : Hid (E5 = 0 → _) := HG0
    clear HG0 hw5
    have RB5 := hb.later B5
    have TB5 := ht.later B5
    go_upto_region 16 with fail
    rename_i KA5 hA5 KB5 hB5
    have JOIN5 : Hid (∀ (c2 c3 c5 c6 c7 c8 c9 c10 c11 c12 c13 c14 c15 c16 c17 c18 c19 c20 c21 c22 c23 c24 c25 c26 c27 c28 c29 c30 c31 c32 c33 c34 c35 c36 c37 c38 c39 c40 c41 c42 c43 c44 c45 c46 c47 c48 c49 c50 c51 c52 c53 c54 c55 c56 c57 c58 c59 c60 c61 c62 c63 c64 c65 c66 c67 c68 c69 c70 c71 c72 c73 c74 c75 c76 c77 c78 c79 c80 c81 c82 c83 c84 c85 c86 c87 c88 c89 c90 c91 c92 c93 c94 c95 c96 c97 c98 c99 c100 c101 c102 c103 c104 c105 c106 c107 c108 c109 c110 c111 c112 c113 c114 c115 c116 c117 c118 c119 c120 c121 c122 c123 c124 c125 c126 c127 c128 c129 c130 c131 c132 c133 c134 c135 c136 c137 c138 c139 c140 c141 c142 c143 c144 c145 c146 c147 c148 c149 c150 c151 c152 c153 c154 c155 c156 c157 c158 c159 c160 c161 c162 c163 c164 c165 c166 c167 c168 c169 c170 c171 c172 c173 c174 c175 c176 c177 c178 c179 c180 c181 c182 c183 c184 c185 c186 c187 c188 c189 c190 c191 c192 c193 c194 c195 c196 c197 c198 c199 c200 c201 c202 c203 c204 c205 c206 c207 c208 c209 c210 c211 c212 c213 c214 c215 c216 c217 c218 c219 c220 c221 c222 c223 c224 c225 c226 c227 c228 c229 c230 c231 c232 c233 c234 c235 c236 c237 c238 c239 c240 c241 c242 c243 c244 c245 c246 c247 c248 c249 : Value) (wx : World), Below w.heap.size w wx → KA5 ⟨#[.slice a n cap, .int .i64 z, c2, c3, .bool false, c5, c6, c7, c8, c9, c10, c11, c12, c13, c14, c15, c16, c17, c18, c19, c20, c21, c22, c23, c24, c25, c26, c27, c28, c29, c30, c31, c32, c33, c34, c35, c36, c37, c38, c39, c40, c41, c42, c43, c44, c45, c46, c47, c48, c49, c50, c51, c52, c53, c54, c55, c56, c57, c58, c59, c60, c61, c62, c63, c64, c65, c66, c67, c68, c69, c70, c71, c72, c73, c74, c75, c76, c77, c78, c79, c80, c81, c82, c83, c84, c85, c86, c87, c88, c89, c90, c91, c92, c93, c94, c95, c96, c97, c98, c99, c100, c101, c102, c103, c104, c105, c106, c107, c108, c109, c110, c111, c112, c113, c114, c115, c116, c117, c118, c119, c120, c121, c122, c123, c124, c125, c126, c127, c128, c129, c130, c131, c132, c133, c134, c135, c136, c137, c138, c139, c140, c141, c142, c143, c144, c145, c146, c147, c148, c149, c150, c151, c152, c153, c154, c155, c156, c157, c158, c159, c160, c161, c162, c163, c164, c165, c166, c167, c168, c169, c170, c171, c172, c173, c174, c175, c176, c177, c178, c179, c180, c181, c182, c183, c184, c185, c186, c187, c188, c189, c190, c191, c192, c193, c194, c195, c196, c197, c198, c199, c200, c201, c202, c203, c204, c205, c206, c207, c208, c209, c210, c211, c212, c213, c214, c215, c216, c217, c218, c219, c220, c221, c222, c223, c224, c225, c226, c227, c228, c229, c230, c231, c232, c233, c234, c235, c236, c237, c238, c239, c240, c241, c242, c243, c244, c245, c246, c247, c248, c249], []⟩ wx) := by
      unfold Hid
      intro c2 c3 c5 c6 c7 c8 c9 c10 c11 c12 c13 c14 c15 c16 c17 c18 c19 c20 c21 c22 c23 c24 c25 c26 c27 c28 c29 c30 c31 c32 c33 c34 c35 c36 c37 c38 c39 c40 c41 c42 c43 c44 c45 c46 c47 c48 c49 c50 c51 c52 c53 c54 c55 c56 c57 c58 c59 c60 c61 c62 c63 c64 c65 c66 c67 c68 c69 c70 c71 c72 c73 c74 c75 c76 c77 c78 c79 c80 c81 c82 c83 c84 c85 c86 c87 c88 c89 c90 c91 c92 c93 c94 c95 c96 c97 c98 c99 c100 c101 c102 c103 c104 c105 c106 c107 c108 c109 c110 c111 c112 c113 c114 c115 c116 c117 c118 c119 c120 c121 c122 c123 c124 c125 c126 c127 c128 c129 c130 c131 c132 c133 c134 c135 c136 c137 c138 c139 c140 c141 c142 c143 c144 c145 c146 c147 c148 c149 c150 c151 c152 c153 c154 c155 c156 c157 c158 c159 c160 c161 c162 c163 c164 c165 c166 c167 c168 c169 c170 c171 c172 c173 c174 c175 c176 c177 c178 c179 c180 c181 c182 c183 c184 c185 c186 c187 c188 c189 c190 c191 c192 c193 c194 c195 c196 c197 c198 c199 c200 c201 c202 c203 c204 c205 c206 c207 c208 c209 c210 c211 c212 c213 c214 c215 c216 c217 c218 c219 c220 c221 c222 c223 c224 c225 c226 c227 c228 c229 c230 c231 c232 c233 c234 c235 c236 c237 c238 c239 c240 c241 c242 c243 c244 c245 c246 c247 c248 c249 wx BC5
      have RC5 := hb.later BC5
      have TC5 := ht.later BC5
      refine hA5 _ _ ?_
      go_wp2_with fail
      refine (readFrame_z RC5 TC5 z (by have := HBL.out; omega)).mono ?_
      rintro e w6 ⟨L6, P6, E6, a6, m6, c6, rfl, own6, hbl6, HG0⟩
      have B6 : Below w.heap.size w w6 := BC5.trans (hbl6.mono BC5.size)
      have HG : Hid (E6 = 0 → _) := HG0
      clear HG0 hbl6
      have RB6 := hb.later B6
      have TB6 := ht.later B6
      go_upto_region 21 with fail
      rename_i KA6 hA6 KB6 hB6
      have JOIN6 : Hid (∀ (c2 c3 c5 c6 c7 c8 c9 c10 c11 c12 c13 c14 c15 c16 c17 c18 c19 c20 c21 c22 c23 c24 c25 c26 c27 c28 c29 c30 c31 c32 c33 c34 c35 c36 c37 c38 c39 c40 c41 c42 c43 c44 c45 c46 c47 c48 c49 c50 c51 c52 c53 c54 c55 c56 c57 c58 c59 c60 c61 c62 c63 c64 c65 c66 c67 c68 c69 c70 c71 c72 c73 c74 c75 c76 c77 c78 c79 c80 c81 c82 c83 c84 c85 c86 c87 c88 c89 c90 c91 c92 c93 c94 c95 c96 c97 c98 c99 c100 c101 c102 c103 c104 c105 c106 c107 c108 c109 c110 c111 c112 c113 c114 c115 c116 c117 c118 c119 c120 c121 c122 c123 c124 c125 c126 c127 c128 c129 c130 c131 c132 c133 c134 c135 c136 c137 c138 c139 c140 c141 c142 c143 c144 c145 c146 c147 c148 c149 c150 c151 c152 c153 c154 c155 c156 c157 c158 c159 c160 c161 c162 c163 c164 c165 c166 c167 c168 c169 c170 c171 c172 c173 c174 c175 c176 c177 c178 c179 c180 c181 c182 c183 c184 c185 c186 c187 c188 c189 c190 c191 c192 c193 c194 c195 c196 c197 c198 c199 c200 c201 c202 c203 c204 c205 c206 c207 c208 c209 c210 c211 c212 c213 c214 c215 c216 c217 c218 c219 c220 c221 c222 c223 c224 c225 c226 c227 c228 c229 c230 c231 c232 c233 c234 c235 c236 c237 c238 c239 c240 c241 c242 c243 c244 c245 c246 c247 c248 c249 : Value) (wx : World), Below w.heap.size w wx → KA6 ⟨#[.slice a n cap, .int .i64 z, c2, c3, .bool false, c5, c6, c7, c8, c9, c10, c11, c12, c13, c14, c15, c16, c17, c18, c19, c20, c21, c22, c23, c24, c25, c26, c27, c28, c29, c30, c31, c32, c33, c34, c35, c36, c37, c38, c39, c40, c41, c42, c43, c44, c45, c46, c47, c48, c49, c50, c51, c52, c53, c54, c55, c56, c57, c58, c59, c60, c61, c62, c63, c64, c65, c66, c67, c68, c69, c70, c71, c72, c73, c74, c75, c76, c77, c78, c79, c80, c81, c82, c83, c84, c85, c86, c87, c88, c89, c90, c91, c92, c93, c94, c95, c96, c97, c98, c99, c100, c101, c102, c103, c104, c105, c106, c107, c108, c109, c110, c111, c112, c113, c114, c115, c116, c117, c118, c119, c120, c121, c122, c123, c124, c125, c126, c127, c128, c129, c130, c131, c132, c133, c134, c135, c136, c137, c138, c139, c140, c141, c142, c143, c144, c145, c146, c147, c148, c149, c150, c151, c152, c153, c154, c155, c156, c157, c158, c159, c160, c161, c162, c163, c164, c165, c166, c167, c168, c169, c170, c171, c172, c173, c174, c175, c176, c177, c178, c179, c180, c181, c182, c183, c184, c185, c186, c187, c188, c189, c190, c191, c192, c193, c194, c195, c196, c197, c198, c199, c200, c201, c202, c203, c204, c205, c206, c207, c208, c209, c210, c211, c212, c213, c214, c215, c216, c217, c218, c219, c220, c221, c222, c223, c224, c225, c226, c227, c228, c229, c230, c231, c232, c233, c234, c235, c236, c237, c238, c239, c240, c241, c242, c243, c244, c245, c246, c247, c248, c249], []⟩ wx) := by
        unfold Hid
        intro c2 c3 c5 c6 c7 c8 c9 c10 c11 c12 c13 c14 c15 c16 c17 c18 c19 c20 c21 c22 c23 c24 c25 c26 c27 c28 c29 c30 c31 c32 c33 c34 c35 c36 c37 c38 c39 c40 c41 c42 c43 c44 c45 c46 c47 c48 c49 c50 c51 c52 c53 c54 c55 c56 c57 c58 c59 c60 c61 c62 c63 c64 c65 c66 c67 c68 c69 c70 c71 c72 c73 c74 c75 c76 c77 c78 c79 c80 c81 c82 c83 c84 c85 c86 c87 c88 c89 c90 c91 c92 c93 c94 c95 c96 c97 c98 c99 c100 c101 c102 c103 c104 c105 c106 c107 c108 c109 c110 c111 c112 c113 c114 c115 c116 c117 c118 c119 c120 c121 c122 c123 c124 c125 c126 c127 c128 c129 c130 c131 c132 c133 c134 c135 c136 c137 c138 c139 c140 c141 c142 c143 c144 c145 c146 c147 c148 c149 c150 c151 c152 c153 c154 c155 c156 c157 c158 c159 c160 c161 c162 c163 c164 c165 c166 c167 c168 c169 c170 c171 c172 c173 c174 c175 c176 c177 c178 c179 c180 c181 c182 c183 c184 c185 c186 c187 c188 c189 c190 c191 c192 c193 c194 c195 c196 c197 c198 c199 c200 c201 c202 c203 c204 c205 c206 c207 c208 c209 c210 c211 c212 c213 c214 c215 c216 c217 c218 c219 c220 c221 c222 c223 c224 c225 c226 c227 c228 c229 c230 c231 c232 c233 c234 c235 c236 c237 c238 c239 c240 c241 c242 c243 c244 c245 c246 c247 c248 c249 wx BC6
        have RC6 := hb.later BC6
        have TC6 := ht.later BC6
        refine hA6 _ _ ?_
        go_wp2_with fail
        refine (started_any TC6).mono ?_
        rintro e wz ⟨rfl, hbz⟩
        dsimp only
        go_wp2
        go_ret
        exact ⟨rfl, BC6.trans (hbz.mono BC6.size)⟩
      clear hA6
      by_cases hE : E6 = 0
      · subst hE
        obtain ⟨G, hby, hll⟩ := HG.out rfl
        obtain ⟨k, hz, h1, h2, hL⟩ := G
        rw [← HN.out] at h2
        subst hz
        obtain ⟨b, off, rfl⟩ := HPART.out k P6 h1 h2
        have hd0 : decide ((k : Int) < 0) = false := by simp
        have hk0 : (0 : Int) ≤ (k : Int) := by omega
        have hPn : (P6 : Int) ≤ (n : Int) := by omega
        have hkP : (k : Int) < (P6 : Int) := by omega
        have hPc : (P6 : Int) ≤ (cap : Int) := by omega
        have hkP' : (k : Int) ≤ (P6 : Int) := by omega
        have hne : ¬ cap = k := by omega
        have d1 : decide (n < P6) = false := by simp; omega
        have d2 : decide (P6 ≤ k) = false := by simp; omega
        have rp := RB6.sub k P6 (by omega) h2 (off' := off + k) (n' := P6 - k) (cap' := cap - k) rfl rfl rfl
        rw [← hL] at rp
        have HRP : Hid (Rd w6 (.slice (some ⟨b, off + k, none⟩) (P6 - k) (cap - k)) (frameL L6)) := rp
        clear rp hL
        have HL6 : Hid (L6.length ≤ 1048576) := hll
        have r6 := own6.rd hby (by rw [own6.1]; have := HL6.out; omega)
        have HUB : Hid (Bys (frameL L6) ∧ (frameL L6).length ≤ 281474976710656) := ⟨frameL_bys _ hby hll, by unfold frameL; simp [be4, le4]; omega⟩
        go_wp2_with fail
        refine (num_any _ _).mono ?_
        rintro e wn ⟨rfl, rfl⟩
        dsimp only
        go_wp2_with fail
        refine (frame_ok r6 TB6 HL6.out).mono ?_
        rintro e v6 ⟨b5, m5, c5, rfl, own5, hb5⟩
        have r5 := own5.rd HUB.out.1 (by rw [own5.1]; exact HUB.out.2)
        have rs := HRP.out.later hb5
        have BC6 := B6.trans (hb5.mono B6.size)
        clear own5 hb5
        dsimp only
        go_wp2_with fail
        refine (num_any _ _).mono ?_
        rintro e wn ⟨rfl, rfl⟩
        dsimp only
        go_wp2_with fail
        refine (same_sl r5 rs (by first | rfl | omega | (simp; done) | (simp; omega)) (by first | rfl | omega | (simp; done) | (simp; omega)) (by first | rfl | omega | (simp; done) | (simp; omega))).mono ?_
        rintro e w6 ⟨rfl, rfl⟩
        clear r5 rs
        dsimp only
        go_wp2_with fail
        exact JOIN6.out _ _ _ _ _ _ _ _ _ _ _ _ _ _ _ _ _ _ _ _ _ _ _ _ _ _ _ _ _ _ _ _ _ _ _ _ _ _ _ _ _ _ _ _ _ _ _ _ _ _ _ _ _ _ _ _ _ _ _ _ _ _ _ _ _ _ _ _ _ _ _ _ _ _ _ _ _ _ _ _ _ _ _ _ _ _ _ _ _ _ _ _ _ _ _ _ _ _ _ _ _ _ _ _ _ _ _ _ _ _ _ _ _ _ _ _ _ _ _ _ _ _ _ _ _ _ _ _ _ _ _ _ _ _ _ _ _ _ _ _ _ _ _ _ _ _ _ _ _ _ _ _ _ _ _ _ _ _ _ _ _ _ _ _ _ _ _ _ _ _ _ _ _ _ _ _ _ _ _ _ _ _ _ _ _ _ _ _ _ _ _ _ _ _ _ _ _ _ _ _ _ _ _ _ _ _ _ _ _ _ _ _ _ _ _ _ _ _ _ _ _ _ _ _ _ _ _ _ _ _ _ _ _ _ _ _ _ _ _ _ _ _ _ _ _ _ _ _ BC6
      · have hE0 : ¬ ((E6 : Int) = 0) := by omega
        have hE1 : ((E6 : Int) == 0) = false := by simp; omega
        have hE2 : decide (E6 = 0) = false := by simp; omega
        go_wp2_with fail
        refine (num_any _ _).mono ?_
        rintro e wn ⟨rfl, rfl⟩
        dsimp only
        go_wp2_with fail
        exact JOIN6.out _ _ _ _ _ _ _ _ _ _ _ _ _ _ _ _ _ _ _ _ _ _ _ _ _ _ _ _ _ _ _ _ _ _ _ _ _ _ _ _ _ _ _ _ _ _ _ _ _ _ _ _ _ _ _ _ _ _ _ _ _ _ _ _ _ _ _ _ _ _ _ _ _ _ _ _ _ _ _ _ _ _ _ _ _ _ _ _ _ _ _ _ _ _ _ _ _ _ _ _ _ _ _ _ _ _ _ _ _ _ _ _ _ _ _ _ _ _ _ _ _ _ _ _ _ _ _ _ _ _ _ _ _ _ _ _ _ _ _ _ _ _ _ _ _ _ _ _ _ _ _ _ _ _ _ _ _ _ _ _ _ _ _ _ _ _ _ _ _ _ _ _ _ _ _ _ _ _ _ _ _ _ _ _ _ _ _ _ _ _ _ _ _ _ _ _ _ _ _ _ _ _ _ _ _ _ _ _ _ _ _ _ _ _ _ _ _ _ _ _ _ _ _ _ _ _ _ _ _ _ _ _ _ _ _ _ _ _ _ _ _ _ _ _ _ _ _ _ B6
    clear hA5
    by_cases hE : E5 = 0
    · subst hE
      obtain ⟨h3, G⟩ := HG.out rfl
      obtain ⟨k, hz, h1, h2, hL⟩ := G
      rw [← HN.out] at h2
      subst hz
      obtain ⟨b, off, rfl⟩ := HPART.out k P5 h1 h2
      have hd0 : decide ((k : Int) < 0) = false := by simp
      have hk0 : (0 : Int) ≤ (k : Int) := by omega
      have hPn : (P5 : Int) ≤ (n : Int) := by omega
      have hkP : (k : Int) < (P5 : Int) := by omega
      have hPc : (P5 : Int) ≤ (cap : Int) := by omega
      have hkP' : (k : Int) ≤ (P5 : Int) := by omega
      have hne : ¬ cap = k := by omega
      have d1 : decide (n < P5) = false := by simp; omega
      have d2 : decide (P5 ≤ k) = false := by simp; omega
      have rp := RB5.sub k P5 (by omega) h2 (off' := off + k) (n' := P5 - k) (cap' := cap - k) rfl rfl rfl
      rw [← hL] at rp
      have HRP : Hid (Rd w5 (.slice (some ⟨b, off + k, none⟩) (P5 - k) (cap - k)) (be8 (9223372036854775807 - V5))) := rp
      clear rp hL
      have HVL : Hid (V5 < 9223372036854775808) := h3
      have HUB : Hid (Bys (be8 (9223372036854775807 - V5)) ∧ (be8 (9223372036854775807 - V5)).length ≤ 281474976710656) := ⟨be8_bys _, by simp [be8]⟩
      go_wp2_with fail
      refine (num_any _ _).mono ?_
      rintro e wn ⟨rfl, rfl⟩
      dsimp only
      go_wp2_with fail
      refine (falling_any V5 HVL.out _).mono ?_
      rintro e v5 ⟨b5, m5, c5, rfl, own5, hb5⟩
      have r5 := own5.rd HUB.out.1 (by rw [own5.1]; exact HUB.out.2)
      have rs := HRP.out.later hb5
      have BC5 := B5.trans (hb5.mono B5.size)
      clear own5 hb5
      dsimp only
      go_wp2_with fail
      refine (num_any _ _).mono ?_
      rintro e wn ⟨rfl, rfl⟩
      dsimp only
      go_wp2_with fail
      refine (same_sl r5 rs (by first | rfl | omega | (simp; done) | (simp; omega)) (by first | rfl | omega | (simp; done) | (simp; omega)) (by first | rfl | omega | (simp; done) | (simp; omega))).mono ?_
      rintro e w6 ⟨rfl, rfl⟩
      clear r5 rs
      dsimp only
      go_wp2_with fail
      exact JOIN5.out _ _ _ _ _ _ _ _ _ _ _ _ _ _ _ _ _ _ _ _ _ _ _ _ _ _ _ _ _ _ _ _ _ _ _ _ _ _ _ _ _ _ _ _ _ _ _ _ _ _ _ _ _ _ _ _ _ _ _ _ _ _ _ _ _ _ _ _ _ _ _ _ _ _ _ _ _ _ _ _ _ _ _ _ _ _ _ _ _ _ _ _ _ _ _ _ _ _ _ _ _ _ _ _ _ _ _ _ _ _ _ _ _ _ _ _ _ _ _ _ _ _ _ _ _ _ _ _ _ _ _ _ _ _ _ _ _ _ _ _ _ _ _ _ _ _ _ _ _ _ _ _ _ _ _ _ _ _ _ _ _ _ _ _ _ _ _ _ _ _ _ _ _ _ _ _ _ _ _ _ _ _ _ _ _ _ _ _ _ _ _ _ _ _ _ _ _ _ _ _ _ _ _ _ _ _ _ _ _ _ _ _ _ _ _ _ _ _ _ _ _ _ _ _ _ _ _ _ _ _ _ _ _ _ _ _ _ _ _ _ _ _ _ _ _ _ _ _ BC5
    · have hE0 : ¬ ((E5 : Int) = 0) := by omega
      have hE1 : ((E5 : Int) == 0) = false := by simp; omega
      have hE2 : decide (E5 = 0) = false := by simp; omega
      go_wp2_with fail
      refine (num_any _ _).mono ?_
      rintro e wn ⟨rfl, rfl⟩
      dsimp only
      go_wp2_with fail
      exact JOIN5.out _ _ _ _ _ _ _ _ _ _ _ _ _ _ _ _ _ _ _ _ _ _ _ _ _ _ _ _ _ _ _ _ _ _ _ _ _ _ _ _ _ _ _ _ _ _ _ _ _ _ _ _ _ _ _ _ _ _ _ _ _ _ _ _ _ _ _ _ _ _ _ _ _ _ _ _ _ _ _ _ _ _ _ _ _ _ _ _ _ _ _ _ _ _ _ _ _ _ _ _ _ _ _ _ _ _ _ _ _ _ _ _ _ _ _ _ _ _ _ _ _ _ _ _ _ _ _ _ _ _ _ _ _ _ _ _ _ _ _ _ _ _ _ _ _ _ _ _ _ _ _ _ _ _ _ _ _ _ _ _ _ _ _ _ _ _ _ _ _ _ _ _ _ _ _ _ _ _ _ _ _ _ _ _ _ _ _ _ _ _ _ _ _ _ _ _ _ _ _ _ _ _ _ _ _ _ _ _ _ _ _ _ _ _ _ _ _ _ _ _ _ _ _ _ _ _ _ _ _ _ _ _ _ _ _ _ _ _ _ _ _ _ _ _ _ _ _ _ B5
  clear hA4
  by_cases hE : E4 = 0
  · subst hE
    obtain ⟨h3, G⟩ := HG.out rfl
    obtain ⟨k, hz, h1, h2, hL⟩ := G
    rw [← HN.out] at h2
    subst hz
    obtain ⟨b, off, rfl⟩ := HPART.out k P4 h1 h2
    have hd0 : decide ((k : Int) < 0) = false := by simp
    have hk0 : (0 : Int) ≤ (k : Int) := by omega
    have hPn : (P4 : Int) ≤ (n : Int) := by omega
    have hkP : (k : Int) < (P4 : Int) := by omega
    have hPc : (P4 : Int) ≤ (cap : Int) := by omega
    have hkP' : (k : Int) ≤ (P4 : Int) := by omega
    have hne : ¬ cap = k := by omega
    have d1 : decide (n < P4) = false := by simp; omega
    have d2 : decide (P4 ≤ k) = false := by simp; omega
    have rp := RB4.sub k P4 (by omega) h2 (off' := off + k) (n' := P4 - k) (cap' := cap - k) rfl rfl rfl
    rw [← hL] at rp
    have HRP : Hid (Rd w4 (.slice (some ⟨b, off + k, none⟩) (P4 - k) (cap - k)) (be8 V4)) := rp
    clear rp hL
    have HVL : Hid (V4 < 9223372036854775808) := h3
    have HUB : Hid (Bys (be8 V4) ∧ (be8 V4).length ≤ 281474976710656) := ⟨be8_bys _, by simp [be8]⟩
    go_wp2_with fail
    refine (num_any _ _).mono ?_
    rintro e wn ⟨rfl, rfl⟩
    dsimp only
    go_wp2_with fail
    refine (rising_any V4 HVL.out _).mono ?_
    rintro e v4 ⟨b5, m5, c5, rfl, own5, hb5⟩
    have r5 := own5.rd HUB.out.1 (by rw [own5.1]; exact HUB.out.2)
    have rs := HRP.out.later hb5
    have BC4 := B4.trans (hb5.mono B4.size)
    clear own5 hb5
    dsimp only
    go_wp2_with fail
    refine (num_any _ _).mono ?_
    rintro e wn ⟨rfl, rfl⟩
    dsimp only
    go_wp2_with fail
    refine (same_sl r5 rs (by first | rfl | omega | (simp; done) | (simp; omega)) (by first | rfl | omega | (simp; done) | (simp; omega)) (by first | rfl | omega | (simp; done) | (simp; omega))).mono ?_
    rintro e w6 ⟨rfl, rfl⟩
    clear r5 rs
    dsimp only
    go_wp2_with fail
    exact JOIN4.out _ _ _ _ _ _ _ _ _ _ _ _ _ _ _ _ _ _ _ _ _ _ _ _ _ _ _ _ _ _ _ _ _ _ _ _ _ _ _ _ _ _ _ _ _ _ _ _ _ _ _ _ _ _ _ _ _ _ _ _ _ _ _ _ _ _ _ _ _ _ _ _ _ _ _ _ _ _ _ _ _ _ _ _ _ _ _ _ _ _ _ _ _ _ _ _ _ _ _ _ _ _ _ _ _ _ _ _ _ _ _ _ _ _ _ _ _ _ _ _ _ _ _ _ _ _ _ _ _ _ _ _ _ _ _ _ _ _ _ _ _ _ _ _ _ _ _ _ _ _ _ _ _ _ _ _ _ _ _ _ _ _ _ _ _ _ _ _ _ _ _ _ _ _ _ _ _ _ _ _ _ _ _ _ _ _ _ _ _ _ _ _ _ _ _ _ _ _ _ _ _ _ _ _ _ _ _ _ _ _ _ _ _ _ _ _ _ _ _ _ _ _ _ _ _ _ _ _ _ _ _ _ _ _ _ _ _ _ _ _ _ _ _ _ _ _ _ _ BC4
  · have hE0 : ¬ ((E4 : Int) = 0) := by omega
    have hE1 : ((E4 : Int) == 0) = false := by simp; omega
    have hE2 : decide (E4 = 0) = false := by simp; omega
    go_wp2_with fail
    refine (num_any _ _).mono ?_
    rintro e wn ⟨rfl, rfl⟩
    dsimp only
    go_wp2_with fail
    exact JOIN4.out _ _ _ _ _ _ _ _ _ _ _ _ _ _ _ _ _ _ _ _ _ _ _ _ _ _ _ _ _ _ _ _ _ _ _ _ _ _ _ _ _ _ _ _ _ _ _ _ _ _ _ _ _ _ _ _ _ _ _ _ _ _ _ _ _ _ _ _ _ _ _ _ _ _ _ _ _ _ _ _ _ _ _ _ _ _ _ _ _ _ _ _ _ _ _ _ _ _ _ _ _ _ _ _ _ _ _ _ _ _ _ _ _ _ _ _ _ _ _ _ _ _ _ _ _ _ _ _ _ _ _ _ _ _ _ _ _ _ _ _ _ _ _ _ _ _ _ _ _ _ _ _ _ _ _ _ _ _ _ _ _ _ _ _ _ _ _ _ _ _ _ _ _ _ _ _ _ _ _ _ _ _ _ _ _ _ _ _ _ _ _ _ _ _ _ _ _ _ _ _ _ _ _ _ _ _ _ _ _ _ _ _ _ _ _ _ _ _ _ _ _ _ _ _ _ _ _ _ _ _ _ _ _ _ _ _ _ _ _ _ _ _ _ _ _ _ _ _ B4

end Go.Proofs.YtppbkdgpcgbmgaaDoor
