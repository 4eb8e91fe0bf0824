/- Lw0, Lw3, Lw2, Lw4, as one text. -/
import Derived.Test.YtpklccpkgefniaaGExChains1
import Derived.Test.YtpklccpkgefniaaDg4
import Derived.Test.YtpklccpkgefniaaChR
import Derived.Test.YtpklccpkgefniaaGExChains2
import Derived.Test.YtpklccpkgefniaaGExChains3
import Derived.Deep.DeepCutAuto
import Derived.Outline
namespace Go.Proofs.Ytpklccpkgefniaa
open Go.RowKit
theorem vPairs_lo (va vb : Value) (xs : List (Int × Int)) (w : World) (ha : LoadRow w va xs) (hb : LoadRow w vb xs) (hn : xs.length ≤ 2000000) :
    Calls Try.prog 65 #[va, vb] w fun e w' => e = .returned (.bool true) ∧ Below w.heap.size w w' :=
  (vPairs_same va vb xs w ha hb hn).mono fun _ _ ⟨h, m, k⟩ => ⟨h, by rw [k]; exact drewN_below _ m⟩
theorem vRow_lo (va vb : Value) (xs : List (Int × Int)) (w : World) (ha : LoadRow w va xs) (hb : LoadRow w vb xs) (hn : xs.length ≤ 2000000) :
    Calls Try.prog 66 #[va, vb] w fun e w' => e = .returned (.bool true) ∧ Below w.heap.size w w' :=
  (vRow_same va vb xs w ha hb hn).mono fun _ _ ⟨h, m, k⟩ => ⟨h, by rw [k]; exact drewN_below _ m⟩
theorem rev_at (xs : List StageV) (k : Nat) (h : k < xs.length) : xs.reverse.take (xs.length - k) = xs.reverse.take (xs.length - (k + 1)) ++ [xs.getD k stZ] := by
  have hl : xs.length - (k + 1) < xs.reverse.length := by rw [List.length_reverse]; omega
  rw [show xs.length - k = xs.length - (k + 1) + 1 by omega, take_snocS _ _ hl]
  congr 2
  simp only [List.getD]
  rw [List.getElem?_reverse (by omega), show xs.length - 1 - (xs.length - (k + 1)) = k by omega]
/-- What is left of a sequence behind its first n statements. -/
def tailOf : Nat → Code → Code
  | 0, c => c
  | n + 1, .seq _ b => tailOf n b
  | _ + 1, c => c
noncomputable def chTail (n : Nat) : Code := tailOf n (Try.f15.body.getD .skip)
/-- What the law reads off its answers. -/
def FFP (xs : List StageV) (n : Int) (r : Bool) (p h g : Int × Int) (y z : Int) : Prop :=
  r = true → (p.1 * g.1 = n * p.2 * g.2 ∧ h.1 * g.2 = n * h.2 * g.1) ∧ (p.1 ≤ y * p.2 ∧ (y - 1) * p.2 < p.1) ∧ z * g.2 ≤ n * g.1 ∧ (y ≤ 1000000 → askB xs y = true ∧ n ≤ mostF xs y) ∧ (0 ≤ n ∧ n ≤ 1000000) ∧ ((1 ≤ g.1 ∧ g.1 ≤ 254803968) ∧ 1 ≤ g.2 ∧ g.2 ≤ 254803968) ∧ ((0 ≤ p.1 ∧ p.1 ≤ 254803968000000) ∧ 1 ≤ p.2 ∧ p.2 ≤ 254803968) ∧ ((0 ≤ h.1 ∧ h.1 ≤ 254803968000000) ∧ 1 ≤ h.2 ∧ h.2 ≤ 254803968) ∧ (0 ≤ y ∧ y ≤ 300000000000000) ∧ (0 ≤ z ∧ z ≤ 300000000000000)
end Go.Proofs.Ytpklccpkgefniaa
namespace Go.Proofs.Ytpklccpkgefniaa
open Go.RowKit
set_option maxRecDepth 1000000 in
set_option maxHeartbeats 12800000 in
theorem chains25 {c0 c1 c2 c5 c6 c7 c8 c10 c11 c12 c13 c14 c15 c16 c17 c18 c19 c20 c21 c22 c23 c24 c25 c26 c27 c28 c29 c30 c31 c32 c33 c34 c35 c36 c37 c38 c39 c40 c41 c42 c43 c44 c45 c46 c47 c48 c49 c50 c51 c52 c53 c54 c55 c56 c57 c58 c59 c60 c61 c62 c63 c64 c65 c66 c67 c68 c69 c70 c71 c72 c73 c74 c75 c76 c77 c78 c79 c80 c81 c82 c83 c84 c85 c86 c87 c88 c89 c90 c91 c92 c93 c94 c95 c96 c97 c98 c99 c100 c101 c102 c103 c104 c105 c106 c107 c108 c109 c110 c111 c112 c113 c114 c115 c116 c117 c118 c119 c120 c121 c122 c123 c124 c125 c126 c127 c128 c129 c130 c131 c132 c133 c134 c135 c136 c137 c138 c139 c140 c141 c142 c143 c144 c145 c146 c147 c148 c149 c150 c151 c152 c153 c154 c155 c156 c157 c158 c159 c160 c161 c162 c163 c164 c165 c166 c167 c168 c169 c170 c171 c172 c173 c174 c175 c176 c177 c178 c179 c180 c181 c182 c183 c184 c185 c186 c187 c188 c189 c190 c191 c192 c193 c194 c195 c196 c197 c198 c199 c200 c201 c202 c203 c204 c205 c206 c207 c208 c209 c210 c211 c212 c213 c214 c215 c216 c217 c218 c219 c220 c221 c222 c223 c224 c225 c226 c227 c228 c229 c230 c231 c232 c233 c234 c235 c236 c237 c238 c239 c240 c241 c242 c243 c244 c245 c246 c247 c248 c249 c250 c251 c252 c253 c254 c255 c256 c257 c258 c259 c260 c261 c262 c263 c264 c265 c266 c267 c268 c269 c270 c271 c272 c273 c274 c275 c276 c277 c278 c279 c280 c281 c282 c283 c284 c285 c286 c287 c288 c289 c290 c291 c292 c293 c294 c295 c296 c297 c298 c299 c300 c301 c302 c303 c304 c305 c306 c307 c308 c309 c310 c311 c312 c313 c314 c315 c316 c317 c318 c319 c320 c321 c322 c323 c324 c325 c326 c327 c328 c329 c330 c331 c332 c333 c334 c335 c336 c337 c338 c339 c340 c341 c342 c343 c344 c345 c346 c347 c348 c349 c350 c351 c352 c353 c354 c355 c356 c357 c358 c359 c360 c361 c362 c363 c364 c365 c366 c367 c368 c369 c370 c371 c372 c373 c374 c375 c376 c377 c378 c379 c380 c381 : Value} (w wc : World) (xs : List StageV) (n y : Int) (va : Option Addr) (vc : Nat) (CH : Hid (StgRow wc (.slice va xs.length vc) xs)) (L : Hid (Below w.heap.size w wc)) (KM : Hid (∀ (k : Int) (v : Value) (w : World), StgRow w v xs → Calls Try.prog 37 #[v, .int .i64 k] w fun e w' => e = .returned (.tuple #[.int .i64 (mostF xs k), .bool (askB xs k)]) ∧ Below w.heap.size w w')) (f6 : Hid (y ≤ 1000000 → askB xs y = true ∧ n ≤ mostF xs y)) :
    Code.wp Try.prog (chTail 25) (bodyPost Try.prog Try.f15 (fun e w' => e = .returned (.bool true) ∧ Below w.heap.size w w')) ⟨#[c0, c1, c2, .slice va xs.length vc, .int .i64 n, c5, c6, c7, c8, .int .i64 y, c10, c11, c12, c13, c14, c15, c16, c17, c18, c19, c20, c21, c22, c23, c24, c25, c26, c27, c28, c29, c30, c31, c32, c33, c34, c35, c36, c37, c38, c39, c40, c41, c42, c43, c44, c45, c46, c47, c48, c49, c50, c51, c52, c53, c54, c55, c56, c57, c58, c59, c60, c61, c62, c63, c64, c65, c66, c67, c68, c69, c70, c71, c72, c73, c74, c75, c76, c77, c78, c79, c80, c81, c82, c83, c84, c85, c86, c87, c88, c89, c90, c91, c92, c93, c94, c95, c96, c97, c98, c99, c100, c101, c102, c103, c104, c105, c106, c107, c108, c109, c110, c111, c112, c113, c114, c115, c116, c117, c118, c119, c120, c121, c122, c123, c124, c125, c126, c127, c128, c129, c130, c131, c132, c133, c134, c135, c136, c137, c138, c139, c140, c141, c142, c143, c144, c145, c146, c147, c148, c149, c150, c151, c152, c153, c154, c155, c156, c157, c158, c159, c160, c161, c162, c163, c164, c165, c166, c167, c168, c169, c170, c171, c172, c173, c174, c175, c176, c177, c178, c179, c180, c181, c182, c183, c184, c185, c186, c187, c188, c189, c190, c191, c192, c193, c194, c195, c196, c197, c198, c199, c200, c201, c202, c203, c204, c205, c206, c207, c208, c209, c210, c211, c212, c213, c214, c215, c216, c217, c218, c219, c220, c221, c222, c223, c224, c225, c226, c227, c228, c229, c230, c231, c232, c233, c234, c235, c236, c237, c238, c239, c240, c241, c242, c243, c244, c245, c246, c247, c248, c249, c250, c251, c252, c253, c254, c255, c256, c257, c258, c259, c260, c261, c262, c263, c264, c265, c266, c267, c268, c269, c270, c271, c272, c273, c274, c275, c276, c277, c278, c279, c280, c281, c282, c283, c284, c285, c286, c287, c288, c289, c290, c291, c292, c293, c294, c295, c296, c297, c298, c299, c300, c301, c302, c303, c304, c305, c306, c307, c308, c309, c310, c311, c312, c313, c314, c315, c316, c317, c318, c319, c320, c321, c322, c323, c324, c325, c326, c327, c328, c329, c330, c331, c332, c333, c334, c335, c336, c337, c338, c339, c340, c341, c342, c343, c344, c345, c346, c347, c348, c349, c350, c351, c352, c353, c354, c355, c356, c357, c358, c359, c360, c361, c362, c363, c364, c365, c366, c367, c368, c369, c370, c371, c372, c373, c374, c375, c376, c377, c378, c379, c380, c381], []⟩ wc := by
  conv => arg 2; whnf
  go_wp2_with fail
  refine (KM.out y (.slice va xs.length vc) wc CH.out).mono ?_
  rintro e wd ⟨rfl, l⟩
  have LD := Lib.hid (lo_on L.out l)
  clear l KM CH L
  by_cases hy : y ≤ 1000000
  · obtain ⟨a1, a2⟩ := f6.out hy
    rw [a1]
    generalize mostF xs y = q at *
    clear a1 f6
    go_wp2
    go_ret
    exact ⟨rfl, LD.out⟩
  · generalize mostF xs y = q at *
    generalize askB xs y = q' at *
    clear f6
    go_wp2
    go_ret
    exact ⟨rfl, LD.out⟩
set_option maxRecDepth 1000000 in
set_option maxHeartbeats 12800000 in
theorem chains24 {c0 c1 c2 c5 c6 c7 c8 c10 c11 c12 c15 c16 c17 c18 c19 c20 c22 c23 c24 c25 c26 c27 c28 c29 c30 c31 c32 c33 c34 c35 c36 c37 c38 c39 c40 c41 c42 c43 c44 c45 c46 c47 c48 c49 c50 c51 c52 c53 c54 c55 c56 c57 c58 c59 c60 c61 c62 c63 c64 c65 c66 c67 c68 c69 c70 c71 c72 c73 c74 c75 c76 c77 c78 c79 c80 c81 c82 c83 c84 c85 c86 c87 c88 c89 c90 c91 c92 c93 c94 c95 c96 c97 c98 c99 c100 c101 c102 c103 c104 c105 c106 c107 c108 c109 c110 c111 c112 c113 c114 c115 c116 c117 c118 c119 c120 c121 c122 c123 c124 c125 c126 c127 c128 c129 c130 c131 c132 c133 c134 c135 c136 c137 c138 c139 c140 c141 c142 c143 c144 c145 c146 c147 c148 c149 c150 c151 c152 c153 c154 c155 c156 c157 c158 c159 c160 c161 c162 c163 c164 c165 c166 c167 c168 c169 c170 c171 c172 c173 c174 c175 c176 c177 c178 c179 c180 c181 c182 c183 c184 c185 c186 c187 c188 c189 c190 c191 c192 c193 c194 c195 c196 c197 c198 c199 c200 c201 c202 c203 c204 c205 c206 c207 c208 c209 c210 c211 c212 c213 c214 c215 c216 c217 c218 c219 c220 c221 c222 c223 c224 c225 c226 c227 c228 c229 c230 c231 c232 c233 c234 c235 c236 c237 c238 c239 c240 c241 c242 c243 c244 c245 c246 c247 c248 c249 c250 c251 c252 c253 c254 c255 c256 c257 c258 c259 c260 c261 c262 c263 c264 c265 c266 c267 c268 c269 c270 c271 c272 c273 c274 c275 c276 c277 c278 c279 c280 c281 c282 c283 c284 c285 c286 c287 c288 c289 c290 c291 c292 c293 c294 c295 c296 c297 c298 c299 c300 c301 c302 c303 c304 c305 c306 c307 c308 c309 c310 c311 c312 c313 c314 c315 c316 c317 c318 c319 c320 c321 c322 c323 c324 c325 c326 c327 c328 c329 c330 c331 c332 c333 c334 c335 c336 c337 c338 c339 c340 c341 c342 c343 c344 c345 c346 c347 c348 c349 c350 c351 c352 c353 c354 c355 c356 c357 c358 c359 c360 c361 c362 c363 c364 c365 c366 c367 c368 c369 c370 c371 c372 c373 c374 c375 c376 c377 c378 c379 c380 c381 : Value} (w wc : World) (xs : List StageV) (n y : Int) (va : Option Addr) (vc : Nat) (CH : Hid (StgRow wc (.slice va xs.length vc) xs)) (L : Hid (Below w.heap.size w wc)) (KM : Hid (∀ (k : Int) (v : Value) (w : World), StgRow w v xs → Calls Try.prog 37 #[v, .int .i64 k] w fun e w' => e = .returned (.tuple #[.int .i64 (mostF xs k), .bool (askB xs k)]) ∧ Below w.heap.size w w')) (f6 : Hid (y ≤ 1000000 → askB xs y = true ∧ n ≤ mostF xs y)) (z g1 g2 : Int) (P21 : Nat) (BG : Hid (Cel2 wc P21 (g1, g2))) (f5 : z * g2 ≤ n * g1) (bz : 0 ≤ z * g2) (bk : 0 ≤ n * g1 ∧ n * g1 ≤ 254803968000000) :
    Code.wp Try.prog (chTail 24) (bodyPost Try.prog Try.f15 (fun e w' => e = .returned (.bool true) ∧ Below w.heap.size w w')) ⟨#[c0, c1, c2, .slice va xs.length vc, .int .i64 n, c5, c6, c7, c8, .int .i64 y, c10, c11, c12, .int .i64 z, .bool true, c15, c16, c17, c18, c19, c20, .pointer (some ⟨P21, 0, none⟩), c22, c23, c24, c25, c26, c27, c28, c29, c30, c31, c32, c33, c34, c35, c36, c37, c38, c39, c40, c41, c42, c43, c44, c45, c46, c47, c48, c49, c50, c51, c52, c53, c54, c55, c56, c57, c58, c59, c60, c61, c62, c63, c64, c65, c66, c67, c68, c69, c70, c71, c72, c73, c74, c75, c76, c77, c78, c79, c80, c81, c82, c83, c84, c85, c86, c87, c88, c89, c90, c91, c92, c93, c94, c95, c96, c97, c98, c99, c100, c101, c102, c103, c104, c105, c106, c107, c108, c109, c110, c111, c112, c113, c114, c115, c116, c117, c118, c119, c120, c121, c122, c123, c124, c125, c126, c127, c128, c129, c130, c131, c132, c133, c134, c135, c136, c137, c138, c139, c140, c141, c142, c143, c144, c145, c146, c147, c148, c149, c150, c151, c152, c153, c154, c155, c156, c157, c158, c159, c160, c161, c162, c163, c164, c165, c166, c167, c168, c169, c170, c171, c172, c173, c174, c175, c176, c177, c178, c179, c180, c181, c182, c183, c184, c185, c186, c187, c188, c189, c190, c191, c192, c193, c194, c195, c196, c197, c198, c199, c200, c201, c202, c203, c204, c205, c206, c207, c208, c209, c210, c211, c212, c213, c214, c215, c216, c217, c218, c219, c220, c221, c222, c223, c224, c225, c226, c227, c228, c229, c230, c231, c232, c233, c234, c235, c236, c237, c238, c239, c240, c241, c242, c243, c244, c245, c246, c247, c248, c249, c250, c251, c252, c253, c254, c255, c256, c257, c258, c259, c260, c261, c262, c263, c264, c265, c266, c267, c268, c269, c270, c271, c272, c273, c274, c275, c276, c277, c278, c279, c280, c281, c282, c283, c284, c285, c286, c287, c288, c289, c290, c291, c292, c293, c294, c295, c296, c297, c298, c299, c300, c301, c302, c303, c304, c305, c306, c307, c308, c309, c310, c311, c312, c313, c314, c315, c316, c317, c318, c319, c320, c321, c322, c323, c324, c325, c326, c327, c328, c329, c330, c331, c332, c333, c334, c335, c336, c337, c338, c339, c340, c341, c342, c343, c344, c345, c346, c347, c348, c349, c350, c351, c352, c353, c354, c355, c356, c357, c358, c359, c360, c361, c362, c363, c364, c365, c366, c367, c368, c369, c370, c371, c372, c373, c374, c375, c376, c377, c378, c379, c380, c381], []⟩ wc := by
  conv => arg 2; whnf
  apply wp_seq_k; intro K hK
  have HK := Lib.hid hK
  clear hK

  obtain ⟨_, bg1, bg2, _, _⟩ := BG.out
  clear BG
  go_wp2_with fail
  refine HK.out _ _ ?_
  exact chains25 w _ xs n y va vc CH L KM f6
set_option maxRecDepth 1000000 in
set_option maxHeartbeats 12800000 in
theorem chains23 {c0 c1 c2 c6 c7 c8 c10 c11 c12 c15 c16 c17 c18 c19 c20 c22 c23 c24 c25 c26 c27 c28 c29 c30 c31 c32 c33 c34 c35 c36 c37 c38 c39 c40 c41 c42 c43 c44 c45 c46 c47 c48 c49 c50 c51 c52 c53 c54 c55 c56 c57 c58 c59 c60 c61 c62 c63 c64 c65 c66 c67 c68 c69 c70 c71 c72 c73 c74 c75 c76 c77 c78 c79 c80 c81 c82 c83 c84 c85 c86 c87 c88 c89 c90 c91 c92 c93 c94 c95 c96 c97 c98 c99 c100 c101 c102 c103 c104 c105 c106 c107 c108 c109 c110 c111 c112 c113 c114 c115 c116 c117 c118 c119 c120 c121 c122 c123 c124 c125 c126 c127 c128 c129 c130 c131 c132 c133 c134 c135 c136 c137 c138 c139 c140 c141 c142 c143 c144 c145 c146 c147 c148 c149 c150 c151 c152 c153 c154 c155 c156 c157 c158 c159 c160 c161 c162 c163 c164 c165 c166 c167 c168 c169 c170 c171 c172 c173 c174 c175 c176 c177 c178 c179 c180 c181 c182 c183 c184 c185 c186 c187 c188 c189 c190 c191 c192 c193 c194 c195 c196 c197 c198 c199 c200 c201 c202 c203 c204 c205 c206 c207 c208 c209 c210 c211 c212 c213 c214 c215 c216 c217 c218 c219 c220 c221 c222 c223 c224 c225 c226 c227 c228 c229 c230 c231 c232 c233 c234 c235 c236 c237 c238 c239 c240 c241 c242 c243 c244 c245 c246 c247 c248 c249 c250 c251 c252 c253 c254 c255 c256 c257 c258 c259 c260 c261 c262 c263 c264 c265 c266 c267 c268 c269 c270 c271 c272 c273 c274 c275 c276 c277 c278 c279 c280 c281 c282 c283 c284 c285 c286 c287 c288 c289 c290 c291 c292 c293 c294 c295 c296 c297 c298 c299 c300 c301 c302 c303 c304 c305 c306 c307 c308 c309 c310 c311 c312 c313 c314 c315 c316 c317 c318 c319 c320 c321 c322 c323 c324 c325 c326 c327 c328 c329 c330 c331 c332 c333 c334 c335 c336 c337 c338 c339 c340 c341 c342 c343 c344 c345 c346 c347 c348 c349 c350 c351 c352 c353 c354 c355 c356 c357 c358 c359 c360 c361 c362 c363 c364 c365 c366 c367 c368 c369 c370 c371 c372 c373 c374 c375 c376 c377 c378 c379 c380 c381 : Value} (w wc : World) (xs : List StageV) (n y : Int) (va : Option Addr) (vc : Nat) (CH : Hid (StgRow wc (.slice va xs.length vc) xs)) (L : Hid (Below w.heap.size w wc)) (KM : Hid (∀ (k : Int) (v : Value) (w : World), StgRow w v xs → Calls Try.prog 37 #[v, .int .i64 k] w fun e w' => e = .returned (.tuple #[.int .i64 (mostF xs k), .bool (askB xs k)]) ∧ Below w.heap.size w w')) (f6 : Hid (y ≤ 1000000 → askB xs y = true ∧ n ≤ mostF xs y)) (z g1 g2 : Int) (P21 : Nat) (BG : Hid (Cel2 wc P21 (g1, g2))) (f5 : z * g2 ≤ n * g1) (bz : 0 ≤ z * g2) (bk : 0 ≤ n * g1 ∧ n * g1 ≤ 254803968000000) (f14 : 0 ≤ y ∧ y ≤ 300000000000000) (p1 p2 : Int) (P5 : Nat) (BP : Hid (Cel2 wc P5 (p1, p2))) (f3 : p1 ≤ y * p2) (f4 : (y - 1) * p2 < p1) (f11 : 1 ≤ p2 ∧ p2 ≤ 254803968) (f10 : 0 ≤ p1 ∧ p1 ≤ 254803968000000) :
    Code.wp Try.prog (chTail 23) (bodyPost Try.prog Try.f15 (fun e w' => e = .returned (.bool true) ∧ Below w.heap.size w w')) ⟨#[c0, c1, c2, .slice va xs.length vc, .int .i64 n, .pointer (some ⟨P5, 0, none⟩), c6, c7, c8, .int .i64 y, c10, c11, c12, .int .i64 z, .bool true, c15, c16, c17, c18, c19, c20, .pointer (some ⟨P21, 0, none⟩), c22, c23, c24, c25, c26, c27, c28, c29, c30, c31, c32, c33, c34, c35, c36, c37, c38, c39, c40, c41, c42, c43, c44, c45, c46, c47, c48, c49, c50, c51, c52, c53, c54, c55, c56, c57, c58, c59, c60, c61, c62, c63, c64, c65, c66, c67, c68, c69, c70, c71, c72, c73, c74, c75, c76, c77, c78, c79, c80, c81, c82, c83, c84, c85, c86, c87, c88, c89, c90, c91, c92, c93, c94, c95, c96, c97, c98, c99, c100, c101, c102, c103, c104, c105, c106, c107, c108, c109, c110, c111, c112, c113, c114, c115, c116, c117, c118, c119, c120, c121, c122, c123, c124, c125, c126, c127, c128, c129, c130, c131, c132, c133, c134, c135, c136, c137, c138, c139, c140, c141, c142, c143, c144, c145, c146, c147, c148, c149, c150, c151, c152, c153, c154, c155, c156, c157, c158, c159, c160, c161, c162, c163, c164, c165, c166, c167, c168, c169, c170, c171, c172, c173, c174, c175, c176, c177, c178, c179, c180, c181, c182, c183, c184, c185, c186, c187, c188, c189, c190, c191, c192, c193, c194, c195, c196, c197, c198, c199, c200, c201, c202, c203, c204, c205, c206, c207, c208, c209, c210, c211, c212, c213, c214, c215, c216, c217, c218, c219, c220, c221, c222, c223, c224, c225, c226, c227, c228, c229, c230, c231, c232, c233, c234, c235, c236, c237, c238, c239, c240, c241, c242, c243, c244, c245, c246, c247, c248, c249, c250, c251, c252, c253, c254, c255, c256, c257, c258, c259, c260, c261, c262, c263, c264, c265, c266, c267, c268, c269, c270, c271, c272, c273, c274, c275, c276, c277, c278, c279, c280, c281, c282, c283, c284, c285, c286, c287, c288, c289, c290, c291, c292, c293, c294, c295, c296, c297, c298, c299, c300, c301, c302, c303, c304, c305, c306, c307, c308, c309, c310, c311, c312, c313, c314, c315, c316, c317, c318, c319, c320, c321, c322, c323, c324, c325, c326, c327, c328, c329, c330, c331, c332, c333, c334, c335, c336, c337, c338, c339, c340, c341, c342, c343, c344, c345, c346, c347, c348, c349, c350, c351, c352, c353, c354, c355, c356, c357, c358, c359, c360, c361, c362, c363, c364, c365, c366, c367, c368, c369, c370, c371, c372, c373, c374, c375, c376, c377, c378, c379, c380, c381], []⟩ wc := by
  conv => arg 2; whnf
  apply wp_seq_k; intro K hK
  have HK := Lib.hid hK
  clear hK

  obtain ⟨_, bp1, bp2, _, _⟩ := BP.out
  have by' : 0 ≤ y * p2 := Int.mul_nonneg (by omega) (by omega)
  have e1 : (y - 1) * p2 = y * p2 - p2 := by rw [Int.sub_mul, Int.one_mul]
  rw [e1] at f4
  clear BP
  have E := Lib.hid e1
  clear e1
  by_cases hy0 : 0 < y
  · have e1 := E.out
    go_wp2_with fail
    refine HK.out _ _ ?_
    clear e1
    exact chains24 w _ xs n y va vc CH L KM f6 z g1 g2 P21 BG f5 bz bk
  · go_wp2_with fail
    refine HK.out _ _ ?_
    exact chains24 w _ xs n y va vc CH L KM f6 z g1 g2 P21 BG f5 bz bk
set_option maxRecDepth 1000000 in
set_option maxHeartbeats 12800000 in
theorem chains22 {c0 c1 c2 c6 c7 c8 c10 c11 c12 c15 c16 c18 c19 c20 c22 c23 c24 c26 c27 c28 c29 c30 c31 c32 c33 c34 c35 c36 c37 c38 c39 c40 c41 c42 c43 c44 c45 c46 c47 c48 c49 c50 c51 c52 c53 c54 c55 c56 c57 c58 c59 c60 c61 c62 c63 c64 c65 c66 c67 c68 c69 c70 c71 c72 c73 c74 c75 c76 c77 c78 c79 c80 c81 c82 c83 c84 c85 c86 c87 c88 c89 c90 c91 c92 c93 c94 c95 c96 c97 c98 c99 c100 c101 c102 c103 c104 c105 c106 c107 c108 c109 c110 c111 c112 c113 c114 c115 c116 c117 c118 c119 c120 c121 c122 c123 c124 c125 c126 c127 c128 c129 c130 c131 c132 c133 c134 c135 c136 c137 c138 c139 c140 c141 c142 c143 c144 c145 c146 c147 c148 c149 c150 c151 c152 c153 c154 c155 c156 c157 c158 c159 c160 c161 c162 c163 c164 c165 c166 c167 c168 c169 c170 c171 c172 c173 c174 c175 c176 c177 c178 c179 c180 c181 c182 c183 c184 c185 c186 c187 c188 c189 c190 c191 c192 c193 c194 c195 c196 c197 c198 c199 c200 c201 c202 c203 c204 c205 c206 c207 c208 c209 c210 c211 c212 c213 c214 c215 c216 c217 c218 c219 c220 c221 c222 c223 c224 c225 c226 c227 c228 c229 c230 c231 c232 c233 c234 c235 c236 c237 c238 c239 c240 c241 c242 c243 c244 c245 c246 c247 c248 c249 c250 c251 c252 c253 c254 c255 c256 c257 c258 c259 c260 c261 c262 c263 c264 c265 c266 c267 c268 c269 c270 c271 c272 c273 c274 c275 c276 c277 c278 c279 c280 c281 c282 c283 c284 c285 c286 c287 c288 c289 c290 c291 c292 c293 c294 c295 c296 c297 c298 c299 c300 c301 c302 c303 c304 c305 c306 c307 c308 c309 c310 c311 c312 c313 c314 c315 c316 c317 c318 c319 c320 c321 c322 c323 c324 c325 c326 c327 c328 c329 c330 c331 c332 c333 c334 c335 c336 c337 c338 c339 c340 c341 c342 c343 c344 c345 c346 c347 c348 c349 c350 c351 c352 c353 c354 c355 c356 c357 c358 c359 c360 c361 c362 c363 c364 c365 c366 c367 c368 c369 c370 c371 c372 c373 c374 c375 c376 c377 c378 c379 c380 c381 : Value} (w wc : World) (xs : List StageV) (n y : Int) (va : Option Addr) (vc : Nat) (CH : Hid (StgRow wc (.slice va xs.length vc) xs)) (L : Hid (Below w.heap.size w wc)) (KM : Hid (∀ (k : Int) (v : Value) (w : World), StgRow w v xs → Calls Try.prog 37 #[v, .int .i64 k] w fun e w' => e = .returned (.tuple #[.int .i64 (mostF xs k), .bool (askB xs k)]) ∧ Below w.heap.size w w')) (f6 : Hid (y ≤ 1000000 → askB xs y = true ∧ n ≤ mostF xs y)) (z g1 g2 : Int) (P21 : Nat) (BG : Hid (Cel2 wc P21 (g1, g2))) (f5 : z * g2 ≤ n * g1) (bz : 0 ≤ z * g2) (bk : 0 ≤ n * g1 ∧ n * g1 ≤ 254803968000000) (f14 : 0 ≤ y ∧ y ≤ 300000000000000) (p1 p2 : Int) (P5 : Nat) (BP : Hid (Cel2 wc P5 (p1, p2))) (f3 : p1 ≤ y * p2) (f4 : (y - 1) * p2 < p1) (f11 : 1 ≤ p2 ∧ p2 ≤ 254803968) (f10 : 0 ≤ p1 ∧ p1 ≤ 254803968000000) (f7 : 0 ≤ n ∧ n ≤ 1000000) (h1 h2 : Int) (P17 : Nat) (BH : Hid (Cel2 wc P17 (h1, h2))) (sp : List (Int × Int)) (s1 : Value) (M1 : Hid (LoadRow wc s1 sp)) (hx6 : xs.length ≤ 6) (sl : sp.length = xs.length + 1) (sv : sp.getD xs.length (0, 0) = (p1, p2)) (f1 : p1 * g1 = n * p2 * g2) (f2 : h1 * g2 = n * h2 * g1) (f13 : 1 ≤ h2 ∧ h2 ≤ 254803968) :
    Code.wp Try.prog (chTail 22) (bodyPost Try.prog Try.f15 (fun e w' => e = .returned (.bool true) ∧ Below w.heap.size w w')) ⟨#[c0, c1, c2, .slice va xs.length vc, .int .i64 n, .pointer (some ⟨P5, 0, none⟩), c6, c7, c8, .int .i64 y, c10, c11, c12, .int .i64 z, .bool true, c15, c16, .pointer (some ⟨P17, 0, none⟩), c18, c19, c20, .pointer (some ⟨P21, 0, none⟩), c22, c23, c24, s1, c26, c27, c28, c29, c30, c31, c32, c33, c34, c35, c36, c37, c38, c39, c40, c41, c42, c43, c44, c45, c46, c47, c48, c49, c50, c51, c52, c53, c54, c55, c56, c57, c58, c59, c60, c61, c62, c63, c64, c65, c66, c67, c68, c69, c70, c71, c72, c73, c74, c75, c76, c77, c78, c79, c80, c81, c82, c83, c84, c85, c86, c87, c88, c89, c90, c91, c92, c93, c94, c95, c96, c97, c98, c99, c100, c101, c102, c103, c104, c105, c106, c107, c108, c109, c110, c111, c112, c113, c114, c115, c116, c117, c118, c119, c120, c121, c122, c123, c124, c125, c126, c127, c128, c129, c130, c131, c132, c133, c134, c135, c136, c137, c138, c139, c140, c141, c142, c143, c144, c145, c146, c147, c148, c149, c150, c151, c152, c153, c154, c155, c156, c157, c158, c159, c160, c161, c162, c163, c164, c165, c166, c167, c168, c169, c170, c171, c172, c173, c174, c175, c176, c177, c178, c179, c180, c181, c182, c183, c184, c185, c186, c187, c188, c189, c190, c191, c192, c193, c194, c195, c196, c197, c198, c199, c200, c201, c202, c203, c204, c205, c206, c207, c208, c209, c210, c211, c212, c213, c214, c215, c216, c217, c218, c219, c220, c221, c222, c223, c224, c225, c226, c227, c228, c229, c230, c231, c232, c233, c234, c235, c236, c237, c238, c239, c240, c241, c242, c243, c244, c245, c246, c247, c248, c249, c250, c251, c252, c253, c254, c255, c256, c257, c258, c259, c260, c261, c262, c263, c264, c265, c266, c267, c268, c269, c270, c271, c272, c273, c274, c275, c276, c277, c278, c279, c280, c281, c282, c283, c284, c285, c286, c287, c288, c289, c290, c291, c292, c293, c294, c295, c296, c297, c298, c299, c300, c301, c302, c303, c304, c305, c306, c307, c308, c309, c310, c311, c312, c313, c314, c315, c316, c317, c318, c319, c320, c321, c322, c323, c324, c325, c326, c327, c328, c329, c330, c331, c332, c333, c334, c335, c336, c337, c338, c339, c340, c341, c342, c343, c344, c345, c346, c347, c348, c349, c350, c351, c352, c353, c354, c355, c356, c357, c358, c359, c360, c361, c362, c363, c364, c365, c366, c367, c368, c369, c370, c371, c372, c373, c374, c375, c376, c377, c378, c379, c380, c381], []⟩ wc := by
  conv => arg 2; whnf
  apply wp_seq_k; intro K hK
  have HK := Lib.hid hK
  clear hK

  obtain ⟨ma, mc, rfl, hm⟩ := M1.out
  rcases hm with hm | ⟨sg, so, rfl, hsg, hsc⟩
  · rw [hm] at sl; simp at sl
  obtain ⟨s1c, s2c⟩ := hsc xs.length (by omega)
  rw [sv] at s1c s2c
  simp only at s1c s2c
  rw [sl]
  have E1 := fun w => eq_pair p1 p2 p1 p2 w
  rw [show ((p1 == p1) && (p2 == p2)) = true by simp] at E1
  obtain ⟨_, bp1, bp2, _, _⟩ := BP.out
  obtain ⟨_, bh1, bh2, _, _⟩ := BH.out
  obtain ⟨_, bg1, bg2, _, _⟩ := BG.out
  have bn : 0 ≤ n * p2 ∧ n * p2 ≤ 254803968000000 := ⟨Int.mul_nonneg (by omega) (by omega), Int.le_trans (Int.mul_le_mul f7.2 f11.2 (by omega) (by omega)) (by decide)⟩
  have bm : 0 ≤ n * h2 ∧ n * h2 ≤ 254803968000000 := ⟨Int.mul_nonneg (by omega) (by omega), Int.le_trans (Int.mul_le_mul f7.2 f13.2 (by omega) (by omega)) (by decide)⟩
  have wn1 : IntKind.i64.wrap (n * p2) = n * p2 := by rw [IntKind.wrap_i64]; omega
  have wn2 : RowKit.wrap64 (n * p2) = n * p2 := Go.IntWalk.wrap64_in _ (by omega)
  have wm1 : IntKind.i64.wrap (n * h2) = n * h2 := by rw [IntKind.wrap_i64]; omega
  have wm2 : RowKit.wrap64 (n * h2) = n * h2 := Go.IntWalk.wrap64_in _ (by omega)
  have wl1 : IntKind.i64.wrap ((xs.length : Int) + 1) = (xs.length : Int) + 1 := by rw [IntKind.wrap_i64]; omega
  have ql := show (((xs.length + 1 : Nat) : Int) != (xs.length : Int) + 1) = false by simp
  have hlt : xs.length < xs.length + 1 := Nat.lt_succ_self _
  have F3 := Lib.hid f3
  have F4 := Lib.hid f4
  have F5 := Lib.hid f5
  have ld : Hid (Below wc.heap.size wc wc.drew) := Lib.hid (drewN_below wc 1)
  clear hsc sl sv M1 f3 f4 f5
  go_wp2_with fail
  go_region
  clear s1c s2c E1 f1 f2 ql wl1 wn1 wn2 wm1 wm2 bp1 bp2 bh1 bh2 bg1 bg2
  go_wp2_with fail
  refine HK.out _ _ ?_
  exact chains23 w _ xs n y va vc (Lib.hid (CH.out.lo ld.out)) (Lib.hid (lo_on L.out ld.out)) KM f6 z g1 g2 P21 (Lib.hid (BG.out.lo ld.out)) F5.out bz bk f14 p1 p2 P5 (Lib.hid (BP.out.lo ld.out)) F3.out F4.out f11 f10
set_option maxRecDepth 1000000 in
set_option maxHeartbeats 12800000 in
theorem chains21 {c0 c1 c2 c7 c8 c10 c11 c12 c15 c16 c18 c19 c20 c22 c23 c24 c26 c27 c28 c29 c30 c31 c32 c33 c34 c35 c36 c37 c38 c39 c40 c41 c42 c43 c44 c45 c46 c47 c48 c49 c50 c51 c52 c53 c54 c55 c56 c57 c58 c59 c60 c61 c62 c63 c64 c65 c66 c67 c68 c69 c70 c71 c72 c73 c74 c75 c76 c77 c78 c79 c80 c81 c82 c83 c84 c85 c86 c87 c88 c89 c90 c91 c92 c93 c94 c95 c96 c97 c98 c99 c100 c101 c102 c103 c104 c105 c106 c107 c108 c109 c110 c111 c112 c113 c114 c115 c116 c117 c118 c119 c120 c121 c122 c123 c124 c125 c126 c127 c128 c129 c130 c131 c132 c133 c134 c135 c136 c137 c138 c139 c140 c141 c142 c143 c144 c145 c146 c147 c148 c149 c150 c151 c152 c153 c154 c155 c156 c157 c158 c159 c160 c161 c162 c163 c164 c165 c166 c167 c168 c169 c170 c171 c172 c173 c174 c175 c176 c177 c178 c179 c180 c181 c182 c183 c184 c185 c186 c187 c188 c189 c190 c191 c192 c193 c194 c195 c196 c197 c198 c199 c200 c201 c202 c203 c204 c205 c206 c207 c208 c209 c210 c211 c212 c213 c214 c215 c216 c217 c218 c219 c220 c221 c222 c223 c224 c225 c226 c227 c228 c229 c230 c231 c232 c233 c234 c235 c236 c237 c238 c239 c240 c241 c242 c243 c244 c245 c246 c247 c248 c249 c250 c251 c252 c253 c254 c255 c256 c257 c258 c259 c260 c261 c262 c263 c264 c265 c266 c267 c268 c269 c270 c271 c272 c273 c274 c275 c276 c277 c278 c279 c280 c281 c282 c283 c284 c285 c286 c287 c288 c289 c290 c291 c292 c293 c294 c295 c296 c297 c298 c299 c300 c301 c302 c303 c304 c305 c306 c307 c308 c309 c310 c311 c312 c313 c314 c315 c316 c317 c318 c319 c320 c321 c322 c323 c324 c325 c326 c327 c328 c329 c330 c331 c332 c333 c334 c335 c336 c337 c338 c339 c340 c341 c342 c343 c344 c345 c346 c347 c348 c349 c350 c351 c352 c353 c354 c355 c356 c357 c358 c359 c360 c361 c362 c363 c364 c365 c366 c367 c368 c369 c370 c371 c372 c373 c374 c375 c376 c377 c378 c379 c380 c381 : Value} (w wc : World) (xs : List StageV) (n : Int) (r : Bool) (p1 p2 h1 h2 g1 g2 y z : Int) (sp : List (Int × Int)) (va : Option Addr) (vc P5 P17 P21 : Nat) (s1 : Value) (CH : Hid (StgRow wc (.slice va xs.length vc) xs)) (BP : Hid (Cel2 wc P5 (p1, p2))) (BH : Hid (Cel2 wc P17 (h1, h2))) (BG : Hid (Cel2 wc P21 (g1, g2))) (M1 : Hid (LoadRow wc s1 sp)) (L : Hid (Below w.heap.size w wc)) (hx6 : xs.length ≤ 6) (FF : Hid (FFP xs n r (p1, p2) (h1, h2) (g1, g2) y z)) (SF : Hid (r = true → sp.length = xs.length + 1 ∧ sp.getD xs.length (0, 0) = (p1, p2))) (KM : Hid (∀ (k : Int) (v : Value) (w : World), StgRow w v xs → Calls Try.prog 37 #[v, .int .i64 k] w fun e w' => e = .returned (.tuple #[.int .i64 (mostF xs k), .bool (askB xs k)]) ∧ Below w.heap.size w w')) :
    Code.wp Try.prog (chTail 21) (bodyPost Try.prog Try.f15 (fun e w' => e = .returned (.bool true) ∧ Below w.heap.size w w')) ⟨#[c0, c1, c2, .slice va xs.length vc, .int .i64 n, .pointer (some ⟨P5, 0, none⟩), .bool r, c7, c8, .int .i64 y, c10, c11, c12, .int .i64 z, .bool r, c15, c16, .pointer (some ⟨P17, 0, none⟩), c18, c19, c20, .pointer (some ⟨P21, 0, none⟩), c22, c23, c24, s1, c26, c27, c28, c29, c30, c31, c32, c33, c34, c35, c36, c37, c38, c39, c40, c41, c42, c43, c44, c45, c46, c47, c48, c49, c50, c51, c52, c53, c54, c55, c56, c57, c58, c59, c60, c61, c62, c63, c64, c65, c66, c67, c68, c69, c70, c71, c72, c73, c74, c75, c76, c77, c78, c79, c80, c81, c82, c83, c84, c85, c86, c87, c88, c89, c90, c91, c92, c93, c94, c95, c96, c97, c98, c99, c100, c101, c102, c103, c104, c105, c106, c107, c108, c109, c110, c111, c112, c113, c114, c115, c116, c117, c118, c119, c120, c121, c122, c123, c124, c125, c126, c127, c128, c129, c130, c131, c132, c133, c134, c135, c136, c137, c138, c139, c140, c141, c142, c143, c144, c145, c146, c147, c148, c149, c150, c151, c152, c153, c154, c155, c156, c157, c158, c159, c160, c161, c162, c163, c164, c165, c166, c167, c168, c169, c170, c171, c172, c173, c174, c175, c176, c177, c178, c179, c180, c181, c182, c183, c184, c185, c186, c187, c188, c189, c190, c191, c192, c193, c194, c195, c196, c197, c198, c199, c200, c201, c202, c203, c204, c205, c206, c207, c208, c209, c210, c211, c212, c213, c214, c215, c216, c217, c218, c219, c220, c221, c222, c223, c224, c225, c226, c227, c228, c229, c230, c231, c232, c233, c234, c235, c236, c237, c238, c239, c240, c241, c242, c243, c244, c245, c246, c247, c248, c249, c250, c251, c252, c253, c254, c255, c256, c257, c258, c259, c260, c261, c262, c263, c264, c265, c266, c267, c268, c269, c270, c271, c272, c273, c274, c275, c276, c277, c278, c279, c280, c281, c282, c283, c284, c285, c286, c287, c288, c289, c290, c291, c292, c293, c294, c295, c296, c297, c298, c299, c300, c301, c302, c303, c304, c305, c306, c307, c308, c309, c310, c311, c312, c313, c314, c315, c316, c317, c318, c319, c320, c321, c322, c323, c324, c325, c326, c327, c328, c329, c330, c331, c332, c333, c334, c335, c336, c337, c338, c339, c340, c341, c342, c343, c344, c345, c346, c347, c348, c349, c350, c351, c352, c353, c354, c355, c356, c357, c358, c359, c360, c361, c362, c363, c364, c365, c366, c367, c368, c369, c370, c371, c372, c373, c374, c375, c376, c377, c378, c379, c380, c381], []⟩ wc := by
  conv => arg 2; whnf
  apply wp_seq_k; intro K hK
  have HK := Lib.hid hK
  clear hK

  cases r with
  | false =>
    clear FF SF KM M1 BP BH BG CH
    go_wp2
    go_ret
    exact ⟨rfl, L.out⟩
  | true =>
    obtain ⟨⟨f1, f2⟩, ⟨f3, f4⟩, f5, f6, f7, ⟨f8, f9⟩, ⟨f10, f11⟩, ⟨f12, f13⟩, f14, f15⟩ := FF.out rfl
    simp only at f1 f2 f3 f4 f5 f8 f9 f10 f11 f12 f13
    obtain ⟨sl, sv⟩ := SF.out rfl
    have SL := Lib.hid sl
    have SV := Lib.hid sv
    have F1 := Lib.hid f1
    have F2 := Lib.hid f2
    clear FF SF sl sv f1 f2
    go_wp2_with fail
    refine HK.out _ _ ?_
    have bk : 0 ≤ n * g1 ∧ n * g1 ≤ 254803968000000 := ⟨Int.mul_nonneg (by omega) (by omega), Int.le_trans (Int.mul_le_mul f7.2 f8.2 (by omega) (by omega)) (by decide)⟩
    have bz : 0 ≤ z * g2 := Int.mul_nonneg (by omega) (by omega)
    exact chains22 w _ xs n y va vc CH L KM (Lib.hid f6) z g1 g2 P21 BG f5 bz bk f14 p1 p2 P5 BP f3 f4 f11 f10 f7 h1 h2 P17 BH sp s1 M1 hx6 SL.out SV.out F1.out F2.out f13
end Go.Proofs.Ytpklccpkgefniaa
namespace Go.Proofs.Ytpklccpkgefniaa
open Go.RowKit
set_option maxRecDepth 1000000 in
set_option maxHeartbeats 12800000 in
theorem chains20 {c0 c1 c2 c7 c8 c10 c11 c12 c15 c16 c18 c19 c20 c23 c24 c26 c27 c28 c29 c30 c31 c32 c33 c34 c35 c36 c37 c38 c39 c40 c41 c42 c43 c44 c45 c46 c47 c48 c49 c50 c51 c52 c53 c54 c55 c56 c57 c58 c59 c60 c61 c62 c63 c64 c65 c66 c67 c68 c69 c70 c71 c72 c73 c74 c75 c76 c77 c78 c79 c80 c81 c82 c83 c84 c85 c86 c87 c88 c89 c90 c91 c92 c93 c94 c95 c96 c97 c98 c99 c100 c101 c102 c103 c104 c105 c106 c107 c108 c109 c110 c111 c112 c113 c114 c115 c116 c117 c118 c119 c120 c121 c122 c123 c124 c125 c126 c127 c128 c129 c130 c131 c132 c133 c134 c135 c136 c137 c138 c139 c140 c141 c142 c143 c144 c145 c146 c147 c148 c149 c150 c151 c152 c153 c154 c155 c156 c157 c158 c159 c160 c161 c162 c163 c164 c165 c166 c167 c168 c169 c170 c171 c172 c173 c174 c175 c176 c177 c178 c179 c180 c181 c182 c183 c184 c185 c186 c187 c188 c189 c190 c191 c192 c193 c194 c195 c196 c197 c198 c199 c200 c201 c202 c203 c204 c205 c206 c207 c208 c209 c210 c211 c212 c213 c214 c215 c216 c217 c218 c219 c220 c221 c222 c223 c224 c225 c226 c227 c228 c229 c230 c231 c232 c233 c234 c235 c236 c237 c238 c239 c240 c241 c242 c243 c244 c245 c246 c247 c248 c249 c250 c251 c252 c253 c254 c255 c256 c257 c258 c259 c260 c261 c262 c263 c264 c265 c266 c267 c268 c269 c270 c271 c272 c273 c274 c275 c276 c277 c278 c279 c280 c281 c282 c283 c284 c285 c286 c287 c288 c289 c290 c291 c292 c293 c294 c295 c296 c297 c298 c299 c300 c301 c302 c303 c304 c305 c306 c307 c308 c309 c310 c311 c312 c313 c314 c315 c316 c317 c318 c319 c320 c321 c322 c323 c324 c325 c326 c327 c328 c329 c330 c331 c332 c333 c334 c335 c336 c337 c338 c339 c340 c341 c342 c343 c344 c345 c346 c347 c348 c349 c350 c351 c352 c353 c354 c355 c356 c357 c358 c359 c360 c361 c362 c363 c364 c365 c366 c367 c368 c369 c370 c371 c372 c373 c374 c375 c376 c377 c378 c379 c380 c381 : Value} (w wc : World) (xs : List StageV) (n : Int) (r : Bool) (p1 p2 h1 h2 g1 g2 y z : Int) (sp : List (Int × Int)) (va : Option Addr) (vc P5 P17 P21 : Nat) (s1 : Value) (CH : Hid (StgRow wc (.slice va xs.length vc) xs)) (BP : Hid (Cel2 wc P5 (p1, p2))) (BH : Hid (Cel2 wc P17 (h1, h2))) (BG : Hid (Cel2 wc P21 (g1, g2))) (M1 : Hid (LoadRow wc s1 sp)) (L : Hid (Below w.heap.size w wc)) (hx6 : xs.length ≤ 6) (FF : Hid (FFP xs n r (p1, p2) (h1, h2) (g1, g2) y z)) (SF : Hid (r = true → sp.length = xs.length + 1 ∧ sp.getD xs.length (0, 0) = (p1, p2))) (KM : Hid (∀ (k : Int) (v : Value) (w : World), StgRow w v xs → Calls Try.prog 37 #[v, .int .i64 k] w fun e w' => e = .returned (.tuple #[.int .i64 (mostF xs k), .bool (askB xs k)]) ∧ Below w.heap.size w w')) (b2 : Bool) (RV : Hid (b2 = true → cgF xs.reverse = (g1, g2) ∧ chainB xs.reverse = true)) (C5 : Hid (b2 = true → xs.length ≤ 5)) :
    Code.wp Try.prog (chTail 20) (bodyPost Try.prog Try.f15 (fun e w' => e = .returned (.bool true) ∧ Below w.heap.size w w')) ⟨#[c0, c1, c2, .slice va xs.length vc, .int .i64 n, .pointer (some ⟨P5, 0, none⟩), .bool r, c7, c8, .int .i64 y, c10, c11, c12, .int .i64 z, .bool r, c15, c16, .pointer (some ⟨P17, 0, none⟩), c18, c19, c20, .pointer (some ⟨P21, 0, none⟩), .bool b2, c23, c24, s1, c26, c27, c28, c29, c30, c31, c32, c33, c34, c35, c36, c37, c38, c39, c40, c41, c42, c43, c44, c45, c46, c47, c48, c49, c50, c51, c52, c53, c54, c55, c56, c57, c58, c59, c60, c61, c62, c63, c64, c65, c66, c67, c68, c69, c70, c71, c72, c73, c74, c75, c76, c77, c78, c79, c80, c81, c82, c83, c84, c85, c86, c87, c88, c89, c90, c91, c92, c93, c94, c95, c96, c97, c98, c99, c100, c101, c102, c103, c104, c105, c106, c107, c108, c109, c110, c111, c112, c113, c114, c115, c116, c117, c118, c119, c120, c121, c122, c123, c124, c125, c126, c127, c128, c129, c130, c131, c132, c133, c134, c135, c136, c137, c138, c139, c140, c141, c142, c143, c144, c145, c146, c147, c148, c149, c150, c151, c152, c153, c154, c155, c156, c157, c158, c159, c160, c161, c162, c163, c164, c165, c166, c167, c168, c169, c170, c171, c172, c173, c174, c175, c176, c177, c178, c179, c180, c181, c182, c183, c184, c185, c186, c187, c188, c189, c190, c191, c192, c193, c194, c195, c196, c197, c198, c199, c200, c201, c202, c203, c204, c205, c206, c207, c208, c209, c210, c211, c212, c213, c214, c215, c216, c217, c218, c219, c220, c221, c222, c223, c224, c225, c226, c227, c228, c229, c230, c231, c232, c233, c234, c235, c236, c237, c238, c239, c240, c241, c242, c243, c244, c245, c246, c247, c248, c249, c250, c251, c252, c253, c254, c255, c256, c257, c258, c259, c260, c261, c262, c263, c264, c265, c266, c267, c268, c269, c270, c271, c272, c273, c274, c275, c276, c277, c278, c279, c280, c281, c282, c283, c284, c285, c286, c287, c288, c289, c290, c291, c292, c293, c294, c295, c296, c297, c298, c299, c300, c301, c302, c303, c304, c305, c306, c307, c308, c309, c310, c311, c312, c313, c314, c315, c316, c317, c318, c319, c320, c321, c322, c323, c324, c325, c326, c327, c328, c329, c330, c331, c332, c333, c334, c335, c336, c337, c338, c339, c340, c341, c342, c343, c344, c345, c346, c347, c348, c349, c350, c351, c352, c353, c354, c355, c356, c357, c358, c359, c360, c361, c362, c363, c364, c365, c366, c367, c368, c369, c370, c371, c372, c373, c374, c375, c376, c377, c378, c379, c380, c381], []⟩ wc := by
  conv => arg 2; whnf
  apply wp_seq_k; intro K hK
  have HK := Lib.hid hK
  clear hK

  obtain ⟨i0, hi, hz0, hz1, hz2⟩ := info_parts infoStage
  have CX := Lib.hid CH.out
  have LX := Lib.hid L.out
  clear L
  cases b2 with
  | false =>
    clear RV C5 hi hz0 hz1 hz2
    go_wp2_with fail
    refine HK.out _ _ ?_
    exact chains21 w _ xs n r p1 p2 h1 h2 g1 g2 y z sp va vc P5 P17 P21 s1 CX BP BH BG M1 LX hx6 FF SF KM
  | true =>
    obtain ⟨hr1, hr2⟩ := RV.out rfl
    have K := Lib.hid (fun v w (h : StgRow w v xs.reverse) => chainGain_any v xs.reverse w h (by rw [List.length_reverse]; omega))
    rw [hr1, hr2] at K
    have h5 := C5.out rfl
    have HE := Lib.hid (fun w => eq_pair g1 g2 g1 g2 w)
    rw [show ((g1 == g1) && (g2 == g2)) = true by simp] at HE
    have RVL := Lib.hid (rev_at xs)
    have RVN := Lib.hid (show xs.reverse.length = xs.length from List.length_reverse)
    obtain ⟨va', vc', ev, _, hchr⟩ := CH.out
    obtain ⟨rfl, rfl⟩ : va = va' ∧ vc = vc' := by
      injection ev with e1 e2 e3
      exact ⟨e1, e3⟩
    have HR := Lib.hid hchr
    have hrow0 : OwnS (wc.alloc (.cells #[] 25)) wc.heap.size (.slice (some ⟨wc.heap.size, 0, none⟩) 0 0) (xs.reverse.take (xs.length - xs.length)) := by rw [Nat.sub_self]; exact World.ownsRow_lit wc #[] 0 (Nat.le_refl _) (by decide) rfl
    have R0 := Lib.hid hrow0
    simp only at K
    clear hr1 hr2 RV C5 ev hchr hrow0 CH
    go_wp2
    go_loopw [40, 41] (fun v i wr => ∃ (k : Nat) (q : Int), k ≤ xs.length ∧ i = .int .i64 q ∧ q = (k : Int) - 1 ∧ Hid (OwnS wr wc.heap.size v (xs.reverse.take (xs.length - k))) ∧ Hid (Below wc.heap.size wc wr)) (fun _ i _ => (intOf i + 1).toNat)
    case atStart => exact ⟨xs.length, (xs.length : Int) - 1, Nat.le_refl _, rfl, rfl, R0, Lib.hid (below_one _ _)⟩
    case round =>
      obtain ⟨k, q, hk, rfl, hq, HO, HW⟩ := hrel
      clear R0
      obtain ⟨wq, rfl⟩ : ∃ wq : World, wq = wr := ⟨_, rfl⟩
      by_cases h0 : k = 0
      · subst h0
        have hqn : ¬ (0 : Int) ≤ q := by omega
        have HS := Lib.hid (show StgRow wq _ xs.reverse from by
          have := stgRow_own HO.out
          rw [Nat.sub_zero, ← RVN.out, List.take_length] at this
          exact this)
        have C := Lib.hid (K.out _ wq HS.out)
        clear hq HO HS K
        go_wp2_with fail
        refine C.out.mono ?_
        rintro e wd ⟨rfl, l⟩
        have BQ := Lib.hid (cel2_new wd g1 g2 28)
        have ll := lo_on (lo_on HW.out l) (below_one wd (.cells #[.int .i64 g1, .int .i64 g2] 28))
        have LD := Lib.hid ll
        have BGd := Lib.hid (BG.out.lo ll)
        obtain ⟨_, d1, d2, _, _⟩ := BQ.out
        obtain ⟨_, f1, f2, _, _⟩ := BGd.out
        have E3 := HE.out
        clear l ll C BQ BGd HW HE
        go_wp2_with fail
        refine HK.out _ _ ?_
        exact chains21 w _ xs n r p1 p2 h1 h2 g1 g2 y z sp va vc P5 P17 P21 s1 (Lib.hid (CX.out.lo LD.out)) (Lib.hid (BP.out.lo LD.out)) (Lib.hid (BH.out.lo LD.out)) (Lib.hid (BG.out.lo LD.out)) (Lib.hid (M1.out.lo LD.out)) (Lib.hid (lo_on LX.out LD.out)) hx6 FF SF KM
      · obtain ⟨m, rfl⟩ : ∃ m, k = m + 1 := ⟨k - 1, by omega⟩
        obtain rfl : q = (m : Int) := by omega
        have hm' : (m : Int) < (xs.length : Int) := by omega
        rcases HR.out with h | ⟨g, off, rfl, hg, hc⟩
        · subst h; simp at hk
        obtain ⟨c1, c2, c3⟩ := hc m (by omega)
        rw [← HW.out.cell (p := ⟨g, off + m * 3, none⟩) hg] at c1
        rw [← HW.out.cell (p := ⟨g, off + m * 3 + 1, none⟩) hg] at c2
        rw [← HW.out.cell (p := ⟨g, off + m * 3 + 2, none⟩) hg] at c3
        have PT := Lib.hid (RVL.out m (by omega))
        generalize xs.getD m stZ = x at c1 c2 c3 PT
        obtain ⟨x, y, t⟩ := x
        simp only at c1 c2 c3
        have HK := Lib.hid (show (xs.reverse.take (xs.length - (m + 1))).length = xs.length - (m + 1) by rw [List.length_take, List.length_reverse]; omega)
        obtain ⟨N, hN⟩ : ∃ N, xs.length - (m + 1) = N := ⟨_, rfl⟩
        have hN5 : N ≤ 5 := by omega
        have ho2 := HO.out
        unfold OwnS at ho2
        rw [HK.out, hN] at ho2
        rw [hN] at HK PT
        have OB := Lib.hid (fun q hq => (ho2.lt q hq).1)
        have hws := HW.out.size
        clear hq h0 hc hN
        go_wp2_with (at_builtin; refine wpList_append_own_at _ rfl _ _ 35 rfl wc.heap.size 25 i0 (.agg #[.int .i64 0, .int .i64 0, .int .i64 0]) 3 24 Try.underlying35 hi hz0 hz1 hz2 rfl (by decide) _ _ _ rfl (ho2.alloc _) ⟨wq.heap.size, 0, none⟩ 1 1 [.int .i64 x, .int .i64 y, .int .i64 t] rfl rfl (World.news_of_block (cs := #[.int .i64 x, .int .i64 y, .int .i64 t]) (t := 25) (fr := (0, 0)) (heap_alloc_new wq _)) (by simp [Value.oneCell']) (by unfold maxLen; omega) (by omega) (by simp; omega) ?_; intro v4 w4 hown4 hgrow4 hnil4 hloc4)
        have R := Lib.hid (show OwnS w4 wc.heap.size v4 (xs.reverse.take (xs.length - m)) by rw [PT.out]; exact ownS_snoc hown4 HK.out)
        have BB := Lib.hid (show Below wc.heap.size wc w4 from (HW.out.alloc HW.out.size _).grown hgrow4 (by simp; omega) OB.out)
        clear hown4 hgrow4 hnil4 hloc4 ho2 OB
        go_wp2
        go_roundw
        case rel => exact ⟨m, (m : Int) - 1, by omega, by go_num, rfl, R, BB⟩
        case measure => simp [intOf]
end Go.Proofs.Ytpklccpkgefniaa
namespace Go.Proofs.Ytpklccpkgefniaa
open Go.RowKit
/-- The first statement of a sequence. -/
def headOf : Code → Code
  | .seq a _ => a
  | c => c
noncomputable def chStmt (n : Nat) : Code := tailOf 1 (headOf (chTail n))
set_option maxRecDepth 1000000 in
set_option maxHeartbeats 12800000 in
theorem chains19 {c0 c1 c2 c7 c8 c10 c11 c12 c15 c16 c18 c19 c20 c23 c24 c26 c27 c28 c34 c35 c36 c37 c38 c39 c40 c41 c42 c43 c44 c45 c46 c47 c48 c49 c50 c51 c52 c53 c54 c55 c56 c57 c58 c59 c60 c61 c62 c63 c64 c65 c66 c67 c68 c69 c70 c71 c72 c73 c74 c75 c76 c77 c78 c79 c80 c81 c82 c83 c84 c85 c86 c87 c88 c89 c90 c91 c92 c93 c94 c95 c96 c97 c98 c99 c100 c101 c102 c103 c104 c105 c106 c107 c108 c109 c110 c111 c112 c113 c114 c115 c116 c117 c118 c119 c120 c121 c122 c123 c124 c125 c126 c127 c128 c129 c130 c131 c132 c133 c134 c135 c136 c137 c138 c139 c140 c141 c142 c143 c144 c145 c146 c147 c148 c149 c150 c151 c152 c153 c154 c155 c156 c157 c158 c159 c160 c161 c162 c163 c164 c165 c166 c167 c168 c169 c170 c171 c172 c173 c174 c175 c176 c177 c178 c179 c180 c181 c182 c183 c184 c185 c186 c187 c188 c189 c190 c191 c192 c193 c194 c195 c196 c197 c198 c199 c200 c201 c202 c203 c204 c205 c206 c207 c208 c209 c210 c211 c212 c213 c214 c215 c216 c217 c218 c219 c220 c221 c222 c223 c224 c225 c226 c227 c228 c230 c231 c232 c233 c234 c235 c236 c237 c238 c239 c240 c241 c242 c243 c244 c245 c246 c247 c248 c249 c250 c251 c252 c253 c254 c255 c256 c257 c258 c259 c260 c261 c262 c263 c264 c265 c266 c267 c268 c269 c270 c271 c272 c273 c274 c275 c276 c277 c278 c279 c280 c281 c282 c283 c284 c285 c286 c287 c288 c289 c290 c291 c292 c293 c294 c295 c296 c297 c298 c299 c300 c301 c302 c303 c304 c305 c306 c307 c308 c309 c310 c311 c312 c313 c314 c315 c316 c317 c318 c319 c320 c321 c322 c323 c324 c325 c326 c327 c328 c329 c330 c331 c332 c333 c334 c335 c336 c337 c338 c339 c340 c341 c342 c343 c344 c345 c346 c347 c348 c349 c350 c351 c352 c353 c354 c355 c356 c357 c358 c359 c360 c361 c362 c363 c364 c365 c366 c367 c368 c369 c370 c371 c372 c373 c374 c375 c376 c377 c378 c379 c380 c381 : Value} (w wc : World) (xs : List StageV) (n : Int) (r : Bool) (p1 p2 h1 h2 g1 g2 y z : Int) (sp : List (Int × Int)) (va : Option Addr) (vc P5 P17 P21 : Nat) (s1 : Value) (CH : Hid (StgRow wc (.slice va xs.length vc) xs)) (BP : Hid (Cel2 wc P5 (p1, p2))) (BH : Hid (Cel2 wc P17 (h1, h2))) (BG : Hid (Cel2 wc P21 (g1, g2))) (M1 : Hid (LoadRow wc s1 sp)) (L : Hid (Below w.heap.size w wc)) (hx6 : xs.length ≤ 6) (FF : Hid (FFP xs n r (p1, p2) (h1, h2) (g1, g2) y z)) (SF : Hid (r = true → sp.length = xs.length + 1 ∧ sp.getD xs.length (0, 0) = (p1, p2))) (KM : Hid (∀ (k : Int) (v : Value) (w : World), StgRow w v xs → Calls Try.prog 37 #[v, .int .i64 k] w fun e w' => e = .returned (.tuple #[.int .i64 (mostF xs k), .bool (askB xs k)]) ∧ Below w.heap.size w w')) (b2 : Bool) (RV : Hid (b2 = true → cgF xs.reverse = (g1, g2) ∧ chainB xs.reverse = true)) (C5 : Hid (b2 = true → xs.length ≤ 5)) (sk sa sb fw fm : Int) (rl : List (Int × Int)) (b4 : Bool) (P29 : Nat) (rv1 : Value) (BS : Hid (Cel3 wc P29 (.int .i64 sk) (.int .i64 sa) (.int .i64 sb))) (Q1 : Hid (LoadRow wc rv1 rl)) (JB : Hid (b4 = true → (sk = 1 ∧ (1 ≤ sa ∧ sa ≤ 24) ∧ 1 ≤ sb ∧ sb ≤ 24) ∧ (1 ≤ fw ∧ fw ≤ 99) ∧ 1 ≤ fm ∧ fm ≤ 99)) (JF : Hid (b4 = true → rl = [(30 - sb, fw), (30 + sa, fm)])) {K : Act → World → Prop} (hK : ∀ (a : Act) (w' : World), Code.wp Try.prog (chTail 20) (bodyPost Try.prog Try.f15 (fun e w' => e = .returned (.bool true) ∧ Below w.heap.size w w')) a w' → K a w') :
    Code.wp Try.prog (chStmt 19) (Exit.then K (bodyPost Try.prog Try.f15 (fun e w' => e = .returned (.bool true) ∧ Below w.heap.size w w'))) ⟨#[c0, c1, c2, .slice va xs.length vc, .int .i64 n, .pointer (some ⟨P5, 0, none⟩), .bool r, c7, c8, .int .i64 y, c10, c11, c12, .int .i64 z, .bool r, c15, c16, .pointer (some ⟨P17, 0, none⟩), c18, c19, c20, .pointer (some ⟨P21, 0, none⟩), .bool b2, c23, c24, s1, c26, c27, c28, .pointer (some ⟨P29, 0, none⟩), .int .i64 fw, .int .i64 fm, rv1, .bool b4, c34, c35, c36, c37, c38, c39, c40, c41, c42, c43, c44, c45, c46, c47, c48, c49, c50, c51, c52, c53, c54, c55, c56, c57, c58, c59, c60, c61, c62, c63, c64, c65, c66, c67, c68, c69, c70, c71, c72, c73, c74, c75, c76, c77, c78, c79, c80, c81, c82, c83, c84, c85, c86, c87, c88, c89, c90, c91, c92, c93, c94, c95, c96, c97, c98, c99, c100, c101, c102, c103, c104, c105, c106, c107, c108, c109, c110, c111, c112, c113, c114, c115, c116, c117, c118, c119, c120, c121, c122, c123, c124, c125, c126, c127, c128, c129, c130, c131, c132, c133, c134, c135, c136, c137, c138, c139, c140, c141, c142, c143, c144, c145, c146, c147, c148, c149, c150, c151, c152, c153, c154, c155, c156, c157, c158, c159, c160, c161, c162, c163, c164, c165, c166, c167, c168, c169, c170, c171, c172, c173, c174, c175, c176, c177, c178, c179, c180, c181, c182, c183, c184, c185, c186, c187, c188, c189, c190, c191, c192, c193, c194, c195, c196, c197, c198, c199, c200, c201, c202, c203, c204, c205, c206, c207, c208, c209, c210, c211, c212, c213, c214, c215, c216, c217, c218, c219, c220, c221, c222, c223, c224, c225, c226, c227, c228, .bool b4, c230, c231, c232, c233, c234, c235, c236, c237, c238, c239, c240, c241, c242, c243, c244, c245, c246, c247, c248, c249, c250, c251, c252, c253, c254, c255, c256, c257, c258, c259, c260, c261, c262, c263, c264, c265, c266, c267, c268, c269, c270, c271, c272, c273, c274, c275, c276, c277, c278, c279, c280, c281, c282, c283, c284, c285, c286, c287, c288, c289, c290, c291, c292, c293, c294, c295, c296, c297, c298, c299, c300, c301, c302, c303, c304, c305, c306, c307, c308, c309, c310, c311, c312, c313, c314, c315, c316, c317, c318, c319, c320, c321, c322, c323, c324, c325, c326, c327, c328, c329, c330, c331, c332, c333, c334, c335, c336, c337, c338, c339, c340, c341, c342, c343, c344, c345, c346, c347, c348, c349, c350, c351, c352, c353, c354, c355, c356, c357, c358, c359, c360, c361, c362, c363, c364, c365, c366, c367, c368, c369, c370, c371, c372, c373, c374, c375, c376, c377, c378, c379, c380, c381], []⟩ wc := by
  conv => arg 2; whnf
  have HK := Lib.hid hK
  clear hK
  cases b4 with
  | false =>
    clear JB JF BS Q1
    go_wp2_with fail
    refine HK.out _ _ ?_
    exact chains20 w _ xs n r p1 p2 h1 h2 g1 g2 y z sp va vc P5 P17 P21 s1 CH BP BH BG M1 L hx6 FF SF KM b2 RV C5
  | true =>
    obtain ⟨⟨hk1, ha, hb⟩, hn, hm⟩ := JB.out rfl
    subst hk1
    have hrl := JF.out rfl
    subst hrl
    have JH := just_holds sa sb fw fm ha hb hn
    have hmo : momF 30 [(30 - sb, fw), (30 + sa, fm)] = fm * sa + -(fw * sb) := by
      simp only [momF]
      rw [show 30 - sb - 30 = -sb by omega, show 30 + sa - 30 = sa by omega, Int.mul_neg]
      omega
    have MO := Lib.hid (momentAbout_yes rv1 [(30 - sb, fw), (30 + sa, fm)] 30 wc Q1.out ⟨by simp, fun x hx => by
      simp only [List.mem_cons, List.not_mem_nil, or_false] at hx
      rcases hx with rfl | rfl
      · simp only; omega
      · simp only; omega⟩ (by omega) (by omega))
    rw [hmo] at MO
    obtain ⟨JA, JK⟩ := JH
    generalize fm * sa + -(fw * sb) = mm at *
    obtain ⟨B, hB⟩ : ∃ B, ((pullF [⟨1, sa, sb⟩] fw).1 == fm && (pullF [⟨1, sa, sb⟩] fw).2 == 1) = B := ⟨_, rfl⟩
    have PF := Lib.hid (fun w (h : StgRow w (.slice (some ⟨w.heap.size - 1, 0, none⟩) 1 1) [⟨1, sa, sb⟩]) => implPullFor_any _ [⟨1, sa, sb⟩] fw w h (by simp))
    rw [JK] at PF
    generalize pullF [(⟨1, sa, sb⟩ : StageV)] fw = pq at *
    obtain ⟨x1, x2⟩ := pq
    simp only at JA hB PF
    rw [hB] at JA
    have E4 := fun w => eq_pair x1 x2 fm 1 w
    rw [hB] at E4
    have nb : (B != B) = false := by simp
    have JJ := Lib.hid JA
    have EE := Lib.hid E4
    clear hB hmo JB JF JK JA E4 ha hb hn hm
    go_wp2_with fail
    refine MO.out.mono ?_
    rintro e wa ⟨rfl, l⟩
    have LA := Lib.hid l
    have BSa := Lib.hid (BS.out.lo l)
    obtain ⟨_, c0, c1, c2⟩ := BSa.out
    have ll := below_one wa (.cells #[.int .i64 1, .int .i64 sa, .int .i64 sb] 25)
    have LB := Lib.hid (lo_on l ll)
    have PG := Lib.hid (PF.out (wa.alloc (.cells #[.int .i64 1, .int .i64 sa, .int .i64 sb] 25)) (by have := stg_lit wa 1 sa sb; rw [World.size_alloc, Nat.add_sub_cancel]; exact this))
    rw [World.size_alloc, Nat.add_sub_cancel] at PG
    clear l ll MO PF
    go_wp2_with fail
    clear c0 c1 c2
    refine PG.out.mono ?_
    rintro e wb ⟨rfl, l⟩
    have LC := Lib.hid (lo_on LB.out (show Below (wa.alloc (.cells #[.int .i64 1, .int .i64 sa, .int .i64 sb] 25)).heap.size _ wb by rw [World.size_alloc]; exact l))
    have BQ := Lib.hid (cel2_new wb x1 x2 28)
    have LD := Lib.hid (lo_on LC.out (below_one wb (.cells #[.int .i64 x1, .int .i64 x2] 28)))
    obtain ⟨_, d1, d2, _, _⟩ := BQ.out
    have E4 := EE.out
    have JA := JJ.out
    clear l PG LA LB LC BSa BQ EE JJ
    go_wp2_with fail
    refine HK.out _ _ ?_
    exact chains20 w _ xs n r p1 p2 h1 h2 g1 g2 y z sp va vc P5 P17 P21 s1 (Lib.hid (CH.out.lo LD.out)) (Lib.hid (BP.out.lo LD.out)) (Lib.hid (BH.out.lo LD.out)) (Lib.hid (BG.out.lo LD.out)) (Lib.hid (M1.out.lo LD.out)) (Lib.hid (lo_on L.out LD.out)) hx6 FF SF KM b2 RV C5
end Go.Proofs.Ytpklccpkgefniaa
