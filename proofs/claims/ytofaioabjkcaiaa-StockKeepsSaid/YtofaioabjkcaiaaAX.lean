/- StockKeeps: the loop over the pockets of a hold. -/
import Derived.Test.YtofaioabjkcaiaaAU
import Derived.Test.YtofaioabjkcaiaaAV
namespace Go.Proofs.Ytofaioabjkcaiaa
open Go.RowKit

set_option maxRecDepth 1000000 in
set_option maxHeartbeats 2000000 in
theorem blk7_any {p : Option Addr} {N cap s bl ob hg L hcap j : Nat} {tot : Int} {q a : Nat} {xn : Int} {xp : Pk} {wb w9 w : World} {f : Int → Pk} {R hs : List Piece} {u1 u2 u5 u6 u7 u8 u11 u14 u15 u16 u19 u20 u21 u22 u23 u24 u25 u26 u27 u28 u29 u30 u31 u32 u33 u34 u35 u36 u37 u38 u39 u40 u41 u42 u43 u44 u45 u46 u47 u48 u49 u50 u51 u52 u53 u54 u55 u56 u57 u58 u59 u60 u61 u62 u63 u64 u65 u66 u67 u68 u69 u70 u71 u72 u73 u74 u75 u76 u77 u78 u79 u80 u81 u82 u83 u84 u85 u86 u87 u88 u89 u90 u91 u92 u93 u94 u95 u96 u97 u98 u99 u100 u101 u102 u103 u104 u105 u106 u107 u108 u109 u110 u111 u112 u113 u114 u115 u116 u117 u118 u119 u120 u121 u122 u123 u124 u125 u126 u127 u128 u129 u130 u131 u132 u133 u134 u135 u136 u137 u138 u139 u140 u141 u142 u143 u144 u145 u146 u147 u148 u149 u150 u151 u152 u153 u154 u155 u156 u157 u158 u159 u160 u161 u162 u163 u164 u165 u166 u167 u168 u169 u170 u171 u172 u173 u174 u175 u176 u177 u178 u179 u180 u181 u182 u183 u184 u185 u186 u187 u188 u189 u190 u191 u192 u193 u194 u195 u196 u197 u198 u199 u200 u201 u202 u203 u204 u205 u206 u207 u208 u209 u210 u211 u212 u213 u214 u215 u216 u217 u218 u219 u220 u221 u222 u223 u224 u225 u226 u227 u228 u229 u230 u231 u232 u233 u234 u235 u236 u237 u238 u239 u240 u241 u242 u243 u244 u245 u246 u247 u248 u249 u250 u251 u252 u253 u254 u255 u256 u257 u258 u259 u260 u261 u262 u263 u264 u265 u266 u267 u268 u269 u270 u271 u272 u273 u274 u275 u276 u277 u278 u279 u280 u281 u282 u283 u284 u285 u286 u287 u288 u289 u290 u291 u292 u293 u294 u295 u296 u297 u298 u299 u300 u301 u302 u303 u304 u305 u306 u307 u308 u309 u310 u311 u312 u313 u314 u315 u316 u317 u318 u319 u320 u321 u322 u323 u324 u325 u326 u327 u328 u329 u330 u331 u332 u333 u334 u335 u336 u337 u338 u339 u340 u341 u342 u343 u344 u345 u346 u347 u348 u349 u350 u351 u352 u353 u354 u355 u356 u357 u358 u359 u360 u361 u362 : Value} {Q : Exit → Act → World → Prop}
    (H : Hid (Held wb w9 ob hg L f R hs tot ((j : Int) + 1))) (hj : j < 4) (hX : Hid (hs[q]? = some ((a : Int), (a : Int) + xn - 1, xp))) (hM : Hid (Mid wb w9 ob (ownIn f ((j : Int) + 1) hs q) w))
    (hQ : ∀ (x2 x18 x277 x278 x279 x280 x281 x282 x283 x284 x285 x286 x287 x288 x289 x290 x291 x292 x293 x294 x295 x296 x297 x298 x299 x300 x301 x302 x303 x304 x305 x306 x307 x308 x309 x310 x311 x312 : Value) (w' : World), Mid wb w9 ob (ownIn f ((j : Int) + 1) hs (q + 1)) w' → Q .normal ⟨#[.slice p N cap, u1, x2, .pointer (some ⟨s, 0, none⟩), .int .i64 tot, u5, u6, u7, u8, .int .i64 bl, .slice (some ⟨ob, 0, none⟩) 80 80, u11, .int .i64 ((j : Int) + 1), .slice (some ⟨hg, 0, none⟩) L hcap, u14, u15, u16, .int .i64 q, x18, u19, u20, u21, u22, u23, u24, u25, u26, u27, u28, u29, u30, u31, u32, u33, u34, u35, u36, u37, u38, u39, u40, u41, u42, u43, u44, u45, u46, u47, u48, u49, u50, u51, u52, u53, u54, u55, u56, u57, u58, u59, u60, u61, u62, u63, u64, u65, u66, u67, u68, u69, u70, u71, u72, u73, u74, u75, u76, u77, u78, u79, u80, u81, u82, u83, u84, u85, u86, u87, u88, u89, u90, u91, u92, u93, u94, u95, u96, u97, u98, u99, u100, u101, u102, u103, u104, u105, u106, u107, u108, u109, u110, u111, u112, u113, u114, u115, u116, u117, u118, u119, u120, u121, u122, u123, u124, u125, u126, u127, u128, u129, u130, u131, u132, u133, u134, u135, u136, u137, u138, u139, u140, u141, u142, u143, u144, u145, u146, u147, u148, u149, u150, u151, u152, u153, u154, u155, u156, u157, u158, u159, u160, u161, u162, u163, u164, u165, u166, u167, u168, u169, u170, u171, u172, u173, u174, u175, u176, u177, u178, u179, u180, u181, u182, u183, u184, u185, u186, u187, u188, u189, u190, u191, u192, u193, u194, u195, u196, u197, u198, u199, u200, u201, u202, u203, u204, u205, u206, u207, u208, u209, u210, u211, u212, u213, u214, u215, u216, u217, u218, u219, u220, u221, u222, u223, u224, u225, u226, u227, u228, u229, u230, u231, u232, u233, u234, u235, u236, u237, u238, u239, u240, u241, u242, u243, u244, u245, u246, u247, u248, u249, u250, u251, u252, u253, u254, u255, u256, u257, u258, u259, u260, u261, u262, u263, u264, u265, u266, u267, u268, u269, u270, u271, u272, u273, u274, u275, u276, x277, x278, x279, x280, x281, x282, x283, x284, x285, x286, x287, x288, x289, x290, x291, x292, x293, x294, x295, x296, x297, x298, x299, x300, x301, x302, x303, x304, x305, x306, x307, x308, x309, x310, x311, x312, u313, u314, u315, u316, u317, u318, u319, u320, u321, u322, u323, u324, u325, u326, u327, u328, u329, u330, u331, u332, u333, u334, u335, u336, u337, u338, u339, u340, u341, u342, u343, u344, u345, u346, u347, u348, u349, u350, u351, u352, u353, u354, u355, u356, u357, u358, u359, u360, u361, u362], []⟩ w') :
    Code.wp Try.prog blk7 Q ⟨#[.slice p N cap, u1, u2, .pointer (some ⟨s, 0, none⟩), .int .i64 tot, u5, u6, u7, u8, .int .i64 bl, .slice (some ⟨ob, 0, none⟩) 80 80, u11, .int .i64 ((j : Int) + 1), .slice (some ⟨hg, 0, none⟩) L hcap, u14, u15, u16, .int .i64 q, .int .i64 a, u19, u20, u21, u22, u23, u24, u25, u26, u27, u28, u29, u30, u31, u32, u33, u34, u35, u36, u37, u38, u39, u40, u41, u42, u43, u44, u45, u46, u47, u48, u49, u50, u51, u52, u53, u54, u55, u56, u57, u58, u59, u60, u61, u62, u63, u64, u65, u66, u67, u68, u69, u70, u71, u72, u73, u74, u75, u76, u77, u78, u79, u80, u81, u82, u83, u84, u85, u86, u87, u88, u89, u90, u91, u92, u93, u94, u95, u96, u97, u98, u99, u100, u101, u102, u103, u104, u105, u106, u107, u108, u109, u110, u111, u112, u113, u114, u115, u116, u117, u118, u119, u120, u121, u122, u123, u124, u125, u126, u127, u128, u129, u130, u131, u132, u133, u134, u135, u136, u137, u138, u139, u140, u141, u142, u143, u144, u145, u146, u147, u148, u149, u150, u151, u152, u153, u154, u155, u156, u157, u158, u159, u160, u161, u162, u163, u164, u165, u166, u167, u168, u169, u170, u171, u172, u173, u174, u175, u176, u177, u178, u179, u180, u181, u182, u183, u184, u185, u186, u187, u188, u189, u190, u191, u192, u193, u194, u195, u196, u197, u198, u199, u200, u201, u202, u203, u204, u205, u206, u207, u208, u209, u210, u211, u212, u213, u214, u215, u216, u217, u218, u219, u220, u221, u222, u223, u224, u225, u226, u227, u228, u229, u230, u231, u232, u233, u234, u235, u236, u237, u238, u239, u240, u241, u242, u243, u244, u245, u246, u247, u248, u249, u250, u251, u252, u253, u254, u255, u256, u257, u258, u259, u260, u261, u262, u263, u264, u265, u266, u267, u268, u269, u270, u271, u272, u273, u274, u275, u276, u277, u278, u279, u280, u281, u282, u283, u284, u285, u286, u287, u288, u289, u290, u291, u292, u293, u294, u295, u296, u297, u298, u299, u300, u301, u302, u303, u304, u305, u306, u307, u308, u309, u310, u311, u312, u313, u314, u315, u316, u317, u318, u319, u320, u321, u322, u323, u324, u325, u326, u327, u328, u329, u330, u331, u332, u333, u334, u335, u336, u337, u338, u339, u340, u341, u342, u343, u344, u345, u346, u347, u348, u349, u350, u351, u352, u353, u354, u355, u356, u357, u358, u359, u360, u361, u362], []⟩ w := by
  have hl := H.out.bd.2.2
  have hq : q < L := by rw [H.out.len]; exact (List.getElem?_eq_some_iff.1 hX.out).1
  obtain ⟨p1, p2, p3, p4⟩ := H.out.piece hX.out
  simp only at p2 p3 p4
  have HP := Lib.hid p1
  have e1 : IntKind.i64.wrap ((a : Int) + xn) = (a : Int) + xn := wrap_in _ (by omega) (by omega)
  clear p1
  have HQ := Lib.hid hQ
  clear hQ
  conv => arg 2; whnf
  dsimp only
  go_wp2
  go_loopw [18] (fun kv wy => ∃ i : Nat, a ≤ i ∧ (i : Int) ≤ (a : Int) + xn ∧ kv = .int .i64 i ∧ Mid wb w9 ob (ownAt f ((j : Int) + 1) hs q ((a : Int), (a : Int) + xn - 1, xp) i) wy) (fun kv _ => 76 - (intOf kv).toNat)
  case atStart => exact ⟨a, by omega, by omega, rfl, hM.out.congr (fun k _ => (ownAt_first (by omega)).symm)⟩
  case round =>
    obtain ⟨i, h1, h2, rfl, hmid⟩ := hrel
    have HM := Lib.hid hmid
    clear hmid
    obtain ⟨c0, c1, c2, c3, c4⟩ := H.out.cells HM.out hX.out
    have exn : (a : Int) + xn - 1 - (a : Int) + 1 = xn := by omega
    simp only [exn] at c0 c1
    clear c2 c3 c4 exn
    by_cases hi : (i : Int) < (a : Int) + xn
    · have i80 : i < 80 := by omega
      obtain ⟨oc, ofr⟩ := HM.out.1.cell i80
      rw [H.out.free hX.out (by simp only; omega) (by simp only; omega)] at oc
      go_upto_region 49 with fail
      go_quiet (fail)
      go_wp2
      refine ⟨⟨i + 1, by omega, by omega, by go_num, (HM.out.drewN nq).set H.out.base i80 (fun k _ => ?_)⟩, by simp [intOf]; omega⟩
      rw [show ((i + 1 : Nat) : Int) = (i : Int) + 1 by omega, ownAt_next (by simp only; omega)]
      by_cases hk : k = i
      · rw [if_pos hk, if_pos (by omega)]
      · rw [if_neg hk, if_neg (by omega)]
    · go_upto_region 49 with fail
      go_quiet (fail)
      go_wp2
      exact HQ.out _ _ _ _ _ _ _ _ _ _ _ _ _ _ _ _ _ _ _ _ _ _ _ _ _ _ _ _ _ _ _ _ _ _ _ _ _ _ _ ((HM.out.drewN nq).congr (fun k _ => by
        have h3 := H.out.last hX.out k
        simp only at h3
        rw [← h3, show (i : Int) = (a : Int) + xn - 1 + 1 by omega]))

end Go.Proofs.Ytofaioabjkcaiaa
