/- StockKeeps: the loop over the holds of a member. -/
import Derived.Test.YtofaioabjkcaiaaAW
import Derived.Test.YtofaioabjkcaiaaAX
import Derived.Deep.CutBlock
import Derived.Deep.DeepCutAuto
namespace Go.Proofs.Ytofaioabjkcaiaa
open Go.RowKit

set_option maxRecDepth 1000000 in
set_option maxHeartbeats 4000000 in
theorem blk5_any {p : Option Addr} {N cap s bl ob hg L hcap j : Nat} {tot : Int} {wb w9 : World} {f : Int → Pk} {R hs : List Piece} {u1 u2 u5 u6 u7 u8 u11 u14 u16 u18 u19 u20 u21 u22 u23 u24 u25 u26 u27 u28 u29 u30 u31 u32 u33 u34 u35 u36 u37 u38 u39 u40 u41 u42 u43 u44 u45 u46 u47 u48 u49 u50 u51 u52 u53 u54 u55 u56 u57 u58 u59 u60 u61 u62 u63 u64 u65 u66 u67 u68 u69 u70 u71 u72 u73 u74 u75 u76 u77 u78 u79 u80 u81 u82 u83 u84 u85 u86 u87 u88 u89 u90 u91 u92 u93 u94 u95 u96 u97 u98 u99 u100 u101 u102 u103 u104 u105 u106 u107 u108 u109 u110 u111 u112 u113 u114 u115 u116 u117 u118 u119 u120 u121 u122 u123 u124 u125 u126 u127 u128 u129 u130 u131 u132 u133 u134 u135 u136 u137 u138 u139 u140 u141 u142 u143 u144 u145 u146 u147 u148 u149 u150 u151 u152 u153 u154 u155 u156 u157 u158 u159 u160 u161 u162 u163 u164 u165 u166 u167 u168 u169 u170 u171 u172 u173 u174 u175 u176 u177 u178 u179 u180 u181 u182 u183 u184 u185 u186 u187 u188 u189 u190 u191 u192 u193 u194 u195 u196 u197 u198 u199 u200 u201 u202 u203 u204 u205 u206 u207 u208 u209 u210 u211 u212 u213 u214 u215 u216 u217 u218 u219 u220 u221 u222 u223 u224 u225 u226 u227 u228 u229 u230 u231 u232 u233 u234 u235 u236 u237 u238 u239 u240 u241 u242 u243 u244 u245 u246 u247 u248 u249 u250 u251 u252 u253 u254 u255 u256 u257 u258 u259 u260 u261 u262 u263 u264 u265 u266 u267 u268 u269 u270 u271 u272 u273 u274 u275 u276 u277 u278 u279 u280 u281 u282 u283 u284 u285 u286 u287 u288 u289 u290 u291 u292 u293 u294 u295 u296 u297 u298 u299 u300 u301 u302 u303 u304 u305 u306 u307 u308 u309 u310 u311 u312 u313 u314 u315 u316 u317 u318 u319 u320 u321 u322 u323 u324 u325 u326 u327 u328 u329 u330 u331 u332 u333 u334 u335 u336 u337 u338 u339 u340 u341 u342 u343 u344 u345 u346 u347 u348 u349 u350 u351 u352 u353 u354 u355 u356 u357 u358 u359 u360 u361 u362 : Value} {Q : Exit → Act → World → Prop}
    (H : Hid (Held wb w9 ob hg L f R hs tot ((j : Int) + 1))) (hj : j < 4) (hM : Hid (Mid wb w9 ob (ownTo f ((j : Int) + 1)) w9))
    (hQ : ∀ (x2 x17 x18 x166 x167 x168 x169 x170 x171 x172 x173 x174 x175 x176 x177 x178 x179 x180 x181 x182 x183 x184 x185 x186 x187 x188 x189 x190 x191 x192 x193 x194 x195 x196 x197 x198 x199 x200 x201 x202 x203 x204 x205 x206 x207 x208 x209 x210 x211 x212 x213 x214 x215 x216 x217 x218 x219 x220 x221 x222 x223 x224 x225 x226 x227 x228 x229 x230 x231 x232 x233 x234 x235 x236 x237 x238 x239 x240 x241 x242 x243 x244 x245 x246 x247 x248 x249 x250 x251 x252 x253 x254 x255 x256 x257 x258 x259 x260 x261 x262 x263 x264 x265 x266 x267 x268 x269 x270 x271 x272 x273 x274 x275 x276 x277 x278 x279 x280 x281 x282 x283 x284 x285 x286 x287 x288 x289 x290 x291 x292 x293 x294 x295 x296 x297 x298 x299 x300 x301 x302 x303 x304 x305 x306 x307 x308 x309 x310 x311 x312 : Value) (w' : World), Mid wb w9 ob (ownTo f ((j : Int) + 1 + 1)) w' → Q .normal ⟨#[.slice p N cap, u1, x2, .pointer (some ⟨s, 0, none⟩), .int .i64 tot, u5, u6, u7, u8, .int .i64 bl, .slice (some ⟨ob, 0, none⟩) 80 80, u11, .int .i64 ((j : Int) + 1), .slice (some ⟨hg, 0, none⟩) L hcap, u14, .int .i64 0, u16, x17, x18, u19, u20, u21, u22, u23, u24, u25, u26, u27, u28, u29, u30, u31, u32, u33, u34, u35, u36, u37, u38, u39, u40, u41, u42, u43, u44, u45, u46, u47, u48, u49, u50, u51, u52, u53, u54, u55, u56, u57, u58, u59, u60, u61, u62, u63, u64, u65, u66, u67, u68, u69, u70, u71, u72, u73, u74, u75, u76, u77, u78, u79, u80, u81, u82, u83, u84, u85, u86, u87, u88, u89, u90, u91, u92, u93, u94, u95, u96, u97, u98, u99, u100, u101, u102, u103, u104, u105, u106, u107, u108, u109, u110, u111, u112, u113, u114, u115, u116, u117, u118, u119, u120, u121, u122, u123, u124, u125, u126, u127, u128, u129, u130, u131, u132, u133, u134, u135, u136, u137, u138, u139, u140, u141, u142, u143, u144, u145, u146, u147, u148, u149, u150, u151, u152, u153, u154, u155, u156, u157, u158, u159, u160, u161, u162, u163, u164, u165, x166, x167, x168, x169, x170, x171, x172, x173, x174, x175, x176, x177, x178, x179, x180, x181, x182, x183, x184, x185, x186, x187, x188, x189, x190, x191, x192, x193, x194, x195, x196, x197, x198, x199, x200, x201, x202, x203, x204, x205, x206, x207, x208, x209, x210, x211, x212, x213, x214, x215, x216, x217, x218, x219, x220, x221, x222, x223, x224, x225, x226, x227, x228, x229, x230, x231, x232, x233, x234, x235, x236, x237, x238, x239, x240, x241, x242, x243, x244, x245, x246, x247, x248, x249, x250, x251, x252, x253, x254, x255, x256, x257, x258, x259, x260, x261, x262, x263, x264, x265, x266, x267, x268, x269, x270, x271, x272, x273, x274, x275, x276, x277, x278, x279, x280, x281, x282, x283, x284, x285, x286, x287, x288, x289, x290, x291, x292, x293, x294, x295, x296, x297, x298, x299, x300, x301, x302, x303, x304, x305, x306, x307, x308, x309, x310, x311, x312, u313, u314, u315, u316, u317, u318, u319, u320, u321, u322, u323, u324, u325, u326, u327, u328, u329, u330, u331, u332, u333, u334, u335, u336, u337, u338, u339, u340, u341, u342, u343, u344, u345, u346, u347, u348, u349, u350, u351, u352, u353, u354, u355, u356, u357, u358, u359, u360, u361, u362], []⟩ w') :
    Code.wp Try.prog blk5 Q ⟨#[.slice p N cap, u1, u2, .pointer (some ⟨s, 0, none⟩), .int .i64 tot, u5, u6, u7, u8, .int .i64 bl, .slice (some ⟨ob, 0, none⟩) 80 80, u11, .int .i64 ((j : Int) + 1), .slice (some ⟨hg, 0, none⟩) L hcap, u14, .int .i64 (countOf hs), u16, .int .i64 0, u18, u19, u20, u21, u22, u23, u24, u25, u26, u27, u28, u29, u30, u31, u32, u33, u34, u35, u36, u37, u38, u39, u40, u41, u42, u43, u44, u45, u46, u47, u48, u49, u50, u51, u52, u53, u54, u55, u56, u57, u58, u59, u60, u61, u62, u63, u64, u65, u66, u67, u68, u69, u70, u71, u72, u73, u74, u75, u76, u77, u78, u79, u80, u81, u82, u83, u84, u85, u86, u87, u88, u89, u90, u91, u92, u93, u94, u95, u96, u97, u98, u99, u100, u101, u102, u103, u104, u105, u106, u107, u108, u109, u110, u111, u112, u113, u114, u115, u116, u117, u118, u119, u120, u121, u122, u123, u124, u125, u126, u127, u128, u129, u130, u131, u132, u133, u134, u135, u136, u137, u138, u139, u140, u141, u142, u143, u144, u145, u146, u147, u148, u149, u150, u151, u152, u153, u154, u155, u156, u157, u158, u159, u160, u161, u162, u163, u164, u165, u166, u167, u168, u169, u170, u171, u172, u173, u174, u175, u176, u177, u178, u179, u180, u181, u182, u183, u184, u185, u186, u187, u188, u189, u190, u191, u192, u193, u194, u195, u196, u197, u198, u199, u200, u201, u202, u203, u204, u205, u206, u207, u208, u209, u210, u211, u212, u213, u214, u215, u216, u217, u218, u219, u220, u221, u222, u223, u224, u225, u226, u227, u228, u229, u230, u231, u232, u233, u234, u235, u236, u237, u238, u239, u240, u241, u242, u243, u244, u245, u246, u247, u248, u249, u250, u251, u252, u253, u254, u255, u256, u257, u258, u259, u260, u261, u262, u263, u264, u265, u266, u267, u268, u269, u270, u271, u272, u273, u274, u275, u276, u277, u278, u279, u280, u281, u282, u283, u284, u285, u286, u287, u288, u289, u290, u291, u292, u293, u294, u295, u296, u297, u298, u299, u300, u301, u302, u303, u304, u305, u306, u307, u308, u309, u310, u311, u312, u313, u314, u315, u316, u317, u318, u319, u320, u321, u322, u323, u324, u325, u326, u327, u328, u329, u330, u331, u332, u333, u334, u335, u336, u337, u338, u339, u340, u341, u342, u343, u344, u345, u346, u347, u348, u349, u350, u351, u352, u353, u354, u355, u356, u357, u358, u359, u360, u361, u362], []⟩ w9 := by
  obtain ⟨h1, h2, hl⟩ := H.out.bd
  have HQ := Lib.hid hQ
  clear hQ
  conv => arg 2; whnf
  dsimp only
  go_wp2
  go_loopw [15, 17] (fun nn i wz => ∃ q : Nat, q ≤ L ∧ i = .int .i64 q ∧ nn = .int .i64 (countOf hs - countOf (hs.take q)) ∧ Mid wb w9 ob (ownIn f ((j : Int) + 1) hs q) wz) (fun _ i _ => L - (intOf i).toNat)
  case atStart => exact ⟨0, by omega, rfl, by simp [countOf], hM.out.congr (fun _ _ => ownIn_none.symm)⟩
  case round =>
    obtain ⟨q, hq, rfl, rfl, hmid⟩ := hrel
    have HM := Lib.hid hmid
    clear hmid
    have hct := count_take H.out.le q
    by_cases hq2 : q < L
    · have hct1 := count_take H.out.le (q + 1)
      have hqs : q < hs.length := by rw [← H.out.len]; exact hq2
      have hxq : hs[q]? = some (hs[q]'hqs) := List.getElem?_eq_getElem hqs
      obtain ⟨c0, c1, c2, c3, c4⟩ := H.out.cells HM.out hxq
      obtain ⟨p1, p2, p3, p4⟩ := H.out.piece hxq
      have hsnoc : hs.take (q + 1) = hs.take q ++ [hs[q]'hqs] := List.take_succ_eq_append_getElem hqs
      have hcs : countOf (hs.take (q + 1)) = countOf (hs.take q) + ((hs[q]'hqs).2.1 - (hs[q]'hqs).1 + 1) := by rw [hsnoc, countOf_snoc]
      have HXQ := Lib.hid hxq
      have HCS := Lib.hid hcs
      rw [hcs] at hct1
      rw [p1] at c3
      clear hsnoc hcs hxq p1
      generalize hs[q]'hqs = x at *
      obtain ⟨xf, xe, xp⟩ := x
      simp only at c0 c1 c2 c3 c4 p2 p3 p4 hct1
      obtain ⟨a, rfl⟩ : ∃ a : Nat, xf = a := ⟨xf.toNat, by omega⟩
      obtain ⟨xn, hxn⟩ : ∃ xn, xe = (a : Int) + xn - 1 := ⟨xe - a + 1, by omega⟩
      subst hxn
      have exn : (a : Int) + xn - 1 - a + 1 = xn := by omega
      have HXN := Lib.hid exn
      rw [exn] at c1 hct1
      clear exn
      go_upto_region 46 with fail
      go_cut [270] from 166 to 312 (fun c wx => c = .bool false ∧ ∃ n, wx = wr.drewN n)
      case first =>
        rcases Nat.eq_zero_or_pos q with hq0 | hq0
        · subst hq0
          refine reg46_zero (r := 0) (xf := a) (xl := xp.lot) (xh := xp.hold) (yf := 0) (yn := 0) (yl := 0) (yh := 0) hq2 hl hj c0 c2 c3 c4 ?_
          intros
          dsimp only
          go_wp2
          go_meet
          exact ⟨rfl, _, rfl⟩
        · obtain ⟨r, rfl⟩ : ∃ r, q = r + 1 := ⟨q - 1, by omega⟩
          have hrs : r < hs.length := by omega
          have hyq : hs[r]? = some (hs[r]'hrs) := List.getElem?_eq_getElem hrs
          obtain ⟨d0, d1, d2, _, d4⟩ := H.out.cells HM.out hyq
          have hpv := H.out.prev hyq HXQ.out
          obtain ⟨_, r2, r3, r4⟩ := H.out.piece hyq
          clear hyq
          generalize hs[r]'hrs = y at *
          obtain ⟨yf, ye, yp⟩ := y
          simp only at d0 d1 d2 d4 hpv r2 r3 r4
          obtain ⟨yn, hyn⟩ : ∃ yn, ye = yf + yn - 1 := ⟨ye - yf + 1, by omega⟩
          subst hyn
          have eyn : yf + yn - 1 - yf + 1 = yn := by omega
          rw [eyn] at d1
          clear eyn
          have e2 : IntKind.i64.wrap (yf + yn) = yf + yn := wrap_in _ (by omega) (by omega)
          have b1 : decide ((a : Int) < yf + yn) = false := decide_eq_false (by have := hpv.1; omega)
          have b0 : decide ((0 : Int) < (r : Int) + 1) = true := decide_eq_true (by omega)
          have hpw := hpv.2
          clear hpv hq0
          rcases hpw with h | ⟨h, h2 | ⟨h2, h3⟩⟩
          · refine reg46_apart hq2 hl hj c0 c2 c3 c4 d0 d1 d2 d4 b0 e2 b1 (by rw [beq_eq_false_iff_ne]; omega) ?_
            intros
            dsimp only
            go_wp2
            go_meet
            exact ⟨rfl, _, rfl⟩
          · refine reg46_lot hq2 hl hj c0 c2 c3 c4 d0 d1 d2 d4 b0 e2 b1 (by rw [beq_iff_eq]; omega) (beq_eq_false_iff_ne.2 h2) ?_
            intros
            dsimp only
            go_wp2
            go_meet
            exact ⟨rfl, _, rfl⟩
          · refine reg46_hold hq2 hl hj c0 c2 c3 c4 d0 d1 d2 d4 b0 e2 b1 (by rw [beq_iff_eq]; omega) (by rw [h2]; exact beq_self_eq_true _) (beq_eq_false_iff_ne.2 h3) ?_
            intros
            dsimp only
            go_wp2
            go_meet
            exact ⟨rfl, _, rfl⟩
      case rest =>
        obtain ⟨rfl, nd, rfl⟩ := hcut
        have HM2 : Hid (Mid wb w9 ob (ownIn f ((j : Int) + 1) hs q) (wr.drewN nd)) := Lib.hid (HM.out.drewN nd)
        go_upto_block 7 with fail
        refine blk7_any H hj HXQ HM2 ?_
        intros
        rename_i w' hmid'
        dsimp only
        go_wp2
        exact ⟨⟨q + 1, by omega, by go_num, by rw [HCS.out, HXN.out, Int.sub_sub], hmid'⟩, by simp [intOf]; omega⟩
    · have hz : countOf hs - countOf (hs.take q) = 0 := by rw [List.take_of_length_le (by rw [← H.out.len]; omega)]; omega
      have HEQ : Hid (∀ k : Nat, k < 80 → ownIn f ((j : Int) + 1) hs q k = ownTo f ((j : Int) + 1 + 1) k) := Lib.hid (fun k hk => by
        rw [show q = hs.length by rw [← H.out.len]; omega]
        exact H.out.all (by omega))
      rw [hz]
      clear hz
      go_wp2
      exact HQ.out _ _ _ _ _ _ _ _ _ _ _ _ _ _ _ _ _ _ _ _ _ _ _ _ _ _ _ _ _ _ _ _ _ _ _ _ _ _ _ _ _ _ _ _ _ _ _ _ _ _ _ _ _ _ _ _ _ _ _ _ _ _ _ _ _ _ _ _ _ _ _ _ _ _ _ _ _ _ _ _ _ _ _ _ _ _ _ _ _ _ _ _ _ _ _ _ _ _ _ _ _ _ _ _ _ _ _ _ _ _ _ _ _ _ _ _ _ _ _ _ _ _ _ _ _ _ _ _ _ _ _ _ _ _ _ _ _ _ _ _ _ _ _ _ _ _ _ _ _ _ _ (HM.out.congr HEQ.out)

end Go.Proofs.Ytofaioabjkcaiaa
