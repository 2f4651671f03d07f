/- StockKeeps: the loop over the members. -/
import Derived.Test.YtofaioabjkcaiaaAY
namespace Go.Proofs.Ytofaioabjkcaiaa
open Go.RowKit

set_option maxRecDepth 1000000 in
set_option maxHeartbeats 4000000 in
theorem blk3_any {p : Option Addr} {N cap s ob k0 : Nat} {tot : Int} {vv : Value} {bs : List Nat} {Ts : List Tree} {w wb W0 : World} {u1 u2 u5 u6 u7 u8 u13 u14 u15 u16 u17 u18 u19 u20 u21 u22 u23 u24 u25 u26 u27 u28 u29 u30 u31 u32 u33 u34 u35 u36 u37 u38 u39 u40 u41 u42 u43 u44 u45 u46 u47 u48 u49 u50 u51 u52 u53 u54 u55 u56 u57 u58 u59 u60 u61 u62 u63 u64 u65 u66 u67 u68 u69 u70 u71 u72 u73 u74 u75 u76 u77 u78 u79 u80 u81 u82 u83 u84 u85 u86 u87 u88 u89 u90 u91 u92 u93 u94 u95 u96 u97 u98 u99 u100 u101 u102 u103 u104 u105 u106 u107 u108 u109 u110 u111 u112 u113 u114 u115 u116 u117 u118 u119 u120 u121 u122 u123 u124 u125 u126 u127 u128 u129 u130 u131 u132 u133 u134 u135 u136 u137 u138 u139 u140 u141 u142 u143 u144 u145 u146 u147 u148 u149 u150 u151 u152 u153 u154 u155 u156 u157 u158 u159 u160 u161 u162 u163 u164 u165 u166 u167 u168 u169 u170 u171 u172 u173 u174 u175 u176 u177 u178 u179 u180 u181 u182 u183 u184 u185 u186 u187 u188 u189 u190 u191 u192 u193 u194 u195 u196 u197 u198 u199 u200 u201 u202 u203 u204 u205 u206 u207 u208 u209 u210 u211 u212 u213 u214 u215 u216 u217 u218 u219 u220 u221 u222 u223 u224 u225 u226 u227 u228 u229 u230 u231 u232 u233 u234 u235 u236 u237 u238 u239 u240 u241 u242 u243 u244 u245 u246 u247 u248 u249 u250 u251 u252 u253 u254 u255 u256 u257 u258 u259 u260 u261 u262 u263 u264 u265 u266 u267 u268 u269 u270 u271 u272 u273 u274 u275 u276 u277 u278 u279 u280 u281 u282 u283 u284 u285 u286 u287 u288 u289 u290 u291 u292 u293 u294 u295 u296 u297 u298 u299 u300 u301 u302 u303 u304 u305 u306 u307 u308 u309 u310 u311 u312 u313 u314 u315 u316 u317 u318 u319 u320 u321 u322 u323 u324 u325 u326 u327 u328 u329 u330 u331 u332 u333 u334 u335 u336 u337 u338 u339 u340 u341 u342 u343 u344 u345 u346 u347 u348 u349 u350 u351 u352 u353 u354 u355 u356 u357 u358 u359 u360 u361 u362 : Value} {Q : Exit → Act → World → Prop}
    (HF : Hid (FirstAt w wb s vv bs Ts tot k0)) (hob : Hid (wb.heap.size ≤ ob)) (OW : Hid (OwnerAt W0 ob (ownTo (treeOf Ts bs.length).look 1))) (AW : Hid (Adds wb W0)) (hbl : bs.length ≤ 30)
    (hQ : ∀ (x2 x12 x13 x14 x15 x16 x17 x18 x139 x140 x141 x142 x143 x144 x145 x146 x147 x148 x149 x150 x151 x152 x153 x154 x155 x156 x157 x158 x159 x160 x161 x162 x163 x164 x165 x166 x167 x168 x169 x170 x171 x172 x173 x174 x175 x176 x177 x178 x179 x180 x181 x182 x183 x184 x185 x186 x187 x188 x189 x190 x191 x192 x193 x194 x195 x196 x197 x198 x199 x200 x201 x202 x203 x204 x205 x206 x207 x208 x209 x210 x211 x212 x213 x214 x215 x216 x217 x218 x219 x220 x221 x222 x223 x224 x225 x226 x227 x228 x229 x230 x231 x232 x233 x234 x235 x236 x237 x238 x239 x240 x241 x242 x243 x244 x245 x246 x247 x248 x249 x250 x251 x252 x253 x254 x255 x256 x257 x258 x259 x260 x261 x262 x263 x264 x265 x266 x267 x268 x269 x270 x271 x272 x273 x274 x275 x276 x277 x278 x279 x280 x281 x282 x283 x284 x285 x286 x287 x288 x289 x290 x291 x292 x293 x294 x295 x296 x297 x298 x299 x300 x301 x302 x303 x304 x305 x306 x307 x308 x309 x310 x311 x312 x313 x314 : Value) (w' : World), OwnerAt w' ob (ownTo (treeOf Ts bs.length).look 5) → Adds wb w' → Q .normal ⟨#[.slice p N cap, u1, x2, .pointer (some ⟨s, 0, none⟩), .int .i64 tot, u5, u6, u7, u8, .int .i64 bs.length, .slice (some ⟨ob, 0, none⟩) 80 80, .int .i64 tot, x12, x13, x14, x15, x16, x17, x18, u19, u20, u21, u22, u23, u24, u25, u26, u27, u28, u29, u30, u31, u32, u33, u34, u35, u36, u37, u38, u39, u40, u41, u42, u43, u44, u45, u46, u47, u48, u49, u50, u51, u52, u53, u54, u55, u56, u57, u58, u59, u60, u61, u62, u63, u64, u65, u66, u67, u68, u69, u70, u71, u72, u73, u74, u75, u76, u77, u78, u79, u80, u81, u82, u83, u84, u85, u86, u87, u88, u89, u90, u91, u92, u93, u94, u95, u96, u97, u98, u99, u100, u101, u102, u103, u104, u105, u106, u107, u108, u109, u110, u111, u112, u113, u114, u115, u116, u117, u118, u119, u120, u121, u122, u123, u124, u125, u126, u127, u128, u129, u130, u131, u132, u133, u134, u135, u136, u137, u138, x139, x140, x141, x142, x143, x144, x145, x146, x147, x148, x149, x150, x151, x152, x153, x154, x155, x156, x157, x158, x159, x160, x161, x162, x163, x164, x165, x166, x167, x168, x169, x170, x171, x172, x173, x174, x175, x176, x177, x178, x179, x180, x181, x182, x183, x184, x185, x186, x187, x188, x189, x190, x191, x192, x193, x194, x195, x196, x197, x198, x199, x200, x201, x202, x203, x204, x205, x206, x207, x208, x209, x210, x211, x212, x213, x214, x215, x216, x217, x218, x219, x220, x221, x222, x223, x224, x225, x226, x227, x228, x229, x230, x231, x232, x233, x234, x235, x236, x237, x238, x239, x240, x241, x242, x243, x244, x245, x246, x247, x248, x249, x250, x251, x252, x253, x254, x255, x256, x257, x258, x259, x260, x261, x262, x263, x264, x265, x266, x267, x268, x269, x270, x271, x272, x273, x274, x275, x276, x277, x278, x279, x280, x281, x282, x283, x284, x285, x286, x287, x288, x289, x290, x291, x292, x293, x294, x295, x296, x297, x298, x299, x300, x301, x302, x303, x304, x305, x306, x307, x308, x309, x310, x311, x312, x313, x314, u315, u316, u317, u318, u319, u320, u321, u322, u323, u324, u325, u326, u327, u328, u329, u330, u331, u332, u333, u334, u335, u336, u337, u338, u339, u340, u341, u342, u343, u344, u345, u346, u347, u348, u349, u350, u351, u352, u353, u354, u355, u356, u357, u358, u359, u360, u361, u362], []⟩ w') :
    Code.wp Try.prog blk3 Q ⟨#[.slice p N cap, u1, u2, .pointer (some ⟨s, 0, none⟩), .int .i64 tot, u5, u6, u7, u8, .int .i64 bs.length, .slice (some ⟨ob, 0, none⟩) 80 80, .int .i64 0, .int .i64 1, u13, u14, u15, u16, u17, u18, u19, u20, u21, u22, u23, u24, u25, u26, u27, u28, u29, u30, u31, u32, u33, u34, u35, u36, u37, u38, u39, u40, u41, u42, u43, u44, u45, u46, u47, u48, u49, u50, u51, u52, u53, u54, u55, u56, u57, u58, u59, u60, u61, u62, u63, u64, u65, u66, u67, u68, u69, u70, u71, u72, u73, u74, u75, u76, u77, u78, u79, u80, u81, u82, u83, u84, u85, u86, u87, u88, u89, u90, u91, u92, u93, u94, u95, u96, u97, u98, u99, u100, u101, u102, u103, u104, u105, u106, u107, u108, u109, u110, u111, u112, u113, u114, u115, u116, u117, u118, u119, u120, u121, u122, u123, u124, u125, u126, u127, u128, u129, u130, u131, u132, u133, u134, u135, u136, u137, u138, u139, u140, u141, u142, u143, u144, u145, u146, u147, u148, u149, u150, u151, u152, u153, u154, u155, u156, u157, u158, u159, u160, u161, u162, u163, u164, u165, u166, u167, u168, u169, u170, u171, u172, u173, u174, u175, u176, u177, u178, u179, u180, u181, u182, u183, u184, u185, u186, u187, u188, u189, u190, u191, u192, u193, u194, u195, u196, u197, u198, u199, u200, u201, u202, u203, u204, u205, u206, u207, u208, u209, u210, u211, u212, u213, u214, u215, u216, u217, u218, u219, u220, u221, u222, u223, u224, u225, u226, u227, u228, u229, u230, u231, u232, u233, u234, u235, u236, u237, u238, u239, u240, u241, u242, u243, u244, u245, u246, u247, u248, u249, u250, u251, u252, u253, u254, u255, u256, u257, u258, u259, u260, u261, u262, u263, u264, u265, u266, u267, u268, u269, u270, u271, u272, u273, u274, u275, u276, u277, u278, u279, u280, u281, u282, u283, u284, u285, u286, u287, u288, u289, u290, u291, u292, u293, u294, u295, u296, u297, u298, u299, u300, u301, u302, u303, u304, u305, u306, u307, u308, u309, u310, u311, u312, u313, u314, u315, u316, u317, u318, u319, u320, u321, u322, u323, u324, u325, u326, u327, u328, u329, u330, u331, u332, u333, u334, u335, u336, u337, u338, u339, u340, u341, u342, u343, u344, u345, u346, u347, u348, u349, u350, u351, u352, u353, u354, u355, u356, u357, u358, u359, u360, u361, u362], []⟩ W0 := by
  have HQ := Lib.hid hQ
  clear hQ
  conv => arg 2; whnf
  dsimp only
  go_wp2
  go_loopw [11, 12] (fun sm m wq => ∃ j : Nat, j ≤ 4 ∧ m = .int .i64 ((j : Int) + 1) ∧ sm = .int .i64 (sumTo (runsT 1 1000000 (treeOf Ts bs.length)) j) ∧ OwnerAt wq ob (ownTo (treeOf Ts bs.length).look ((j : Int) + 1)) ∧ Adds wb wq) (fun _ m _ => 5 - (intOf m).toNat)
  case atStart => exact ⟨0, by omega, rfl, rfl, OW.out, AW.out⟩
  case round =>
    obtain ⟨j, hj, rfl, rfl, hown, haq⟩ := hrel
    rename World => wc
    have HOW := Lib.hid hown
    clear hown OW AW
    have hcov := runs_cover (a := 1) (c := 1000000) (HF.out.1.ok (Nat.le_refl bs.length)) (by omega) (by omega) (by omega)
    have hsb := sum_bd hcov HF.out.2.2.1 hj
    have hcb := count_own_bd hcov ((j : Int) + 1)
    have HCOV := Lib.hid hcov
    have HJ := Lib.hid hj
    clear hcov
    by_cases hj4 : j < 4
    · have hm1 : inB 1000 ((j : Int) + 1) = true := by rw [inB_iff]; omega
      go_upto_block 5 with (first
        | (go_at_call 22; refine (Holds_ok _ s vv bs Ts _ bs.length _ (HF.out.1.later haq) (Nat.le_refl _) hm1).mono ?_; rintro e w8 ⟨hv, rfl, hrow, hb8⟩; have HROW := Lib.hid hrow; clear hrow)
        | (go_at_call 24; refine (Count_ok _ s vv bs Ts _ bs.length _ ((HF.out.1.later haq).later hb8) (Nat.le_refl _) hm1 (HF.out.1.ok (Nat.le_refl _))).mono ?_; rintro e w9 ⟨rfl, hb9⟩))
      have hobl : ob < wc.heap.size := by obtain ⟨xs, hx, _⟩ := HOW.out; exact hx.lt
      have hform := HROW.out.2
      rcases hform with ⟨rfl, hn⟩ | ⟨hg, hcap, cur, rfl, hhg, hh, hcp, _⟩
      · have HN := Lib.hid (List.length_eq_zero_iff.1 hn)
        clear hn
        have hc0 : countOf (ownedBy (fun p => p.own) ((j : Int) + 1) (runsT 1 1000000 (treeOf Ts bs.length))) = 0 := by rw [HN.out]; rfl
        have HC0 := Lib.hid hc0
        have HEQ : Hid (∀ k : Nat, k < 80 → ownTo (treeOf Ts bs.length).look ((j : Int) + 1) k = ownTo (treeOf Ts bs.length).look ((j : Int) + 1 + 1) k) := Lib.hid (fun k hk => by
          rw [← ownIn_all (m := (j : Int) + 1) HCOV.out (by omega) (by omega), HN.out]
          exact ownIn_none.symm)
        go_wp2
        refine wp_loop_once ?_
        rw [hc0]
        clear hc0
        go_wp2
        all_goals (exact ⟨⟨j + 1, by omega, by go_num, by first | rfl | (simp only [sumTo]; rw [HC0.out]), (HOW.out.later (hb8.trans hb9)).congr HEQ.out, (haq.trans hb8).trans hb9⟩, by simp [intOf]; omega⟩)
      · have hhl : hg < w8.heap.size := by obtain ⟨h1, _⟩ := Array.getElem?_eq_some_iff.1 hh; exact h1
        have hgob : hg ≠ ob := by omega
        have MID : Hid (Mid wb w9 ob (ownTo (treeOf Ts bs.length).look ((j : Int) + 1)) w9) := Lib.hid ⟨HOW.out.later (hb8.trans hb9), Touch.of_adds (Adds.refl _) _, (haq.trans hb8).trans hb9⟩
        clear hcp hh
        obtain ⟨hs, hhs⟩ : ∃ hs, hs = ownedBy (fun p => p.own) ((j : Int) + 1) (runsT 1 1000000 (treeOf Ts bs.length)) := ⟨_, rfl⟩
        have HHS := Lib.hid hhs
        rw [← hhs]
        rw [← hhs] at hcb HROW
        have HSUM : Hid (sumTo (runsT 1 1000000 (treeOf Ts bs.length)) (j + 1) = sumTo (runsT 1 1000000 (treeOf Ts bs.length)) j + countOf hs) := Lib.hid (by simp only [sumTo]; rw [hhs])
        have HELD : Hid (Held wb w9 ob hg hs.length (treeOf Ts bs.length).look (runsT 1 1000000 (treeOf Ts bs.length)) hs tot ((j : Int) + 1)) := Lib.hid ⟨HCOV.out, runs_parted, HF.out.2.2.1, by omega, hhs, rfl, hob.out, fun hm hx => hold_cells HROW.out hhl hb9 hm hgob hx⟩
        clear hhs
        refine blk5_any HELD hj4 MID ?_
        intros
        rename_i w' hmid'
        dsimp only
        go_wp2
        exact ⟨⟨j + 1, by omega, by go_num, by rw [HSUM.out], hmid'.1, hmid'.2.2⟩, by simp [intOf]; omega⟩
    · have hj5 : j = 4 := by omega
      subst hj5
      have hs4 := sum_four HCOV.out HF.out.2.2.1
      rw [hs4]
      clear hs4
      go_wp2
      exact HQ.out _ _ _ _ _ _ _ _ _ _ _ _ _ _ _ _ _ _ _ _ _ _ _ _ _ _ _ _ _ _ _ _ _ _ _ _ _ _ _ _ _ _ _ _ _ _ _ _ _ _ _ _ _ _ _ _ _ _ _ _ _ _ _ _ _ _ _ _ _ _ _ _ _ _ _ _ _ _ _ _ _ _ _ _ _ _ _ _ _ _ _ _ _ _ _ _ _ _ _ _ _ _ _ _ _ _ _ _ _ _ _ _ _ _ _ _ _ _ _ _ _ _ _ _ _ _ _ _ _ _ _ _ _ _ _ _ _ _ _ _ _ _ _ _ _ _ _ _ _ _ _ _ _ _ _ _ _ _ _ _ _ _ _ _ _ _ _ _ _ _ _ _ _ _ _ _ _ _ _ _ _ _ _ _ _ HOW.out haq

end Go.Proofs.Ytofaioabjkcaiaa
