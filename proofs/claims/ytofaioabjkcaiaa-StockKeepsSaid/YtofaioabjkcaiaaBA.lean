/- StockKeeps: the loop over the pockets. -/
import Derived.Test.YtofaioabjkcaiaaAZ
namespace Go.Proofs.Ytofaioabjkcaiaa
open Go.RowKit

theorem ownTo_in {f : Int → Pk} {tot : Int} (hk : Kept f tot) {i : Nat} (h1 : 1 ≤ i) (h2 : i < 80) : ((f i).st = 1 ∧ 1 ≤ (f i).own ∧ ownTo f 5 i = (f i).own) ∨ ((f i).st ≠ 1 ∧ ownTo f 5 i = 0) := by
  rcases hk.1 i (by omega) (by omega) with ⟨k1, k2, k3, _⟩ | ⟨k1, k2⟩
  · refine Or.inl ⟨k1, k2, ?_⟩
    unfold ownTo
    rw [if_pos ⟨by omega, k2, by omega⟩]
  · refine Or.inr ⟨k1, ?_⟩
    unfold ownTo
    rw [if_neg (by omega)]

set_option maxRecDepth 1000000 in
set_option maxHeartbeats 4000000 in
theorem blk9_any {p : Option Addr} {N cap s ob k0 : Nat} {tot : Int} {vv : Value} {bs : List Nat} {Ts : List Tree} {w wb W0 : World} {u1 u2 u5 u6 u7 u8 u12 u13 u14 u15 u16 u17 u18 u20 u21 u22 u23 u24 u25 u26 u27 u28 u29 u30 u31 u32 u33 u34 u35 u36 u37 u38 u39 u40 u41 u42 u43 u44 u45 u46 u47 u48 u49 u50 u51 u52 u53 u54 u55 u56 u57 u58 u59 u60 u61 u62 u63 u64 u65 u66 u67 u68 u69 u70 u71 u72 u73 u74 u75 u76 u77 u78 u79 u80 u81 u82 u83 u84 u85 u86 u87 u88 u89 u90 u91 u92 u93 u94 u95 u96 u97 u98 u99 u100 u101 u102 u103 u104 u105 u106 u107 u108 u109 u110 u111 u112 u113 u114 u115 u116 u117 u118 u119 u120 u121 u122 u123 u124 u125 u126 u127 u128 u129 u130 u131 u132 u133 u134 u135 u136 u137 u138 u139 u140 u141 u142 u143 u144 u145 u146 u147 u148 u149 u150 u151 u152 u153 u154 u155 u156 u157 u158 u159 u160 u161 u162 u163 u164 u165 u166 u167 u168 u169 u170 u171 u172 u173 u174 u175 u176 u177 u178 u179 u180 u181 u182 u183 u184 u185 u186 u187 u188 u189 u190 u191 u192 u193 u194 u195 u196 u197 u198 u199 u200 u201 u202 u203 u204 u205 u206 u207 u208 u209 u210 u211 u212 u213 u214 u215 u216 u217 u218 u219 u220 u221 u222 u223 u224 u225 u226 u227 u228 u229 u230 u231 u232 u233 u234 u235 u236 u237 u238 u239 u240 u241 u242 u243 u244 u245 u246 u247 u248 u249 u250 u251 u252 u253 u254 u255 u256 u257 u258 u259 u260 u261 u262 u263 u264 u265 u266 u267 u268 u269 u270 u271 u272 u273 u274 u275 u276 u277 u278 u279 u280 u281 u282 u283 u284 u285 u286 u287 u288 u289 u290 u291 u292 u293 u294 u295 u296 u297 u298 u299 u300 u301 u302 u303 u304 u305 u306 u307 u308 u309 u310 u311 u312 u313 u314 u315 u316 u317 u318 u319 u320 u321 u322 u323 u324 u325 u326 u327 u328 u329 u330 u331 u332 u333 u334 u335 u336 u337 u338 u339 u340 u341 u342 u343 u344 u345 u346 u347 u348 u349 u350 u351 u352 u353 u354 u355 u356 u357 u358 u359 u360 u361 u362 : Value} {Q : Exit → Act → World → Prop}
    (HF : Hid (FirstAt w wb s vv bs Ts tot k0)) (OW : Hid (OwnerAt W0 ob (ownTo (treeOf Ts bs.length).look 5))) (AW : Hid (Adds wb W0)) (hbl : bs.length ≤ 30)
    (hQ : ∀ (x2 x19 x20 x21 x315 x316 x317 x318 x319 x320 x321 x322 x323 x324 x325 x326 x327 x328 x329 x330 x331 x332 x333 x334 x335 x336 x337 x338 x339 x340 x341 x342 x343 x344 x345 x346 x347 x348 x349 x350 x351 x352 x353 x354 x355 x356 : Value) (w' : World), Adds wb w' → Q .normal ⟨#[.slice p N cap, u1, x2, .pointer (some ⟨s, 0, none⟩), .int .i64 tot, u5, u6, u7, u8, .int .i64 bs.length, .slice (some ⟨ob, 0, none⟩) 80 80, .int .i64 tot, u12, u13, u14, u15, u16, u17, u18, x19, x20, x21, u22, u23, u24, u25, u26, u27, u28, u29, u30, u31, u32, u33, u34, u35, u36, u37, u38, u39, u40, u41, u42, u43, u44, u45, u46, u47, u48, u49, u50, u51, u52, u53, u54, u55, u56, u57, u58, u59, u60, u61, u62, u63, u64, u65, u66, u67, u68, u69, u70, u71, u72, u73, u74, u75, u76, u77, u78, u79, u80, u81, u82, u83, u84, u85, u86, u87, u88, u89, u90, u91, u92, u93, u94, u95, u96, u97, u98, u99, u100, u101, u102, u103, u104, u105, u106, u107, u108, u109, u110, u111, u112, u113, u114, u115, u116, u117, u118, u119, u120, u121, u122, u123, u124, u125, u126, u127, u128, u129, u130, u131, u132, u133, u134, u135, u136, u137, u138, u139, u140, u141, u142, u143, u144, u145, u146, u147, u148, u149, u150, u151, u152, u153, u154, u155, u156, u157, u158, u159, u160, u161, u162, u163, u164, u165, u166, u167, u168, u169, u170, u171, u172, u173, u174, u175, u176, u177, u178, u179, u180, u181, u182, u183, u184, u185, u186, u187, u188, u189, u190, u191, u192, u193, u194, u195, u196, u197, u198, u199, u200, u201, u202, u203, u204, u205, u206, u207, u208, u209, u210, u211, u212, u213, u214, u215, u216, u217, u218, u219, u220, u221, u222, u223, u224, u225, u226, u227, u228, u229, u230, u231, u232, u233, u234, u235, u236, u237, u238, u239, u240, u241, u242, u243, u244, u245, u246, u247, u248, u249, u250, u251, u252, u253, u254, u255, u256, u257, u258, u259, u260, u261, u262, u263, u264, u265, u266, u267, u268, u269, u270, u271, u272, u273, u274, u275, u276, u277, u278, u279, u280, u281, u282, u283, u284, u285, u286, u287, u288, u289, u290, u291, u292, u293, u294, u295, u296, u297, u298, u299, u300, u301, u302, u303, u304, u305, u306, u307, u308, u309, u310, u311, u312, u313, u314, x315, x316, x317, x318, x319, x320, x321, x322, x323, x324, x325, x326, x327, x328, x329, x330, x331, x332, x333, x334, x335, x336, x337, x338, x339, x340, x341, x342, x343, x344, x345, x346, x347, x348, x349, x350, x351, x352, x353, x354, x355, x356, u357, u358, u359, u360, u361, u362], []⟩ w') :
    Code.wp Try.prog blk9 Q ⟨#[.slice p N cap, u1, u2, .pointer (some ⟨s, 0, none⟩), .int .i64 tot, u5, u6, u7, u8, .int .i64 bs.length, .slice (some ⟨ob, 0, none⟩) 80 80, .int .i64 tot, u12, u13, u14, u15, u16, u17, u18, .int .i64 1, u20, u21, u22, u23, u24, u25, u26, u27, u28, u29, u30, u31, u32, u33, u34, u35, u36, u37, u38, u39, u40, u41, u42, u43, u44, u45, u46, u47, u48, u49, u50, u51, u52, u53, u54, u55, u56, u57, u58, u59, u60, u61, u62, u63, u64, u65, u66, u67, u68, u69, u70, u71, u72, u73, u74, u75, u76, u77, u78, u79, u80, u81, u82, u83, u84, u85, u86, u87, u88, u89, u90, u91, u92, u93, u94, u95, u96, u97, u98, u99, u100, u101, u102, u103, u104, u105, u106, u107, u108, u109, u110, u111, u112, u113, u114, u115, u116, u117, u118, u119, u120, u121, u122, u123, u124, u125, u126, u127, u128, u129, u130, u131, u132, u133, u134, u135, u136, u137, u138, u139, u140, u141, u142, u143, u144, u145, u146, u147, u148, u149, u150, u151, u152, u153, u154, u155, u156, u157, u158, u159, u160, u161, u162, u163, u164, u165, u166, u167, u168, u169, u170, u171, u172, u173, u174, u175, u176, u177, u178, u179, u180, u181, u182, u183, u184, u185, u186, u187, u188, u189, u190, u191, u192, u193, u194, u195, u196, u197, u198, u199, u200, u201, u202, u203, u204, u205, u206, u207, u208, u209, u210, u211, u212, u213, u214, u215, u216, u217, u218, u219, u220, u221, u222, u223, u224, u225, u226, u227, u228, u229, u230, u231, u232, u233, u234, u235, u236, u237, u238, u239, u240, u241, u242, u243, u244, u245, u246, u247, u248, u249, u250, u251, u252, u253, u254, u255, u256, u257, u258, u259, u260, u261, u262, u263, u264, u265, u266, u267, u268, u269, u270, u271, u272, u273, u274, u275, u276, u277, u278, u279, u280, u281, u282, u283, u284, u285, u286, u287, u288, u289, u290, u291, u292, u293, u294, u295, u296, u297, u298, u299, u300, u301, u302, u303, u304, u305, u306, u307, u308, u309, u310, u311, u312, u313, u314, u315, u316, u317, u318, u319, u320, u321, u322, u323, u324, u325, u326, u327, u328, u329, u330, u331, u332, u333, u334, u335, u336, u337, u338, u339, u340, u341, u342, u343, u344, u345, u346, u347, u348, u349, u350, u351, u352, u353, u354, u355, u356, u357, u358, u359, u360, u361, u362], []⟩ W0 := by
  have HQ := Lib.hid hQ
  clear hQ
  conv => arg 2; whnf
  dsimp only
  go_wp2
  go_loopw [19] (fun kv wy => ∃ i : Nat, 1 ≤ i ∧ i ≤ 80 ∧ kv = .int .i64 i ∧ OwnerAt wy ob (ownTo (treeOf Ts bs.length).look 5) ∧ Adds wb wy) (fun kv _ => 80 - (intOf kv).toNat)
  case atStart => exact ⟨1, by omega, by omega, rfl, OW.out, AW.out⟩
  case round =>
    obtain ⟨i, h1, h2, rfl, hown, haq⟩ := hrel
    have HOW := Lib.hid hown
    clear hown OW AW
    by_cases hi : i < 80
    · have hn : inB 1000000 (i : Int) = true := by rw [inB_iff]; omega
      have hcase := ownTo_in HF.out.2.2.1 h1 hi
      have HP := Lib.hid (Pocket_ok _ s vv bs Ts (i : Int) bs.length _ (HF.out.1.later haq) (Nat.le_refl _) hn)
      obtain ⟨oc, ofr⟩ := HOW.out.cell hi
      generalize (treeOf Ts bs.length).look (i : Int) = px at hcase HP
      generalize ownTo (treeOf Ts bs.length).look 5 (i : Int) = ow at hcase oc
      obtain ⟨st, lot, own, hold⟩ := px
      simp only [Pk.val] at hcase HP
      have hobl : ob < wr.heap.size := by obtain ⟨xs, hx, _⟩ := HOW.out; exact hx.lt
      rcases hcase with ⟨k1, k2, k3⟩ | ⟨k1, k2⟩
      · subst k1 k3
        have k4 : decide ((0 : Int) < ow) = true := decide_eq_true (by omega)
        go_upto_region 60 with (go_at_call 21; refine HP.out.mono ?_; rintro e w8 ⟨rfl, hb8⟩; have oc := keep_cell hb8 oc)
        obtain ⟨W9, hW9⟩ : ∃ V, V = w8.alloc (.cells #[.int .i64 1, .int .i64 lot, .int .i64 ow, .int .i64 hold] 44) := ⟨_, rfl⟩
        have A9 : Adds wr W9 := by rw [hW9]; exact hb8.alloc _
        have Z : Box W9 w8.heap.size #[.int .i64 1, .int .i64 lot, .int .i64 ow, .int .i64 hold] 44 := by rw [hW9]; exact Box.new w8 _ _
        have A89 : Adds w8 W9 := by rw [hW9]; exact (Adds.refl w8).alloc _
        have oc := keep_cell A89 oc
        rw [← hW9]
        clear hW9
        have z0 := Z.cell 0
        have z2 := Z.cell 2
        simp only [List.getElem?_toArray, List.getElem?_cons_zero, List.getElem?_cons_succ] at z0 z2
        clear Z hb8 A89
        generalize w8.heap.size = ab at *
        go_quiet (fail)
        go_wp2
        exact ⟨⟨i + 1, by omega, by omega, by go_num, HOW.out.later (A9.drewN _), haq.trans (A9.drewN _)⟩, by simp [intOf]; omega⟩
      · subst k2
        have k4 : (st == 1) = false := beq_eq_false_iff_ne.2 k1
        clear k1
        go_upto_region 60 with (go_at_call 21; refine HP.out.mono ?_; rintro e w8 ⟨rfl, hb8⟩; have oc := keep_cell hb8 oc)
        obtain ⟨W9, hW9⟩ : ∃ V, V = w8.alloc (.cells #[.int .i64 st, .int .i64 lot, .int .i64 own, .int .i64 hold] 44) := ⟨_, rfl⟩
        have A9 : Adds wr W9 := by rw [hW9]; exact hb8.alloc _
        have Z : Box W9 w8.heap.size #[.int .i64 st, .int .i64 lot, .int .i64 own, .int .i64 hold] 44 := by rw [hW9]; exact Box.new w8 _ _
        have A89 : Adds w8 W9 := by rw [hW9]; exact (Adds.refl w8).alloc _
        have oc := keep_cell A89 oc
        rw [← hW9]
        clear hW9
        have z0 := Z.cell 0
        have z2 := Z.cell 2
        simp only [List.getElem?_toArray, List.getElem?_cons_zero, List.getElem?_cons_succ] at z0 z2
        clear Z hb8 A89
        generalize w8.heap.size = ab at *
        go_quiet (fail)
        go_wp2
        exact ⟨⟨i + 1, by omega, by omega, by go_num, HOW.out.later (A9.drewN _), haq.trans (A9.drewN _)⟩, by simp [intOf]; omega⟩
    · go_wp2
      exact HQ.out _ _ _ _ _ _ _ _ _ _ _ _ _ _ _ _ _ _ _ _ _ _ _ _ _ _ _ _ _ _ _ _ _ _ _ _ _ _ _ _ _ _ _ _ _ _ _ haq

end Go.Proofs.Ytofaioabjkcaiaa
