/- StockKeeps: the loop over the calls, and the whole. -/
import Derived.Test.YtofaioabjkcaiaaAQ
import Derived.Test.YtofaioabjkcaiaaBA
import Derived.Test.YtofaioabjkcaiaaBC
namespace Go.Proofs.Ytofaioabjkcaiaa
open Go.RowKit

set_option maxRecDepth 1000000 in
set_option maxHeartbeats 4000000 in
theorem blk0_any {p : Option Addr} {N cap s : Nat} {f : Nat → Nat → Int} {w w1 : World} {u1 u2 u6 u7 u8 u9 u10 u11 u12 u13 u14 u15 u16 u17 u18 u19 u20 u21 u22 u23 u24 u25 u26 u27 u28 u29 u30 u31 u32 u33 u34 u35 u36 u37 u38 u39 u40 u41 u42 u43 u44 u45 u46 u47 u48 u49 u50 u51 u52 u53 u54 u55 u56 u57 u58 u59 u60 u61 u62 u63 u64 u65 u66 u67 u68 u69 u70 u71 u72 u73 u74 u75 u76 u77 u78 u79 u80 u81 u82 u83 u84 u85 u86 u87 u88 u89 u90 u91 u92 u93 u94 u95 u96 u97 u98 u99 u100 u101 u102 u103 u104 u105 u106 u107 u108 u109 u110 u111 u112 u113 u114 u115 u116 u117 u118 u119 u120 u121 u122 u123 u124 u125 u126 u127 u128 u129 u130 u131 u132 u133 u134 u135 u136 u137 u138 u139 u140 u141 u142 u143 u144 u145 u146 u147 u148 u149 u150 u151 u152 u153 u154 u155 u156 u157 u158 u159 u160 u161 u162 u163 u164 u165 u166 u167 u168 u169 u170 u171 u172 u173 u174 u175 u176 u177 u178 u179 u180 u181 u182 u183 u184 u185 u186 u187 u188 u189 u190 u191 u192 u193 u194 u195 u196 u197 u198 u199 u200 u201 u202 u203 u204 u205 u206 u207 u208 u209 u210 u211 u212 u213 u214 u215 u216 u217 u218 u219 u220 u221 u222 u223 u224 u225 u226 u227 u228 u229 u230 u231 u232 u233 u234 u235 u236 u237 u238 u239 u240 u241 u242 u243 u244 u245 u246 u247 u248 u249 u250 u251 u252 u253 u254 u255 u256 u257 u258 u259 u260 u261 u262 u263 u264 u265 u266 u267 u268 u269 u270 u271 u272 u273 u274 u275 u276 u277 u278 u279 u280 u281 u282 u283 u284 u285 u286 u287 u288 u289 u290 u291 u292 u293 u294 u295 u296 u297 u298 u299 u300 u301 u302 u303 u304 u305 u306 u307 u308 u309 u310 u311 u312 u313 u314 u315 u316 u317 u318 u319 u320 u321 u322 u323 u324 u325 u326 u327 u328 u329 u330 u331 u332 u333 u334 u335 u336 u337 u338 u339 u340 u341 u342 u343 u344 u345 u346 u347 u348 u349 u350 u351 u352 u353 u354 u355 u356 u357 u358 u359 u360 u361 u362 : Value} {Q : Exit → Act → World → Prop}
    (hN : N ≤ maxLen) (HL : Hid (ActsAt w p N f)) (HS : Hid (StockAt w1.heap.size w1 s (.slice none 0 0) [] [])) (hs : w.heap.size ≤ s) (hb : Adds w w1)
    (hQ : ∀ (x2 x5 x6 x7 x8 x25 x26 x27 x28 x29 x30 x31 x32 x33 x34 x35 x36 x37 x38 x39 x40 x41 x42 x43 x44 x45 x46 x47 x48 x49 x50 x51 x52 x53 x54 x55 x56 x57 x58 x59 x60 x61 x62 x63 x64 x65 x66 x67 x68 x69 x70 x71 x72 x73 x74 x75 x76 x77 x78 x79 x80 x81 x82 x83 x84 x85 x86 x87 x88 x89 x90 x91 x92 x93 x94 x95 x96 x97 x98 x99 x100 x101 x102 x103 x104 x105 x106 x107 x108 x109 x110 x111 x112 x113 x114 x115 x116 x117 x118 x119 x120 x121 x122 x123 x124 x125 x126 x127 x128 x129 x130 x131 x132 x133 x134 x135 : Value) (tot : Int) (vv : Value) (bs : List Nat) (Ts : List Tree) (k : Nat) (w' : World), k ≤ 30 → FirstAt w w' s vv bs Ts tot k → Q .normal ⟨#[.slice p N cap, u1, x2, .pointer (some ⟨s, 0, none⟩), .int .i64 tot, x5, x6, x7, x8, u9, u10, u11, u12, u13, u14, u15, u16, u17, u18, u19, u20, u21, u22, u23, u24, x25, x26, x27, x28, x29, x30, x31, x32, x33, x34, x35, x36, x37, x38, x39, x40, x41, x42, x43, x44, x45, x46, x47, x48, x49, x50, x51, x52, x53, x54, x55, x56, x57, x58, x59, x60, x61, x62, x63, x64, x65, x66, x67, x68, x69, x70, x71, x72, x73, x74, x75, x76, x77, x78, x79, x80, x81, x82, x83, x84, x85, x86, x87, x88, x89, x90, x91, x92, x93, x94, x95, x96, x97, x98, x99, x100, x101, x102, x103, x104, x105, x106, x107, x108, x109, x110, x111, x112, x113, x114, x115, x116, x117, x118, x119, x120, x121, x122, x123, x124, x125, x126, x127, x128, x129, x130, x131, x132, x133, x134, x135, u136, u137, u138, u139, u140, u141, u142, u143, u144, u145, u146, u147, u148, u149, u150, u151, u152, u153, u154, u155, u156, u157, u158, u159, u160, u161, u162, u163, u164, u165, u166, u167, u168, u169, u170, u171, u172, u173, u174, u175, u176, u177, u178, u179, u180, u181, u182, u183, u184, u185, u186, u187, u188, u189, u190, u191, u192, u193, u194, u195, u196, u197, u198, u199, u200, u201, u202, u203, u204, u205, u206, u207, u208, u209, u210, u211, u212, u213, u214, u215, u216, u217, u218, u219, u220, u221, u222, u223, u224, u225, u226, u227, u228, u229, u230, u231, u232, u233, u234, u235, u236, u237, u238, u239, u240, u241, u242, u243, u244, u245, u246, u247, u248, u249, u250, u251, u252, u253, u254, u255, u256, u257, u258, u259, u260, u261, u262, u263, u264, u265, u266, u267, u268, u269, u270, u271, u272, u273, u274, u275, u276, u277, u278, u279, u280, u281, u282, u283, u284, u285, u286, u287, u288, u289, u290, u291, u292, u293, u294, u295, u296, u297, u298, u299, u300, u301, u302, u303, u304, u305, u306, u307, u308, u309, u310, u311, u312, u313, u314, u315, u316, u317, u318, u319, u320, u321, u322, u323, u324, u325, u326, u327, u328, u329, u330, u331, u332, u333, u334, u335, u336, u337, u338, u339, u340, u341, u342, u343, u344, u345, u346, u347, u348, u349, u350, u351, u352, u353, u354, u355, u356, u357, u358, u359, u360, u361, u362], []⟩ w') :
    Code.wp Try.prog blk0 Q ⟨#[.slice p N cap, u1, u2, .pointer (some ⟨s, 0, none⟩), .int .i64 0, .int .i64 0, u6, u7, u8, u9, u10, u11, u12, u13, u14, u15, u16, u17, u18, u19, u20, u21, u22, u23, u24, u25, u26, u27, u28, u29, u30, u31, u32, u33, u34, u35, u36, u37, u38, u39, u40, u41, u42, u43, u44, u45, u46, u47, u48, u49, u50, u51, u52, u53, u54, u55, u56, u57, u58, u59, u60, u61, u62, u63, u64, u65, u66, u67, u68, u69, u70, u71, u72, u73, u74, u75, u76, u77, u78, u79, u80, u81, u82, u83, u84, u85, u86, u87, u88, u89, u90, u91, u92, u93, u94, u95, u96, u97, u98, u99, u100, u101, u102, u103, u104, u105, u106, u107, u108, u109, u110, u111, u112, u113, u114, u115, u116, u117, u118, u119, u120, u121, u122, u123, u124, u125, u126, u127, u128, u129, u130, u131, u132, u133, u134, u135, u136, u137, u138, u139, u140, u141, u142, u143, u144, u145, u146, u147, u148, u149, u150, u151, u152, u153, u154, u155, u156, u157, u158, u159, u160, u161, u162, u163, u164, u165, u166, u167, u168, u169, u170, u171, u172, u173, u174, u175, u176, u177, u178, u179, u180, u181, u182, u183, u184, u185, u186, u187, u188, u189, u190, u191, u192, u193, u194, u195, u196, u197, u198, u199, u200, u201, u202, u203, u204, u205, u206, u207, u208, u209, u210, u211, u212, u213, u214, u215, u216, u217, u218, u219, u220, u221, u222, u223, u224, u225, u226, u227, u228, u229, u230, u231, u232, u233, u234, u235, u236, u237, u238, u239, u240, u241, u242, u243, u244, u245, u246, u247, u248, u249, u250, u251, u252, u253, u254, u255, u256, u257, u258, u259, u260, u261, u262, u263, u264, u265, u266, u267, u268, u269, u270, u271, u272, u273, u274, u275, u276, u277, u278, u279, u280, u281, u282, u283, u284, u285, u286, u287, u288, u289, u290, u291, u292, u293, u294, u295, u296, u297, u298, u299, u300, u301, u302, u303, u304, u305, u306, u307, u308, u309, u310, u311, u312, u313, u314, u315, u316, u317, u318, u319, u320, u321, u322, u323, u324, u325, u326, u327, u328, u329, u330, u331, u332, u333, u334, u335, u336, u337, u338, u339, u340, u341, u342, u343, u344, u345, u346, u347, u348, u349, u350, u351, u352, u353, u354, u355, u356, u357, u358, u359, u360, u361, u362], []⟩ w1 := by
  have HQ := Lib.hid hQ
  clear hQ
  conv => arg 2; whnf
  dsimp only
  go_wp2
  go_loopw [4, 5] (fun inn i wr => ∃ (k : Nat) (tot : Int) (vv : Value) (bs : List Nat) (Ts : List Tree), k ≤ 30 ∧ k ≤ N ∧ i = .int .i64 k ∧ inn = .int .i64 tot ∧ FirstAt w wr s vv bs Ts tot k) (fun _ i _ => 30 - (intOf i).toNat)
  case atStart => exact ⟨0, 0, .slice none 0 0, [], [], by omega, by omega, rfl, rfl, HS.out, Nat.le_refl _, kept_new, hb, hs, by simp [Value.ownBlock]⟩
  case round =>
    obtain ⟨k, tot, vv, bs, Ts, hk, hkN, rfl, rfl, hF⟩ := hrel
    have HF := Lib.hid hF
    have HK := Lib.hid (And.intro hk hkN)
    clear hF
    by_cases h1 : k < N
    · by_cases h2 : k < 30
      · skip
        obtain ⟨g, off, rfl, hc⟩ := HL.out k h1
        have d0 := keep_cell HF.out.2.2.2.1 (hc 0 (by omega))
        have d1 := keep_cell HF.out.2.2.2.1 (hc 1 (by omega))
        have d2 := keep_cell HF.out.2.2.2.1 (hc 2 (by omega))
        have d3 := keep_cell HF.out.2.2.2.1 (hc 3 (by omega))
        have d4 := keep_cell HF.out.2.2.2.1 (hc 4 (by omega))
        have d5 := keep_cell HF.out.2.2.2.1 (hc 5 (by omega))
        simp only [Nat.add_zero] at d0
        clear hc
        go_wp2_with (go_at_call 38; refine (tame_any _ _ _ _ _ _ _).mono ?_; rintro e w3 ⟨x, y, lo, ma, mb, rfl, hx, hx2, hy, hy2, hl1, hl2, ha1, ha2, hb1, hb2, hb3⟩)
        obtain ⟨W4, hW4⟩ : ∃ V, V = w3.alloc (.cells #[.int .i64 (f k 0), .int .i64 x, .int .i64 y, .int .i64 lo, .int .i64 ma, .int .i64 mb] 34) := ⟨_, rfl⟩
        have A4 : Adds wr W4 := by rw [hW4]; exact hb3.alloc _
        have Z : Box W4 w3.heap.size #[.int .i64 (f k 0), .int .i64 x, .int .i64 y, .int .i64 lo, .int .i64 ma, .int .i64 mb] 34 := by rw [hW4]; exact Box.new w3 _ _
        have hab : wr.heap.size ≤ w3.heap.size := hb3.size
        rw [← hW4]
        clear hW4 d0 d1 d2 d3 d4 d5
        have z0 := Z.cell 0
        have z1 := Z.cell 1
        have z2 := Z.cell 2
        have z3 := Z.cell 3
        have z4 := Z.cell 4
        have z5 := Z.cell 5
        simp only [List.getElem?_toArray, List.getElem?_cons_zero, List.getElem?_cons_succ] at z0 z1 z2 z3 z4 z5
        clear Z hb3
        generalize w3.heap.size = ab at *
        go_at_call 16
        refine (version_any _ s vv bs Ts _ (HF.out.1.later A4)).mono ?_
        rintro e w5 ⟨rfl, rfl⟩
        have hno : ¬ (ab = s ∨ vv.ownBlock = some ab) := fun h => h.elim (fun h => by have := HF.out.1.box.lt; omega) (fun h => by have := (HF.out.1.row.lt _ h).2; omega)
        have htb := HF.out.2.2.1.bounds
        have hbl := HF.out.2.1
        have hz8 : (IntKind.u64.wrap (f k 0)).tmod 8 = 0 ∨ (IntKind.u64.wrap (f k 0)).tmod 8 = 1 ∨ (IntKind.u64.wrap (f k 0)).tmod 8 = 2 ∨ (IntKind.u64.wrap (f k 0)).tmod 8 = 3 ∨ (IntKind.u64.wrap (f k 0)).tmod 8 = 4 ∨ (IntKind.u64.wrap (f k 0)).tmod 8 = 5 ∨ (IntKind.u64.wrap (f k 0)).tmod 8 = 6 ∨ (IntKind.u64.wrap (f k 0)).tmod 8 = 7 := tmod8 _
        rcases hz8 with hz8 | hz8 | hz8 | hz8 | hz8 | hz8 | hz8 | hz8
        all_goals
          go_wp2_with fail
          first
            | (go_at_call 32; refine (enter_keep lo ma (HF.out.1.later A4) (by have := HF.out.2.1; have := HK.out.1; omega) HF.out.2.2.1 hx hx2 hy hy2 ha1 ha2).mono ?_)
            | (go_at_call 33; refine (move_keep ma mb (HF.out.1.later A4) (by have := HF.out.2.1; have := HK.out.1; omega) HF.out.2.2.1 hx hx2 hy2 hb1 hb2).mono ?_)
            | (go_at_call 34; refine (pledge_keep ma mb (HF.out.1.later A4) (by have := HF.out.2.1; have := HK.out.1; omega) HF.out.2.2.1 hx hx2 hy2).mono ?_)
            | (go_at_call 35; refine (release_keep ma (HF.out.1.later A4) (by have := HF.out.2.1; have := HK.out.1; omega) HF.out.2.2.1 hx hx2 hy2).mono ?_)
            | (go_at_call 36; refine (seize_keep ma (HF.out.1.later A4) (by have := HF.out.2.1; have := HK.out.1; omega) HF.out.2.2.1 hx hx2 hy2 ha1 ha2).mono ?_)
            | (go_at_call 37; refine (leave_keep ma (HF.out.1.later A4) (by have := HF.out.2.1; have := HK.out.1; omega) HF.out.2.2.1 hx hx2 hy hy2).mono ?_)
        all_goals
          rintro e w6 ⟨c, rfl, htch, hcc⟩
          have HC := Lib.hid hcc
          clear hcc
          have z0 := touch_cell htch hno z0
          have z1 := touch_cell htch hno z1
          have z2 := touch_cell htch hno z2
          have z3 := touch_cell htch hno z3
          have z4 := touch_cell htch hno z4
          have z5 := touch_cell htch hno z5
          have HTC := Lib.hid htch
          clear htch
        all_goals
          rcases HC.out with ⟨hc0, hb6⟩ | ⟨rfl, v', b', T', hS', hK', hO'⟩
        all_goals
          first
            | (have hc1 : (c == 0) = false := beq_eq_false_iff_ne.2 hc0
               go_wp2_with (go_at_call 16; refine (version_any _ s vv bs Ts _ ((HF.out.1.later A4).later hb6)).mono ?_; rintro e w7 ⟨rfl, rfl⟩))
            | (have HS' := Lib.hid hS'
               have HK' := Lib.hid hK'
               have HO' := Lib.hid hO'
               clear hS' hK' hO'
               go_wp2_with (go_at_call 16; refine (version_any _ s v' (bs ++ [b']) (Ts ++ [T']) _ HS'.out).mono ?_; rintro e w7 ⟨rfl, rfl⟩))
        all_goals
          first
            | exact ⟨⟨k + 1, tot, vv, bs, Ts, by omega, by omega, by go_num, rfl, first_stay HF.out A4 hb6⟩, by simp [intOf]; omega⟩
            | exact ⟨⟨k + 1, _, v', bs ++ [b'], Ts ++ [T'], by omega, by omega, by go_num, by first | rfl | (congr 1; omega) | simp, first_next HF.out A4 HTC.out HS'.out HK'.out HO'.out⟩, by simp [intOf]; omega⟩
      · go_wp2
        exact HQ.out _ _ _ _ _ _ _ _ _ _ _ _ _ _ _ _ _ _ _ _ _ _ _ _ _ _ _ _ _ _ _ _ _ _ _ _ _ _ _ _ _ _ _ _ _ _ _ _ _ _ _ _ _ _ _ _ _ _ _ _ _ _ _ _ _ _ _ _ _ _ _ _ _ _ _ _ _ _ _ _ _ _ _ _ _ _ _ _ _ _ _ _ _ _ _ _ _ _ _ _ _ _ _ _ _ _ _ _ _ _ _ _ _ _ _ _ _ _ _ _ _ _ HK.out.1 HF.out
    · go_wp2
      exact HQ.out _ _ _ _ _ _ _ _ _ _ _ _ _ _ _ _ _ _ _ _ _ _ _ _ _ _ _ _ _ _ _ _ _ _ _ _ _ _ _ _ _ _ _ _ _ _ _ _ _ _ _ _ _ _ _ _ _ _ _ _ _ _ _ _ _ _ _ _ _ _ _ _ _ _ _ _ _ _ _ _ _ _ _ _ _ _ _ _ _ _ _ _ _ _ _ _ _ _ _ _ _ _ _ _ _ _ _ _ _ _ _ _ _ _ _ _ _ _ _ _ _ _ HK.out.1 HF.out

set_option maxRecDepth 1000000 in
set_option maxHeartbeats 4000000 in
theorem keeps_any (p : Option Addr) (N cap : Nat) (f : Nat → Nat → Int) (w : World) (hN : N ≤ maxLen) (hL : ActsAt w p N f) : Calls Try.prog 9 #[.slice p N cap] w fun e w' => e = .returned (.bool true) ∧ Adds w w' := by
  have HL := Lib.hid hL
  clear hL
  go_enter Try.func9, Try.ntmps9
  go_upto_block 0 with (go_at_call 13; refine (new_any _).mono ?_; rintro e w1 ⟨s, rfl, hS, hs, hb⟩; have HS := Lib.hid hS; clear hS)
  refine blk0_any hN HL HS hs hb ?_
  intros
  rename_i tot vv bs Ts k0 wb hk0 hF
  have HF := Lib.hid hF
  have HK := Lib.hid hk0
  clear hF hk0 hb hs HS
  dsimp only
  have hmk := make80
  go_upto_block 3 with (go_at_call 16; refine (version_any _ s vv bs Ts _ HF.out.1).mono ?_; rintro e w7 ⟨rfl, rfl⟩)
  obtain ⟨W0, hW0⟩ : ∃ V, V = wb.alloc (.cells (madeCells #[.int .i64 0] 80) 3) := ⟨_, rfl⟩
  have AW : Adds wb W0 := by rw [hW0]; exact (Adds.refl wb).alloc _
  have OW : OwnerAt W0 wb.heap.size (ownTo (treeOf Ts bs.length).look 1) := by rw [hW0]; exact owner_new wb _ (fun k _ => by unfold ownTo; rw [if_neg (by omega)])
  rw [← hW0]
  clear hW0 hmk
  have hbl : bs.length ≤ 30 := by have := HF.out.2.1; have := HK.out; omega
  refine blk3_any HF (Lib.hid (Nat.le_refl _)) (Lib.hid OW) (Lib.hid AW) hbl ?_
  clear OW AW
  intros
  rename_i w2 hown2 ha2
  dsimp only
  have OW := Lib.hid hown2
  have AW := Lib.hid ha2
  clear hown2 ha2
  go_upto_block 9 with fail
  refine blk9_any HF OW AW hbl ?_
  intros
  rename_i w3 ha3
  dsimp only
  go_wp2_with (go_at_call 19; refine (awake_any _).mono ?_; rintro e w4 ⟨rfl, ha4⟩)
  go_ret
  exact ⟨rfl, (HF.out.2.2.2.1.trans ha3).trans ha4⟩

end Go.Proofs.Ytofaioabjkcaiaa
