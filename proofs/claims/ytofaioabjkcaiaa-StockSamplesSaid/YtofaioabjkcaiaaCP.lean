/- The law's small functions: holds compared, members listed; Pledged; Holds, Pledged and Count where there is an error. -/
import Derived.Test.YtofaioabjkcaiaaCN
import Derived.Test.YtofaioabjkcaiaaBQ
import Derived.OwnWalk
namespace Go.Proofs.Ytofaioabjkcaiaa
open Go.RowKit

set_option maxRecDepth 100000 in
set_option maxHeartbeats 2000000 in
theorem holds_same (va vb : Value) (l : List Piece) (w : World) (ha : HoldAt w va l) (hb : RunsAt w vb l) (hlen : l.length ≤ 1000000) (hbd : ∀ x ∈ l, 1 ≤ x.1 ∧ x.1 ≤ x.2.1 ∧ x.2.1 ≤ 1000000) :
    Calls Try.prog 54 #[va, vb] w fun e w' => e = .returned (.bool true) ∧ Adds w w' := by
  obtain ⟨p, cap, rfl, hc⟩ := ha
  obtain ⟨q, cap2, rfl, hd⟩ := hb
  have HC := Lib.hid hc
  have HD := Lib.hid hd
  have HB := Lib.hid hbd
  obtain ⟨N, hN⟩ : ∃ N, N = l.length := ⟨_, rfl⟩
  rw [← hN] at hlen ⊢
  have HN := Lib.hid hN
  clear hc hd hN hbd
  go_enter Try.func54, Try.ntmps54
  go_wp2_with fail
  go_loopw [5] (fun v5 wr => ∃ k : Nat, k ≤ N ∧ v5 = .int .i64 k ∧ Hid (Adds w wr)) (fun v5 _ => N - (intOf v5).toNat)
  case atStart => exact ⟨0, by omega, rfl, Lib.hid (Adds.refl _)⟩
  case round =>
    obtain ⟨k, hk, rfl, hadd⟩ := hrel
    by_cases hlt : k < N
    · obtain ⟨⟨xa, xc, xs, xl, xo, xh⟩, hx⟩ : ∃ x, l[k]? = some x := ⟨_, List.getElem?_eq_getElem (by have := HN.out; omega)⟩
      obtain ⟨g, rfl, c0, c1, c2, c3, c4⟩ := HC.out k _ hx
      obtain ⟨g2, rfl, d0, d1, d2, d3, d4, d5⟩ := HD.out k _ hx
      have hxb := HB.out _ (List.mem_of_getElem? hx)
      replace c0 := keep_cell hadd.out c0
      replace c1 := keep_cell hadd.out c1
      replace c2 := keep_cell hadd.out c2
      replace c3 := keep_cell hadd.out c3
      replace c4 := keep_cell hadd.out c4
      replace d0 := keep_cell hadd.out d0
      replace d1 := keep_cell hadd.out d1
      replace d2 := keep_cell hadd.out d2
      replace d3 := keep_cell hadd.out d3
      replace d4 := keep_cell hadd.out d4
      replace d5 := keep_cell hadd.out d5
      simp only at c0 c1 c2 c3 c4 d0 d1 d2 d3 d4 d5 hxb
      obtain ⟨u, hu⟩ : ∃ u, u = xc - xa + 1 := ⟨_, rfl⟩
      rw [← hu] at c1
      have e1 : IntKind.i64.wrap (xc - xa) = xc - xa := by rw [i64_w']; exact w64_in' _ ⟨by omega, by omega⟩
      have e2 : IntKind.i64.wrap (xc - xa + 1) = u := by rw [i64_w', hu]; exact w64_in' _ ⟨by omega, by omega⟩
      have e3 : wrap64 (xc - xa) = xc - xa := w64_in' _ ⟨by omega, by omega⟩
      have e4 : wrap64 (xc - xa + 1) = u := by rw [hu]; exact w64_in' _ ⟨by omega, by omega⟩
      have n0 : (xa != xa) = false := by simp
      have n1 : (u != u) = false := by simp
      have n2 : (xl != xl) = false := by simp
      have n3 : (xo != xo) = false := by simp
      have n4 : (xh != xh) = false := by simp
      have HU := Lib.hid hu
      clear hx hu
      have A8 : Adds wr (wr.alloc (.cells #[.int .i64 xa, .int .i64 xc, .int .i64 xs, .int .i64 xl, .int .i64 xo, .int .i64 xh] 63)) := (Adds.refl wr).alloc _
      replace c0 := keep_cell A8 c0
      replace c1 := keep_cell A8 c1
      replace c2 := keep_cell A8 c2
      replace c3 := keep_cell A8 c3
      replace c4 := keep_cell A8 c4
      go_upto_region 7 with fail
      go_quiet (fail)
      go_wp2
      exact ⟨⟨k + 1, by omega, by go_num, Lib.hid ((hadd.out.alloc _).drewN _)⟩, by simp [intOf]; omega⟩
    · go_wp2
      go_ret
      exact ⟨rfl, hadd.out⟩

end Go.Proofs.Ytofaioabjkcaiaa

namespace Go.Proofs.Ytofaioabjkcaiaa
open Go.RowKit

set_option maxHeartbeats 400000 in
theorem namer_hold (w : World) : Namer w 63 (fun p => p.hold) := ⟨fun args w => by go_simp, fun q w1 _ => by
  go_enter Try.func63, Try.ntmps63
  go_wp2
  go_ret
  exact ⟨rfl, (Adds.refl w1).alloc _⟩⟩

set_option maxHeartbeats 400000 in
theorem Pledged_ok (B s : Nat) (v : Value) (bs : List Nat) (Ts : List Tree) (m : Int) (ver : Nat) (w : World) (hS : StockAt B w s v bs Ts) (hver : ver ≤ bs.length) (hm : inB 1000 m = true) :
    Calls Try.prog 23 #[.pointer (some ⟨s, 0, none⟩), .int .i64 m, .int .i64 ver] w (HoldsGot w (ownedBy (fun p => p.hold) m (runsT 1 1000000 (treeOf Ts ver)))) := by
  have HS := Lib.hid hS
  have HM := Lib.hid hm
  clear hS hm
  go_enter Try.func23, Try.ntmps23
  go_wp2_with (go_at_call 61; refine (holds_ok B s 63 v bs Ts m ver (fun p => p.hold) _ HS.out hver HM.out (namer_hold _)).mono ?_; rintro e w1 ⟨hv, rfl, hr, hb⟩; have HR := Lib.hid hr; clear hr)
  go_ret2
  exact ⟨hv, rfl, HR.out, hb⟩

set_option maxHeartbeats 400000 in
theorem holds_arg (B s gw : Nat) (v : Value) (bs : List Nat) (Ts : List Tree) (m ver : Int) (w : World) (hS : StockAt B w s v bs Ts) (hm : inB 1000 m = false) (h0 : 0 ≤ ver) (h1 : ver ≤ bs.length) : Calls Try.prog 61 #[.pointer (some ⟨s, 0, none⟩), .int .i64 m, .int .i64 ver, .func (.func gw) #[] #[]] w fun e w' => e = .returned (.tuple #[.slice none 0 0, .int .i64 1]) ∧ Adds w w' := by
  have HS := Lib.hid hS
  have H1 := Lib.hid hm
  have H2 := Lib.hid h0
  have H3 := Lib.hid h1
  clear hS hm h0 h1
  refine calls_marks Try.func61 rfl ?_
  simp only [Try.ntmps61, List.size_toArray, List.length_cons, List.length_nil, Nat.reduceAdd, Nat.reduceSub, Array.replicate_succ, Array.replicate_zero, List.push_toArray, List.append_toArray, List.nil_append, List.cons_append]
  go_wp2_with (first
    | (go_at_call 64; refine (members_one _ m _ (by go_simp)).mono ?_; rintro e w' ⟨rfl, rfl⟩; rw [H1.out])
    | (go_at_call 58; refine (tree_arg B s v bs Ts ver _ (by exact HS.out.later (by repeat (first | exact Adds.refl _ | apply Adds.alloc))) H2.out H3.out).mono ?_; rintro e w' ⟨rfl, rfl⟩))
  refine marks_ret (v := .tuple #[.slice none 0 0, .int .i64 1]) rfl ?_ ⟨rfl, ?_⟩
  · simp [results, Try.results61, go_sem]
  · repeat (first | exact Adds.refl _ | apply Adds.alloc)

set_option maxHeartbeats 400000 in
theorem Holds_arg (B s : Nat) (v : Value) (bs : List Nat) (Ts : List Tree) (m ver : Int) (w : World) (hS : StockAt B w s v bs Ts) (hm : inB 1000 m = false) (h0 : 0 ≤ ver) (h1 : ver ≤ bs.length) : Calls Try.prog 22 #[.pointer (some ⟨s, 0, none⟩), .int .i64 m, .int .i64 ver] w fun e w' => e = .returned (.tuple #[.slice none 0 0, .int .i64 1]) ∧ Adds w w' := by
  have HS := Lib.hid hS
  have H1 := Lib.hid hm
  have H2 := Lib.hid h0
  have H3 := Lib.hid h1
  clear hS hm h0 h1
  go_enter Try.func22, Try.ntmps22
  go_wp2_with (go_at_call 61; refine (holds_arg B s 62 v bs Ts m ver _ HS.out H1.out H2.out H3.out).mono ?_; rintro e w' ⟨rfl, hb⟩)
  go_ret2
  exact ⟨rfl, hb⟩

set_option maxHeartbeats 400000 in
theorem Pledged_arg (B s : Nat) (v : Value) (bs : List Nat) (Ts : List Tree) (m ver : Int) (w : World) (hS : StockAt B w s v bs Ts) (hm : inB 1000 m = false) (h0 : 0 ≤ ver) (h1 : ver ≤ bs.length) : Calls Try.prog 23 #[.pointer (some ⟨s, 0, none⟩), .int .i64 m, .int .i64 ver] w fun e w' => e = .returned (.tuple #[.slice none 0 0, .int .i64 1]) ∧ Adds w w' := by
  have HS := Lib.hid hS
  have H1 := Lib.hid hm
  have H2 := Lib.hid h0
  have H3 := Lib.hid h1
  clear hS hm h0 h1
  go_enter Try.func23, Try.ntmps23
  go_wp2_with (go_at_call 61; refine (holds_arg B s 63 v bs Ts m ver _ HS.out H1.out H2.out H3.out).mono ?_; rintro e w' ⟨rfl, hb⟩)
  go_ret2
  exact ⟨rfl, hb⟩

set_option maxHeartbeats 400000 in
theorem Count_arg (B s : Nat) (v : Value) (bs : List Nat) (Ts : List Tree) (m ver : Int) (w : World) (hS : StockAt B w s v bs Ts) (hm : inB 1000 m = false) (h0 : 0 ≤ ver) (h1 : ver ≤ bs.length) : Calls Try.prog 24 #[.pointer (some ⟨s, 0, none⟩), .int .i64 m, .int .i64 ver] w fun e w' => e = .returned (.tuple #[.int .i64 0, .int .i64 1]) ∧ Adds w w' := by
  have HS := Lib.hid hS
  have H1 := Lib.hid hm
  have H2 := Lib.hid h0
  have H3 := Lib.hid h1
  clear hS hm h0 h1
  go_enter Try.func24, Try.ntmps24
  go_wp2_with (go_at_call 22; refine (Holds_arg B s v bs Ts m ver _ HS.out H1.out H2.out H3.out).mono ?_; rintro e w' ⟨rfl, hb⟩)
  refine wp_loop_once ?_
  go_wp2
  go_ret2
  exact ⟨rfl, hb⟩

set_option maxHeartbeats 400000 in
theorem holds_none (B s gw : Nat) (v : Value) (bs : List Nat) (Ts : List Tree) (m ver : Int) (w : World) (hS : StockAt B w s v bs Ts) (hv : ver < 0 ∨ bs.length < ver) : Calls Try.prog 61 #[.pointer (some ⟨s, 0, none⟩), .int .i64 m, .int .i64 ver, .func (.func gw) #[] #[]] w fun e w' => e = .returned (.tuple #[.slice none 0 0, .int .i64 4]) ∧ Adds w w' := by
  have HS := Lib.hid hS
  have H1 := Lib.hid hv
  clear hS hv
  refine calls_marks Try.func61 rfl ?_
  simp only [Try.ntmps61, List.size_toArray, List.length_cons, List.length_nil, Nat.reduceAdd, Nat.reduceSub, Array.replicate_succ, Array.replicate_zero, List.push_toArray, List.append_toArray, List.nil_append, List.cons_append]
  go_wp2_with (first
    | (go_at_call 64; refine (members_one _ m _ (by go_simp)).mono ?_; rintro e w' ⟨rfl, rfl⟩)
    | (go_at_call 58; refine (tree_none B s v bs Ts ver (inB 1000 m) _ (by exact HS.out.later (by repeat (first | exact Adds.refl _ | apply Adds.alloc))) H1.out).mono ?_; rintro e w' ⟨rfl, rfl⟩))
  refine marks_ret (v := .tuple #[.slice none 0 0, .int .i64 4]) rfl ?_ ⟨rfl, ?_⟩
  · simp [results, Try.results61, go_sem]
  · repeat (first | exact Adds.refl _ | apply Adds.alloc)

set_option maxHeartbeats 400000 in
theorem Holds_none (B s : Nat) (v : Value) (bs : List Nat) (Ts : List Tree) (m ver : Int) (w : World) (hS : StockAt B w s v bs Ts) (hv : ver < 0 ∨ bs.length < ver) : Calls Try.prog 22 #[.pointer (some ⟨s, 0, none⟩), .int .i64 m, .int .i64 ver] w fun e w' => e = .returned (.tuple #[.slice none 0 0, .int .i64 4]) ∧ Adds w w' := by
  have HS := Lib.hid hS
  have H1 := Lib.hid hv
  clear hS hv
  go_enter Try.func22, Try.ntmps22
  go_wp2_with (go_at_call 61; refine (holds_none B s 62 v bs Ts m ver _ HS.out H1.out).mono ?_; rintro e w' ⟨rfl, hb⟩)
  go_ret2
  exact ⟨rfl, hb⟩

set_option maxHeartbeats 400000 in
theorem Pledged_none (B s : Nat) (v : Value) (bs : List Nat) (Ts : List Tree) (m ver : Int) (w : World) (hS : StockAt B w s v bs Ts) (hv : ver < 0 ∨ bs.length < ver) : Calls Try.prog 23 #[.pointer (some ⟨s, 0, none⟩), .int .i64 m, .int .i64 ver] w fun e w' => e = .returned (.tuple #[.slice none 0 0, .int .i64 4]) ∧ Adds w w' := by
  have HS := Lib.hid hS
  have H1 := Lib.hid hv
  clear hS hv
  go_enter Try.func23, Try.ntmps23
  go_wp2_with (go_at_call 61; refine (holds_none B s 63 v bs Ts m ver _ HS.out H1.out).mono ?_; rintro e w' ⟨rfl, hb⟩)
  go_ret2
  exact ⟨rfl, hb⟩

set_option maxHeartbeats 400000 in
theorem Count_none (B s : Nat) (v : Value) (bs : List Nat) (Ts : List Tree) (m ver : Int) (w : World) (hS : StockAt B w s v bs Ts) (hv : ver < 0 ∨ bs.length < ver) : Calls Try.prog 24 #[.pointer (some ⟨s, 0, none⟩), .int .i64 m, .int .i64 ver] w fun e w' => e = .returned (.tuple #[.int .i64 0, .int .i64 4]) ∧ Adds w w' := by
  have HS := Lib.hid hS
  have H1 := Lib.hid hv
  clear hS hv
  go_enter Try.func24, Try.ntmps24
  go_wp2_with (go_at_call 22; refine (Holds_none B s v bs Ts m ver _ HS.out H1.out).mono ?_; rintro e w' ⟨rfl, hb⟩)
  refine wp_loop_once ?_
  go_wp2
  go_ret2
  exact ⟨rfl, hb⟩

/-- Numbers that can be read. -/
def NumsAt (w : World) (v : Value) (ms : List Int) : Prop :=
  ∃ p cap, v = .slice p ms.length cap ∧ ∀ (i : Nat) (x : Int), ms[i]? = some x → ∃ g, p = some ⟨g, 0, none⟩ ∧ w.cell? ⟨g, i, none⟩ = some (.int .i64 x)

theorem NumsAt.later {w w' : World} {v : Value} {ms : List Int} (h : NumsAt w v ms) (ha : Adds w w') : NumsAt w' v ms := by
  obtain ⟨p, cap, hv, hc⟩ := h
  refine ⟨p, cap, hv, fun i x hx => ?_⟩
  obtain ⟨g, hp, h0⟩ := hc i x hx
  exact ⟨g, hp, keep_cell ha h0⟩

def numCells (ms : List Int) : List Value := ms.map fun x => .int .i64 x

theorem own_numsAt {w : World} {base n : Nat} {hv : Value} {ms : List Int} (h : w.ownsRow base 3 1 hv n (numCells ms)) (hn : n = ms.length) : NumsAt w hv ms := by
  subst hn
  obtain ⟨h1, h2⟩ := h
  rcases h2 with ⟨hv, hn⟩ | ⟨g, cap, cur, hv, hg, hh, hn, hcap, hs, ht⟩
  · have := List.length_eq_zero_iff.1 hn
    subst this
    exact ⟨none, 0, hv, fun i x hx => by simp at hx⟩
  · refine ⟨some ⟨g, 0, none⟩, cap, hv, fun i x hx => ⟨g, rfl, ?_⟩⟩
    have hi := (List.getElem?_eq_some_iff.1 hx).1
    have : (cur.toList.take (ms.length * 1))[i]? = some (.int .i64 x) := by rw [ht]; simp [numCells, hx]
    rw [List.getElem?_take, if_pos (by omega), Array.getElem?_toList] at this
    simp [World.cell?, hh, this]

theorem num_first {W : World} {b base : Nat} {x : Int} (h : W.heap[b]? = some (.cells #[.int .i64 x] 3 (0, 0))) (hb : base ≤ b) : W.ownsRow base 3 1 (.slice (some ⟨b, 0, none⟩) 1 1) 1 (numCells [x]) :=
  ⟨rfl, Or.inr ⟨b, 1, #[.int .i64 x], rfl, hb, h, Nat.le_refl _, by unfold maxLen; omega, rfl, rfl⟩⟩

theorem num_more {W : World} {base : Nat} {u : Value} {n : Nat} {ms : List Int} {x : Int} (h : W.ownsRow base 3 1 u (n + 1) (numCells ms ++ [.int .i64 x])) : W.ownsRow base 3 1 u (n + 1) (numCells (ms ++ [x])) := by
  simpa [numCells] using h

theorem info3' : (Try.prog.info? 3).map (fun i => (i.zero, i.size, i.bytes)) = some (some (.int .i64 0), 1, 8) := by kernel_rfl

set_option maxRecDepth 100000 in
set_option maxHeartbeats 2000000 in
theorem members_any (v : Value) (L : List Piece) (w : World) (hL : RunsAt w v L) (hlen : L.length ≤ 1000000) (hgd : ∀ x ∈ L, (0 ≤ x.2.2.own ∧ x.2.2.own ≤ 1000) ∧ 0 ≤ x.2.2.hold ∧ x.2.2.hold ≤ 1000) :
    Calls Try.prog 53 #[v] w fun e w' => ∃ u ms, e = .returned u ∧ NumsAt w' u ms ∧ (∀ m ∈ ms, 0 ≤ m ∧ m ≤ 1000) ∧ ms.length ≤ 2000001 ∧ Adds w w' := by
  obtain ⟨p, cap, rfl, hc⟩ := hL
  have HC := Lib.hid hc
  have HG := Lib.hid hgd
  clear hc hgd
  obtain ⟨n, hn⟩ : ∃ n, n = L.length := ⟨_, rfl⟩
  rw [← hn] at hlen ⊢
  have HNL := Lib.hid hn
  clear hn
  obtain ⟨j0, hj, hj0, hj1, hj2⟩ := info_parts info3'
  have HJ := Lib.hid hj
  have HJ0 := Lib.hid hj0
  have HJ1 := Lib.hid hj1
  have HJ2 := Lib.hid hj2
  clear hj hj0 hj1 hj2
  go_enter Try.func53, Try.ntmps53
  go_upto_region 2 with fail
  obtain ⟨W1, hW1⟩ : ∃ V, V = w.alloc (.cells #[.int .i64 1000] 3) := ⟨_, rfl⟩
  have A1 : Adds w W1 := by rw [hW1]; exact (Adds.refl w).alloc _
  have O1 : W1.ownsRow w.heap.size 3 1 (.slice (some ⟨w.heap.size, 0, none⟩) 1 1) 1 (numCells [1000]) := by rw [hW1]; exact num_first (new_at rfl) (Nat.le_refl _)
  rw [← hW1]
  have HA1 := Lib.hid A1
  have HO1 := Lib.hid O1
  clear hW1 A1 O1
  go_wp2_with fail
  go_loopw [3, 4] (fun v3 v4 wr => ∃ (k z : Nat) (u : Value) (ms : List Int), k ≤ n ∧ v4 = .int .i64 k ∧ u = v3 ∧ Hid (z = 2 * k + 1) ∧ Hid (ms.length = z) ∧ Hid (wr.ownsRow w.heap.size 3 1 u z (numCells ms)) ∧ Hid (∀ m ∈ ms, 0 ≤ m ∧ m ≤ 1000) ∧ Hid (Adds w wr)) (fun _ v4 _ => n - (intOf v4).toNat)
  case atStart => exact ⟨0, 1, _, [1000], by omega, rfl, rfl, Lib.hid rfl, Lib.hid rfl, HO1, Lib.hid (by simp), HA1⟩
  case round =>
    obtain ⟨k, z, u, ms, hk, rfl, rfl, hz, hml, hrow, hms, hadd⟩ := hrel
    have hzb : z ≤ 2000001 := by have := hz.out; omega
    by_cases hlt : k < n
    · obtain ⟨x, hx⟩ : ∃ x, L[k]? = some x := ⟨_, List.getElem?_eq_getElem (by have := HNL.out; omega)⟩
      obtain ⟨g, rfl, -, -, -, -, c4, c5⟩ := HC.out k x hx
      have HXG := Lib.hid (HG.out x (List.mem_of_getElem? hx))
      clear hx
      have hgl : g < w.heap.size := cell_lt c4
      replace c4 := keep_cell hadd.out c4
      have C5 := Lib.hid (keep_cell hadd.out c5)
      clear c5
      obtain ⟨xa, xc, xs, xl, xo, xh⟩ := x
      simp only at c4
      have hww := hadd.out.size
      go_upto_region 6 with (at_builtin; ((refine wpList_append_lies _ rfl _ _ 77 rfl w.heap.size 3 j0 (.int .i64 0) 1 8 Try.underlying77 HJ.out HJ0.out HJ1.out HJ2.out rfl (by decide) u z (numCells ms) rfl (ownsRow_same hrow.out (fun g hg => ((Adds.refl wr).alloc _).block g (hrow.out.lt g hg).2)) ⟨wr.heap.size, 0, none⟩ 1 1 [.int .i64 xo] rfl rfl (World.news_of_block (new_at rfl)) (by simp [Value.oneCell']) (by omega) (by unfold maxLen; omega) (by omega) (by simp; omega) _ rfl ?_); intro g9 c9 Vc hown hgrow hgat hglt; have HOWN := Lib.hid hown; have hgl9 : w.heap.size ≤ g9 := (hown.lt g9 rfl).1; have HAD := Lib.hid (adds_touch2 hadd.out (row_grow (n := z + 1) (cap := c9) ((Adds.refl wr).alloc _) hgrow hgat).1 (fun k hk => (hrow.out.lt k hk).1)); clear hown hgrow hgat))
      have c5 : Vc.cell? ⟨g, k * 6 + 5, none⟩ = some (.int .i64 xh) := by
        have h := HC.out
        have hb := HAD.out.cell (p := ⟨g, k * 6 + 5, none⟩) hgl
        have hb0 := hadd.out.cell (p := ⟨g, k * 6 + 5, none⟩) hgl
        rw [hb, ← hb0]; exact C5.out
      have hvw := HAD.out.size
      go_wp2_with (at_builtin; ((refine wpList_append_lies _ rfl _ _ 77 rfl w.heap.size 3 j0 (.int .i64 0) 1 8 Try.underlying77 HJ.out HJ0.out HJ1.out HJ2.out rfl (by decide) (.slice (some ⟨g9, 0, none⟩) (z + 1) c9) (z + 1) (numCells ms ++ [.int .i64 xo]) rfl (ownsRow_same HOWN.out (fun g hg => ((Adds.refl Vc).alloc _).block g (HOWN.out.lt g hg).2)) ⟨Vc.heap.size, 0, none⟩ 1 1 [.int .i64 xh] rfl rfl (World.news_of_block (new_at rfl)) (by simp [Value.oneCell']) (by omega) (by unfold maxLen; omega) (by omega) (by simp; omega) _ rfl ?_); intro g8 c8 Vd hown hgrow hgat hglt; have HOWN2 := Lib.hid hown; have HAD2 := Lib.hid (adds_touch2 HAD.out (row_grow (n := z + 1 + 1) (cap := c8) ((Adds.refl Vc).alloc _) hgrow hgat).1 (fun k hk => (HOWN.out.lt k hk).1)); clear hown hgrow hgat))
      refine ⟨⟨k + 1, z + 1 + 1, _, ms ++ [xo] ++ [xh], by omega, by go_num, rfl, Lib.hid (by have := hz.out; omega), Lib.hid (by have := hml.out; simp; omega), Lib.hid ?_, Lib.hid ?_, HAD2⟩, by simp [intOf]; omega⟩
      · have h := HOWN2.out
        simpa [numCells] using h
      · have hb := HXG.out
        simp only at hb
        intro m hm
        simp only [List.append_assoc, List.mem_append, List.mem_singleton, List.cons_append, List.nil_append, List.mem_cons, List.not_mem_nil, or_false] at hm
        rcases hm with hm | rfl | rfl
        · exact hms.out m hm
        · exact hb.1
        · exact hb.2
    · go_wp2_with fail
      go_ret
      exact ⟨_, ms, rfl, own_numsAt hrow.out hml.out.symm, hms.out, by have := hml.out; have := hz.out; omega, hadd.out⟩

end Go.Proofs.Ytofaioabjkcaiaa
