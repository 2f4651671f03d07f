/- Clear and ClearAt. -/
import Derived.Test.YtigpghmbeldakaaY
namespace Go.Proofs.Ytigpghmbeldakaa
open Go.RowKit

theorem TradeRes.slice {f : Int → List Int → List Int} {P : Int → Prop} {l : List Bd} {price rule px v sr er : Int} {fv : Value} {w w' : World} (h : TradeRes f P l price rule px v sr fv er w w') : ∃ q n c, fv = .slice q n c := by
  by_cases h0 : checkT l = 0
  · cases hg : (inB 1000000 price && (decide (rule = 1) || decide (rule = 2))) with
    | false => obtain ⟨_, _, _, h, _⟩ := h.arg h0 hg; exact ⟨_, _, _, h⟩
    | true =>
      obtain ⟨x, _, hh⟩ := h.fine h0 hg
      rcases hh with ⟨_, _, _, _, h, _⟩ | ⟨_, _, _, _, _, g, F, _, h, _⟩
      · exact ⟨_, _, _, h⟩
      · exact ⟨_, _, _, h⟩
  · obtain ⟨_, _, _, h, _⟩ := h.bad h0
    exact ⟨_, _, _, h⟩

/-- What is said of a trade stays, if an older block is written. -/
theorem TradeRes.behind {f : Int → List Int → List Int} {P : Int → Prop} {l : List Bd} {price rule px v sr er : Int} {fv : Value} {w0 w w1 : World} {u0 u1 u2 u3 : Value} (h : TradeRes f P l price rule px v sr fv er w w1) (hb : w0.heap.size < w.heap.size) (hb' : w0.heap.size ≤ w.heap.size) :
    TradeRes f P l price rule px v sr fv er w0 ((((w1.setCell ⟨w0.heap.size, 0, none⟩ u0).setCell ⟨w0.heap.size, 1, none⟩ u1).setCell ⟨w0.heap.size, 2, none⟩ u2).setCell ⟨w0.heap.size, 3, none⟩ u3) := by
  refine ⟨h.bad, h.arg, fun h0 hg => ?_⟩
  obtain ⟨x, hP, hh⟩ := h.fine h0 hg
  refine ⟨x, hP, ?_⟩
  rcases hh with hh | ⟨h1, h2, h3, h4, h5, g, F, hF, hfv, hgs, hr⟩
  · exact Or.inl hh
  · have hne : g ≠ w0.heap.size := by omega
    exact Or.inr ⟨h1, h2, h3, h4, h5, g, F, hF, hfv, by omega, (((hr.far hne _).far hne _).far hne _).far hne _⟩

set_option maxRecDepth 100000 in
set_option maxHeartbeats 2000000 in
theorem Clear_any (m : Nat) (hst : StableUpTo m) (f : Int → List Int → List Int) (price rule : Int) (l : List Bd) (hsh : checkT l = 0 → (rule = 1 ∨ rule = 2) → ShareAt m rule f) (hfs : FShare f) (p : Option Addr) (cap : Nat) (w : World) (hN : l.length ≤ maxLen) (hm : checkT l = 0 → l.length ≤ m) (hL : At3 w p l) :
    Calls Try.prog 22 #[.slice p l.length cap, .int .i64 price, .int .i64 rule] w (TradeGot f (PriceAt l price) l price rule w) := by
  have A0 := Lib.hid ((Adds.refl w).alloc (.cells #[.int .i64 0, .int .i64 0, .int .i64 0, .slice none 0 0] 38))
  have hB0 : Box (w.alloc (.cells #[.int .i64 0, .int .i64 0, .int .i64 0, .slice none 0 0] 38)) w.heap.size #[.int .i64 0, .int .i64 0, .int .i64 0, .slice none 0 0] 38 := Box.new w _ _
  have hcon := trade_any m hst f price rule l hsh hfs (PriceAt l price) 48 p cap (w.alloc (.cells #[.int .i64 0, .int .i64 0, .int .i64 0, .slice none 0 0] 38)) hN hm (hL.later A0.out) (fun args w => enters_of Try.func48 (by kernel_rfl) rfl args w)
    (fun h0 hx W hW => by
      obtain ⟨c1, c2⟩ := check_zero.1 h0
      refine (auction_any p cap l price W (by omega) ((hL.later A0.out).later hW) c2 (inB_iff.1 hx).1 (inB_iff.1 hx).2).mono ?_
      rintro e w' ⟨S, a, b, c, hS, h5, rfl, hb⟩
      obtain ⟨q1, q2, q3⟩ := price_of hS h5
      exact ⟨a, b, c, q1, q2, q3, rfl, hb⟩)
  have HB0 := Lib.hid hB0
  have HCON := Lib.hid hcon
  clear hcon hB0 hst hsh hfs hN hm hL
  go_enter Try.func22, Try.ntmps22
  go_wp2_with (go_at_call 49; refine HCON.out.mono ?_; rintro e w1 ⟨px, v, sr, fv, er, hres, rfl, hb1⟩; obtain ⟨q, n, c, rfl⟩ := hres.slice; have HRES := Lib.hid hres; have HB1 := Lib.hid hb1; have X := HB0.out.later hb1; have b0 := X.cell 0; have b1 := X.cell 1; have b2 := X.cell 2; have b3 := X.cell 3; have f0 := X.free 0; have f1 := X.free 1; have f2 := X.free 2; have f3 := X.free 3; have hlt := X.lt; simp only [List.getElem?_toArray, List.getElem?_cons_zero, List.getElem?_cons_succ] at b0 b1 b2 b3; have HXB := Lib.hid X; clear X; clear hres hb1)
  refine bodyPost_ret (v := .tuple #[.agg #[.int .i64 px, .int .i64 v, .int .i64 sr, .slice q n c], .int .i64 er]) ?_ rfl ⟨px, v, sr, .slice q n c, er, HRES.out.behind (by simp) (by simp), rfl, ((((A0.out.trans HB1.out).set (by simp) _).set (by simp) _).set (by simp) _).set (by simp) _⟩
  obtain ⟨q0, q1, q2, q3⟩ := HXB.out.put4 (.int .i64 px) (.int .i64 v) (.int .i64 sr) (.slice q n c)
  simp [results, Try.results22, go_sem, q0, q1, q2, q3]

set_option maxRecDepth 100000 in
set_option maxHeartbeats 2000000 in
theorem ClearAt_any (m : Nat) (hst : StableUpTo m) (f : Int → List Int → List Int) (price rule : Int) (l : List Bd) (hsh : checkT l = 0 → (rule = 1 ∨ rule = 2) → ShareAt m rule f) (hfs : FShare f) (p : Option Addr) (cap : Nat) (w : World) (hN : l.length ≤ maxLen) (hm : checkT l = 0 → l.length ≤ m) (hL : At3 w p l) :
    Calls Try.prog 23 #[.slice p l.length cap, .int .i64 price, .int .i64 rule] w (TradeGot f (fun x => x = price) l price rule w) := by
  have A0 := Lib.hid ((Adds.refl w).alloc (.cells #[.int .i64 0, .int .i64 0, .int .i64 0, .slice none 0 0] 38))
  have hB0 : Box (w.alloc (.cells #[.int .i64 0, .int .i64 0, .int .i64 0, .slice none 0 0] 38)) w.heap.size #[.int .i64 0, .int .i64 0, .int .i64 0, .slice none 0 0] 38 := Box.new w _ _
  have hcon := trade_any m hst f price rule l hsh hfs (fun x => x = price) 43 p cap (w.alloc (.cells #[.int .i64 0, .int .i64 0, .int .i64 0, .slice none 0 0] 38)) hN hm (hL.later A0.out) (fun args w => enters_of Try.func43 (by kernel_rfl) rfl args w)
    (fun h0 hx W hW => by
      obtain ⟨c1, c2⟩ := check_zero.1 h0
      refine (spotAt_any p cap l price W (by omega) ((hL.later A0.out).later hW) c2).mono ?_
      rintro e w' ⟨rfl, hb⟩
      exact ⟨price, _, _, rfl, rfl, rfl, rfl, hb⟩)
  have HB0 := Lib.hid hB0
  have HCON := Lib.hid hcon
  clear hcon hB0 hst hsh hfs hN hm hL
  go_enter Try.func23, Try.ntmps23
  go_wp2_with (go_at_call 49; refine HCON.out.mono ?_; rintro e w1 ⟨px, v, sr, fv, er, hres, rfl, hb1⟩; obtain ⟨q, n, c, rfl⟩ := hres.slice; have HRES := Lib.hid hres; have HB1 := Lib.hid hb1; have X := HB0.out.later hb1; have b0 := X.cell 0; have b1 := X.cell 1; have b2 := X.cell 2; have b3 := X.cell 3; have f0 := X.free 0; have f1 := X.free 1; have f2 := X.free 2; have f3 := X.free 3; have hlt := X.lt; simp only [List.getElem?_toArray, List.getElem?_cons_zero, List.getElem?_cons_succ] at b0 b1 b2 b3; have HXB := Lib.hid X; clear X; clear hres hb1)
  refine bodyPost_ret (v := .tuple #[.agg #[.int .i64 px, .int .i64 v, .int .i64 sr, .slice q n c], .int .i64 er]) ?_ rfl ⟨px, v, sr, .slice q n c, er, HRES.out.behind (by simp) (by simp), rfl, ((((A0.out.trans HB1.out).set (by simp) _).set (by simp) _).set (by simp) _).set (by simp) _⟩
  obtain ⟨q0, q1, q2, q3⟩ := HXB.out.put4 (.int .i64 px) (.int .i64 v) (.int .i64 sr) (.slice q n c)
  simp [results, Try.results23, go_sem, q0, q1, q2, q3]

end Go.Proofs.Ytigpghmbeldakaa
