/- spans: lists of spans compared. -/
import Derived.Test.YtofaioabjkcaiaaCC
namespace Go.Proofs.Ytofaioabjkcaiaa
open Go.RowKit

/-- A list of spans that can be read. -/
def SpanAt (w : World) (v : Value) (l : List (Int × Int)) : Prop :=
  ∃ p cap, v = .slice p l.length cap ∧ ∀ (i : Nat) (x : Int × Int), l[i]? = some x → ∃ g, p = some ⟨g, 0, none⟩ ∧ w.cell? ⟨g, i * 2, none⟩ = some (.int .i64 x.1) ∧ w.cell? ⟨g, i * 2 + 1, none⟩ = some (.int .i64 (x.2 - x.1 + 1))

theorem span_get {l : List (Int × Int)} {i : Nat} {x : Int × Int} (h : l[i]? = some x) : (l.flatMap spanCells)[i * 2]? = some (.int .i64 x.1) ∧ (l.flatMap spanCells)[i * 2 + 1]? = some (.int .i64 (x.2 - x.1 + 1)) := by
  induction l generalizing i with
  | nil => simp at h
  | cons y l ih =>
    rw [List.flatMap_cons]
    cases i with
    | zero =>
      simp only [List.getElem?_cons_zero, Option.some.injEq] at h
      subst h
      exact ⟨by simp [spanCells], by simp [spanCells]⟩
    | succ i =>
      simp only [List.getElem?_cons_succ] at h
      obtain ⟨h1, h2⟩ := ih h
      rw [List.getElem?_append_right (by simp [spanCells]; omega), List.getElem?_append_right (by simp [spanCells]; omega), show (i + 1) * 2 - (spanCells y).length = i * 2 by simp [spanCells]; omega, show (i + 1) * 2 + 1 - (spanCells y).length = i * 2 + 1 by simp [spanCells]; omega]
      exact ⟨h1, h2⟩

theorem own_spanAt {w : World} {base : Nat} {hv : Value} {l : List (Int × Int)} (h : w.ownsRow base 32 2 hv l.length (l.flatMap spanCells)) : SpanAt w hv l := by
  rcases span_cells h with ⟨rfl, rfl⟩ | ⟨g, cap, rfl, _, _, _, _, hc, _⟩
  · exact ⟨none, 0, rfl, fun i x hx => by simp at hx⟩
  · exact ⟨some ⟨g, 0, none⟩, cap, rfl, fun i x hx => by obtain ⟨h1, h2⟩ := span_get hx; exact ⟨g, rfl, hc _ _ h1, hc _ _ h2⟩⟩

theorem SpanAt.later {w w' : World} {v : Value} {l : List (Int × Int)} (h : SpanAt w v l) (ha : Adds w w') : SpanAt w' v l := by
  obtain ⟨p, cap, hv, hc⟩ := h
  exact ⟨p, cap, hv, fun i x hx => by obtain ⟨g, hp, h0, h1⟩ := hc i x hx; exact ⟨g, hp, keep_cell ha h0, keep_cell ha h1⟩⟩

set_option maxRecDepth 100000 in
set_option maxHeartbeats 1000000 in
theorem spans_same (va vb : Value) (l : List (Int × Int)) (w : World) (ha : SpanAt w va l) (hb : SpanAt w vb l) (hlen : l.length ≤ 2000000) :
    Calls Try.prog 27 #[va, vb] w fun e w' => e = .returned (.bool true) ∧ Adds w w' := by
  obtain ⟨p, cap, rfl, hc⟩ := ha
  obtain ⟨q, cap2, rfl, hd⟩ := hb
  have HC := Lib.hid hc
  have HD := Lib.hid hd
  obtain ⟨N, hN⟩ : ∃ N, N = l.length := ⟨_, rfl⟩
  rw [← hN] at hlen ⊢
  have HN := Lib.hid hN
  clear hc hd hN
  go_enter Try.func27, Try.ntmps27
  go_wp2_with fail
  go_loopw [5] (fun v5 wr => ∃ k : Nat, k ≤ N ∧ v5 = .int .i64 k ∧ Hid (Adds w wr)) (fun v5 _ => N - (intOf v5).toNat)
  case atStart => exact ⟨0, by omega, rfl, Lib.hid (Adds.refl _)⟩
  case round =>
    obtain ⟨k, hk, rfl, hadd⟩ := hrel
    by_cases hlt : k < N
    · obtain ⟨⟨x, y⟩, hx⟩ : ∃ x, l[k]? = some x := ⟨_, List.getElem?_eq_getElem (by have := HN.out; omega)⟩
      obtain ⟨g, rfl, c0, c1⟩ := HC.out k _ hx
      obtain ⟨g2, rfl, d0, d1⟩ := HD.out k _ hx
      replace c0 := keep_cell hadd.out c0
      replace c1 := keep_cell hadd.out c1
      replace d0 := keep_cell hadd.out d0
      replace d1 := keep_cell hadd.out d1
      obtain ⟨u, hu⟩ : ∃ u, u = y - x + 1 := ⟨_, rfl⟩
      simp only at c0 c1 d0 d1
      rw [← hu] at c1 d1
      have s1 := beq_self_eq_true x
      have s2 := beq_self_eq_true u
      clear hu hx
      go_upto_region 6 with fail
      go_quiet (fail)
      go_wp2
      exact ⟨⟨k + 1, by omega, by go_num, Lib.hid (hadd.out.drewN _)⟩, by simp [intOf]; omega⟩
    · go_wp2
      go_ret
      exact ⟨rfl, hadd.out⟩
end Go.Proofs.Ytofaioabjkcaiaa
