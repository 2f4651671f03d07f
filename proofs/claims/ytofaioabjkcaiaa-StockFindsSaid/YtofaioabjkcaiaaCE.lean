/- A register and its reference under a turned pair of numbers; trees of versions; Changed where a version is missing. -/
import Derived.Test.YtofaioabjkcaiaaBQ
import Derived.Test.YtofaioabjkcaiaaCA
namespace Go.Proofs.Ytofaioabjkcaiaa
open Go.RowKit

theorem pair_cell {w : World} {b : Nat} {x y : Int} {t : TypeId} (h : Box w b #[.int .i64 x, .int .i64 y] t) : w.cell? ⟨b, 0, none⟩ = some (.int .i64 x) ∧ ∀ j, 2 ≤ j → w.cell? ⟨b, j, none⟩ = none := by
  refine ⟨h.cell 0, fun j hj => ?_⟩
  rw [h.cell j]
  simp; omega

/-- Nothing of both lies in a pair of numbers. -/
theorem Link.keep {w w' : World} {s : Nat} {v : Value} {bs : List Nat} {Ts : List Tree} {g0 n0 c0 : Nat} {Ls : List (List Piece)} {b : Nat} {x y : Int} {t : TypeId} (h : Link w s v bs Ts g0 n0 c0 Ls) (hb : Box w b #[.int .i64 x, .int .i64 y] t)
    (hsz : w'.heap.size = w.heap.size) (hsame : ∀ k, k ≠ b → w'.heap[k]? = w.heap[k]?) : Link w' s v bs Ts g0 n0 c0 Ls := by
  obtain ⟨p0, p2⟩ := pair_cell hb
  have hS := h.stock
  have sc := hS.box.cell 0
  simp only [List.getElem?_toArray, List.getElem?_cons_zero] at sc
  have hsl : ∃ q m d, v = .slice q m d := by
    rcases hS.slice with ⟨rfl, _⟩ | ⟨g0, cap0, rfl, _⟩
    · exact ⟨_, _, _, rfl⟩
    · exact ⟨_, _, _, rfl⟩
  obtain ⟨q0, m0, d0, hv0⟩ := hsl
  have hs : s ≠ b := fun e => by rw [← e, sc, hv0] at p0; simp at p0
  have hown : ∀ k, v.ownBlock = some k → k ≠ b := fun k hk e => by
    subst e
    rcases hS.slice with ⟨rfl, _⟩ | ⟨g1, cap1, rfl, hc, _⟩
    · simp [Value.ownBlock] at hk
    · simp only [Value.ownBlock, Option.some.injEq] at hk
      subst hk
      by_cases hb' : bs = []
      · have := hS.nil hb'; simp at this
      · have := hc 0 _ (List.getElem?_eq_getElem (List.length_pos_iff.2 hb'))
        rw [p0] at this; simp at this
  have hcell : ∀ g o u, g ≠ b → w.cell? ⟨g, o, none⟩ = some u → w'.cell? ⟨g, o, none⟩ = some u := fun g o u hg hc =>
    (World.cell?_of_block (w := w) (a := ⟨g, o, none⟩) (hsame g hg)).trans hc
  refine ⟨⟨hS.box.same (hsame s hs), ownsRow_same hS.row (fun k hk => hsame k (hown k hk)), hS.len, fun i b' T h1 h2 => ?_, hS.sep, hS.nil⟩, ?_, h.off, h.len, h.can, h.good⟩
  · obtain ⟨ht, hok⟩ := hS.tree i b' T h1 h2
    refine ⟨?_, hok⟩
    have hp : TreeIn (fun k => (k ≠ s ∧ v.ownBlock ≠ some k ∧ k < w.heap.size) ∧ k ≠ b) w b' T := ht.tree.pred (fun k lo hi p l r hn => ⟨⟨(hS.apart hn).1, (hS.apart hn).2, cell_lt hn.1⟩, fun e => by
      subst e
      have h7 := hn.2.2.2.2.2.2.1
      rw [p2 6 (by omega)] at h7
      simp at h7⟩)
    exact (hp.keep (w' := w') (fun k _ hk => hsame k hk.2)).mono (fun k hk => ⟨hk.1.1, hk.1.2.1, by rw [hsz]; exact hk.1.2.2⟩)
  · obtain ⟨p, cap, vs, hx, h1, h2, h3, h4, h5⟩ := h.ref
    refine ⟨p, cap, vs, hx, h1, h2, h3, fun i u hu => ?_, fun i u l hu hl => ?_⟩
    · obtain ⟨g, hp, hc⟩ := h4 i u hu
      refine ⟨g, hp, hcell g _ _ ?_ hc⟩
      rintro rfl
      have e := List.getElem?_eq_getElem h2
      obtain ⟨g2, hp2, hc2⟩ := h4 0 _ e
      have hgg : g2 = g := by rw [hp] at hp2; simp at hp2; exact hp2.symm
      obtain ⟨q, d, hv, _⟩ := h5 0 _ _ e (List.getElem?_eq_getElem (by omega))
      rw [hgg, p0, hv] at hc2
      simp at hc2
    · obtain ⟨p', cap', hv, hc⟩ := h5 i u l hu hl
      refine ⟨p', cap', hv, fun j x' hx' => ?_⟩
      obtain ⟨g1, hp, e0, e1, e2, e3, e4, e5⟩ := hc j x' hx'
      have hn : g1 ≠ b := by
        rintro rfl
        rw [p2 (j * 6 + 5) (by omega)] at e5
        simp at e5
      exact ⟨g1, hp, hcell _ _ _ hn e0, hcell _ _ _ hn e1, hcell _ _ _ hn e2, hcell _ _ _ hn e3, hcell _ _ _ hn e4, hcell _ _ _ hn e5⟩

theorem treeOf_ok {B : Nat} {w : World} {s : Nat} {v : Value} {bs : List Nat} {Ts : List Tree} (h : StockAt B w s v bs Ts) {a : Nat} (ha : a ≤ bs.length) : (treeOf Ts a).ok 1 1000000 := by
  unfold treeOf
  split
  · exact ⟨rfl, rfl, by omega⟩
  · have hl := h.len
    have e1 : bs[a - 1]? = some (bs[a - 1]'(by omega)) := List.getElem?_eq_getElem _
    have e2 : Ts[a - 1]? = some (Ts[a - 1]'(by omega)) := List.getElem?_eq_getElem _
    rw [List.getD_eq_getElem?_getD, e2]
    exact (h.tree _ _ _ e1 e2).2

/-- The differences of two versions cover them. -/
theorem changed_cover {B : Nat} {w : World} {s : Nat} {v : Value} {bs : List Nat} {Ts : List Tree} (h : StockAt B w s v bs Ts) {a b : Nat} (ha : a ≤ bs.length) (hb : b ≤ bs.length) :
    SCover (treeOf Ts a).look (treeOf Ts b).look 1 1000000 (joinD (diffT 1000000 (treeOf Ts a) (treeOf Ts b))) :=
  joinD_cover (diff_cover 1000000 (treeOf_ok h ha) (treeOf_ok h hb) (by omega))

set_option maxHeartbeats 1000000 in
theorem changed_none (B s : Nat) (v : Value) (bs : List Nat) (Ts : List Tree) (a b : Int) (w : World) (hS : StockAt B w s v bs Ts) (h : (a < 0 ∨ bs.length < a) ∨ (b < 0 ∨ bs.length < b)) :
    Calls Try.prog 28 #[.pointer (some ⟨s, 0, none⟩), .int .i64 a, .int .i64 b] w fun e w' => e = .returned (.tuple #[.slice none 0 0, .int .i64 4]) ∧ Adds w w' := by
  have HS := Lib.hid hS
  by_cases ha : a < 0 ∨ bs.length < a
  · have HA := Lib.hid ha
    clear h ha hS
    refine calls_marks Try.func28 rfl ?_
    simp only [Try.ntmps28, List.size_toArray, List.length_cons, List.length_nil, Nat.reduceAdd, Nat.reduceSub, Array.replicate_succ, Array.replicate_zero, List.push_toArray, List.append_toArray, List.nil_append, List.cons_append]
    go_wp2_with (go_at_call 58; refine (tree_none B s v bs Ts a true _ HS.out HA.out).mono ?_; rintro e w1 ⟨rfl, rfl⟩)
    exact marks_ret (v := .tuple #[.slice none 0 0, .int .i64 4]) rfl (by simp [results, Try.results28, go_sem]) ⟨rfl, Adds.refl _⟩
  · have hb := h.resolve_left ha
    have HB := Lib.hid hb
    obtain ⟨a', rfl⟩ : ∃ a' : Nat, a = a' := ⟨a.toNat, by omega⟩
    have HA : Hid (a' ≤ bs.length) := Lib.hid (by omega)
    clear h ha hb hS
    refine calls_marks Try.func28 rfl ?_
    simp only [Try.ntmps28, List.size_toArray, List.length_cons, List.length_nil, Nat.reduceAdd, Nat.reduceSub, Array.replicate_succ, Array.replicate_zero, List.push_toArray, List.append_toArray, List.nil_append, List.cons_append]
    go_upto_region 2 with (go_at_call 58; refine (tree_any B s v bs Ts a' _ HS.out HA.out).mono ?_; rintro e w5 ⟨b1, rfl, ht, hok, hb5⟩; have HB5 := Lib.hid hb5; clear ht hok hb5)
    go_wp2_with (go_at_call 58; refine (tree_none B s v bs Ts b true _ (HS.out.later HB5.out) HB.out).mono ?_; rintro e w1 ⟨rfl, rfl⟩)
    exact marks_ret (v := .tuple #[.slice none 0 0, .int .i64 4]) rfl (by simp [results, Try.results28, go_sem]) ⟨rfl, HB5.out⟩
end Go.Proofs.Ytofaioabjkcaiaa
