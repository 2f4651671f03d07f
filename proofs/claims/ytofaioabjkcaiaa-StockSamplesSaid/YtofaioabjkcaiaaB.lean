/- Trees in memory. -/
import Derived.Test.YtofaioabjkcaiaaA
import Derived.Test.YtofaioabjkcaiaaT
import Derived.Deep.LoopGhost
import Derived.RangeFuncRecord
import Derived.Deep.DeepCutAuto
namespace Go.Proofs.Ytofaioabjkcaiaa
open Go.RowKit

abbrev Pk.val (p : Pk) : Value := .agg #[.int .i64 p.st, .int .i64 p.lot, .int .i64 p.own, .int .i64 p.hold]

/-- A block of cells that anybody may compare. -/
def Plain (w : World) (b : Nat) : Prop := ∃ cs : Array Value, w.heap[b]? = some (.cells cs 126 (0, 0))

theorem Plain.new (w : World) (cs : Array Value) : Plain (w.alloc (.cells cs 126)) w.heap.size := ⟨cs, World.alloc_heap_new w _⟩
theorem Plain.next (w : World) (o : Obj) (cs : Array Value) : Plain ((w.alloc o).alloc (.cells cs 126)) (w.heap.size + 1) := by
  have := Plain.new (w.alloc o) cs
  rwa [World.size_alloc] at this
theorem Plain.later {w w' : World} {b : Nat} (h : Plain w b) (hb : Adds w w') : Plain w' b := by
  obtain ⟨cs, hc⟩ := h
  exact ⟨cs, (hb.block b (Array.getElem?_eq_some_iff.1 hc).1).trans hc⟩
theorem Plain.same {w w' : World} {b : Nat} (h : Plain w b) (hb : w'.heap[b]? = w.heap[b]?) : Plain w' b := by
  obtain ⟨cs, hc⟩ := h
  exact ⟨cs, hb.trans hc⟩

/-- A node in memory. -/
def NodeAt (w : World) (b : Nat) (lo hi : Int) (p : Pk) (l r : Option Addr) : Prop :=
  w.cell? ⟨b, 0, none⟩ = some (.int .i64 lo) ∧ w.cell? ⟨b, 1, none⟩ = some (.int .i64 hi) ∧
  w.cell? ⟨b, 2, none⟩ = some (.int .i64 p.st) ∧ w.cell? ⟨b, 3, none⟩ = some (.int .i64 p.lot) ∧ w.cell? ⟨b, 4, none⟩ = some (.int .i64 p.own) ∧ w.cell? ⟨b, 5, none⟩ = some (.int .i64 p.hold) ∧
  w.cell? ⟨b, 6, none⟩ = some (.pointer l) ∧ w.cell? ⟨b, 7, none⟩ = some (.pointer r) ∧ Plain w b

/-- A tree in memory. -/
def IsTree (w : World) : Nat → Tree → Prop
  | b, .leaf lo hi p => NodeAt w b lo hi p none none
  | b, .node lo hi p l r => ∃ bl br, NodeAt w b lo hi p (some ⟨bl, 0, none⟩) (some ⟨br, 0, none⟩) ∧ IsTree w bl l ∧ IsTree w br r

theorem cell_lt {w : World} {b o : Nat} {v : Value} (h : w.cell? ⟨b, o, none⟩ = some v) : b < w.heap.size := World.block_lt_of_cell? w _ h

theorem NodeAt.later {w w' : World} {b : Nat} {lo hi : Int} {p : Pk} {l r : Option Addr} (h : NodeAt w b lo hi p l r) (hb : Adds w w') : NodeAt w' b lo hi p l r := by
  have k : b < w.heap.size := cell_lt h.1
  have e : ∀ o, w'.cell? ⟨b, o, none⟩ = w.cell? ⟨b, o, none⟩ := fun o => hb.cell (p := ⟨b, o, none⟩) k
  obtain ⟨c0, c1, c2, c3, c4, c5, c6, c7, cbx⟩ := h
  unfold NodeAt
  simp only [e]
  exact ⟨c0, c1, c2, c3, c4, c5, c6, c7, cbx.later hb⟩

theorem IsTree.later {w w' : World} (hb : Adds w w') : ∀ {t : Tree} {b : Nat}, IsTree w b t → IsTree w' b t
  | .leaf _ _ _, _, h => NodeAt.later h hb
  | .node _ _ _ _ _, _, ⟨bl, br, h, hl, hr⟩ => ⟨bl, br, h.later hb, IsTree.later hb hl, IsTree.later hb hr⟩

theorem info44 : (Try.prog.info? 44).map (fun i => (i.zero, i.size, i.bytes)) = some (some (.agg #[.int .i64 0, .int .i64 0, .int .i64 0, .int .i64 0]), 4, 32) := by kernel_rfl

theorem NodeAt.alloc {w : World} {b : Nat} {lo hi : Int} {p : Pk} {l r : Option Addr} (h : NodeAt w b lo hi p l r) (o : Obj) : NodeAt (w.alloc o) b lo hi p l r :=
  h.later ((Below.refl _ _).alloc (Nat.le_refl _) _)

theorem IsTree.hi {w : World} {b : Nat} {t : Tree} (h : IsTree w b t) : w.cell? ⟨b, 1, none⟩ = some (.int .i64 t.hi) := by
  cases t with
  | leaf => exact h.2.1
  | node => obtain ⟨_, _, h, _⟩ := h; exact h.2.1

set_option maxHeartbeats 400000 in
theorem at_any (n : Int) (t : Tree) (b : Nat) (lo hi : Int) (w : World) (ht : IsTree w b t) (hok : t.ok lo hi) (h1 : lo ≤ n) (h2 : n ≤ hi) :
    Calls Try.prog 60 #[.pointer (some ⟨b, 0, none⟩), .int .i64 n] w fun e w' => e = .returned (t.look n).val ∧ Adds w w' := by
  go_enter Try.func60, Try.ntmps60
  go_wp2
  go_loopg [0] (hi - lo).toNat (fun k p wr => wr = w.alloc (.cells #[.int .i64 0, .int .i64 0, .int .i64 0, .int .i64 0] 44) ∧ ∃ (b' : Nat) (t' : Tree) (lo' hi' : Int), p = .pointer (some ⟨b', 0, none⟩) ∧
    IsTree wr b' t' ∧ t'.ok lo' hi' ∧ lo' ≤ n ∧ n ≤ hi' ∧ t'.look n = t.look n ∧ (hi' - lo').toNat ≤ k)
  case atStart => exact ⟨rfl, b, t, lo, hi, rfl, ht.later ((Below.refl _ _).alloc (Nat.le_refl _) _), hok, h1, h2, rfl, Nat.le_refl _⟩
  case round =>
    obtain ⟨rfl, b', t', lo', hi', rfl, ht', hok', h1', h2', hl', hk'⟩ := hrel
    have HL := Lib.hid hl'
    clear hl'
    cases t' with
    | leaf x y p =>
      obtain ⟨c0, c1, c2, c3, c4, c5, c6, c7, _⟩ := ht'
      go_wp2_with (go_at_call 98; refine (uniform_leaf b' _ (by assumption)).mono ?_; rintro e w' ⟨rfl, rfl⟩)
      refine bodyPost_ret (v := p.val) ?_ rfl ⟨?_, ?_⟩
      · simp [results, Try.results60, go_sem]
      · rw [← HL.out]; rfl
      · exact (Below.refl _ _).alloc (Nat.le_refl _) _
    | node x y p l r =>
      have HOK := Lib.hid hok'
      clear hok'
      obtain ⟨bl, br, ⟨c0, c1, c2, c3, c4, c5, c6, c7, _⟩, hl, hr⟩ := ht'
      have ch := hl.hi
      by_cases hn : n ≤ l.hi
      · have hd : decide (n ≤ l.hi) = true := by simpa using hn
        have HN := Lib.hid hn
        clear hn
        go_wp2_with (go_at_call 98; refine (uniform_node b' bl _ (by assumption)).mono ?_; rintro e w' ⟨rfl, rfl⟩)
        have hn := HN.out
        obtain ⟨rfl, rfl, o3, o4, o5⟩ := HOK.out
        have e1 := Tree.ok_hi o4
        have hm := mid_bd o3
        go_roundg (gk - 1)
        case measure => omega
        case rel => exact ⟨rfl, bl, l, _, _, rfl, hl, o4, h1', by omega, by rw [← HL.out]; simp only [Tree.look]; rw [if_pos hn], by omega⟩
      · have hd : decide (n ≤ l.hi) = false := by simpa using hn
        have HN := Lib.hid hn
        clear hn
        go_wp2_with (go_at_call 98; refine (uniform_node b' bl _ (by assumption)).mono ?_; rintro e w' ⟨rfl, rfl⟩)
        have hn := HN.out
        obtain ⟨rfl, rfl, o3, o4, o5⟩ := HOK.out
        have e1 := Tree.ok_hi o4
        have hm := mid_bd o3
        go_roundg (gk - 1)
        case measure => omega
        case rel => exact ⟨rfl, br, r, _, _, rfl, hr, o5, by omega, h2', by rw [← HL.out]; simp only [Tree.look]; rw [if_neg (by omega)], by omega⟩
end Go.Proofs.Ytofaioabjkcaiaa
