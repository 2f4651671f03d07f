/- Rows of numbers that a call has made; sum. -/
import Derived.Test.YtigpghmbeldakaaE
namespace Go.Proofs.Ytigpghmbeldakaa
open Go.RowKit

/-- A row of numbers in a block that the call has made. -/
def RowI (t : TypeId) (k : IntKind) (w : World) (g cap : Nat) (l : List Int) : Prop :=
  ∃ cur : Array Value, w.heap[g]? = some (.cells cur t (0, 0)) ∧ cur.size = cap ∧ l.length ≤ cap ∧ cap ≤ maxLen ∧ cur.toList.take l.length = l.map (Value.int k)

section
variable {t : TypeId} {k : IntKind} {w w' : World} {g cap : Nat} {l : List Int}

theorem RowI.lt (h : RowI t k w g cap l) : g < w.heap.size := by
  obtain ⟨cur, hg, _⟩ := h
  exact (Array.getElem?_eq_some_iff.1 hg).1
theorem RowI.free (h : RowI t k w g cap l) (o : Nat) : w.frozen? ⟨g, o, none⟩ = false := by
  obtain ⟨cur, hg, _⟩ := h
  simp [World.frozen?, hg]
theorem RowI.same (h : RowI t k w g cap l) (e : w'.heap[g]? = w.heap[g]?) : RowI t k w' g cap l := by
  obtain ⟨cur, hg, r⟩ := h
  exact ⟨cur, e.trans hg, r⟩
theorem RowI.later (h : RowI t k w g cap l) (hb : Adds w w') : RowI t k w' g cap l := h.same (hb.block g h.lt)
theorem RowI.touch {O : Nat → Prop} (h : RowI t k w g cap l) (hb : Touch O w w') (hn : ¬ O g) : RowI t k w' g cap l := h.same (hb.same g h.lt hn)
theorem RowI.far (h : RowI t k w g cap l) {p : Addr} (hp : g ≠ p.block) (u : Value) : RowI t k (w.setCell p u) g cap l := h.same (Below.heap_setCell w p u g hp)
theorem RowI.len (h : RowI t k w g cap l) : l.length ≤ cap ∧ cap ≤ maxLen := by
  obtain ⟨cur, _, _, h1, h2, _⟩ := h
  exact ⟨h1, h2⟩
theorem RowI.cell (h : RowI t k w g cap l) {j : Nat} {x : Int} (hj : l[j]? = some x) : w.cell? ⟨g, j, none⟩ = some (.int k x) := by
  obtain ⟨cur, hg, hs, hl, hm, ht⟩ := h
  have hlt := (List.getElem?_eq_some_iff.1 hj).1
  have : (cur.toList.take l.length)[j]? = some (.int k x) := by rw [ht, List.getElem?_map, hj]; rfl
  rw [List.getElem?_take, if_pos hlt] at this
  have : cur[j]? = some (.int k x) := by simpa using this
  simp [World.cell?, hg, this]
theorem RowI.at1 (h : RowI t k w g cap l) : At1 k w (some ⟨g, 0, none⟩) l := fun i x hx => ⟨g, 0, rfl, by rw [Nat.zero_add]; exact h.cell hx⟩
theorem RowI.own {base : Nat} (h : RowI t k w g cap l) (hb : base ≤ g) : w.ownsRow base t 1 (.slice (some ⟨g, 0, none⟩) l.length cap) l.length (l.map (Value.int k)) := by
  obtain ⟨cur, hg, hs, hl, hm, ht⟩ := h
  exact ⟨by simp, Or.inr ⟨g, cap, cur, rfl, hb, hg, hl, hm, by omega, by rw [Nat.mul_one]; exact ht⟩⟩
theorem own_rowI {base n : Nat} {v : Value} (h : w.ownsRow base t 1 v n (l.map (Value.int k))) :
    n = l.length ∧ ((v = .slice none 0 0 ∧ l = []) ∨ ∃ g cap, v = .slice (some ⟨g, 0, none⟩) l.length cap ∧ base ≤ g ∧ RowI t k w g cap l) := by
  obtain ⟨h1, h2⟩ := h
  rw [List.length_map] at h1
  have hn : n = l.length := by omega
  subst hn
  refine ⟨rfl, ?_⟩
  rcases h2 with ⟨hv, hz⟩ | ⟨g, cap, cur, hv, hb, hg, hl, hm, hs, ht⟩
  · exact Or.inl ⟨hv, List.length_eq_zero_iff.1 hz⟩
  · exact Or.inr ⟨g, cap, hv, hb, cur, hg, by omega, hl, hm, by rw [Nat.mul_one] at ht; exact ht⟩
theorem RowI.put (h : RowI t k w g cap l) (j : Nat) (x : Int) : RowI t k (w.setCell ⟨g, j, none⟩ (.int k x)) g cap (l.set j x) := by
  obtain ⟨cur, hg, hs, hl, hm, ht⟩ := h
  refine ⟨_, Box.set (t := t) hg j (.int k x), by simpa using hs, by simpa using hl, hm, ?_⟩
  rw [List.length_set, Array.toList_setIfInBounds, List.take_set, ht]
  simp [List.map_set]
theorem RowI.pre {m : List Int} (h : RowI t k w g cap (l ++ m)) : RowI t k w g cap l := by
  obtain ⟨cur, hg, hs, hl, hm, ht⟩ := h
  refine ⟨cur, hg, hs, by simp at hl; omega, hm, ?_⟩
  have : (cur.toList.take (l ++ m).length).take l.length = ((l ++ m).map (Value.int k)).take l.length := by rw [ht]
  rw [List.take_take, Nat.min_eq_left (by simp), List.map_append] at this
  have e : (l.map (Value.int k) ++ m.map (Value.int k)).take l.length = l.map (Value.int k) := by
    have := List.take_left (l₁ := l.map (Value.int k)) (l₂ := m.map (Value.int k))
    rwa [List.length_map] at this
  rw [e] at this
  exact this
end

theorem made_row {t : TypeId} {k : IntKind} {w : World} {base n : Nat} {v : Value} (h : w.ownsRow base t 1 v n (madeCells (Value.int k 0).cells (n * 1)).toList) : w.ownsRow base t 1 v n ((List.replicate n 0).map (Value.int k)) := by
  have e : (madeCells (Value.int k 0).cells (n * 1)).toList = (List.replicate n 0).map (Value.int k) := by
    rw [Nat.mul_one, List.map_replicate]
    exact toList_madeCells_one _ _
  rw [← e]
  exact h

theorem info2 : (Try.prog.info? 2).map (fun i => (i.zero, i.size, i.bytes)) = some (some (.int .i64 0), 1, 8) := by kernel_rfl
theorem info3 : (Try.prog.info? 3).map (fun i => (i.zero, i.size, i.bytes)) = some (some (.int .i64 0), 1, 8) := by kernel_rfl
theorem info46 : (Try.prog.info? 46).map (fun i => (i.zero, i.size, i.bytes)) = some (some (.int .u64 0), 1, 8) := by kernel_rfl

theorem sum_take_bd : ∀ (l : List Int), (∀ x ∈ l, 0 ≤ x ∧ x ≤ 1000000000) → 0 ≤ l.sum ∧ l.sum ≤ (l.length : Int) * 1000000000
  | [], _ => by simp
  | x :: l, h => by
    have h1 := h x (by simp)
    have h2 := sum_take_bd l (fun y hy => h y (by simp [hy]))
    simp only [List.sum_cons, List.length_cons, Int.natCast_add, Int.natCast_one]
    constructor <;> omega

/-- Numbers as quantities may be. -/
def qOk (l : List Int) : Prop := ∀ x ∈ l, 0 ≤ x ∧ x ≤ 1000000000
theorem qOk.take {l : List Int} (h : qOk l) (k : Nat) : qOk (l.take k) := fun x hx => h x (List.mem_of_mem_take hx)

set_option maxRecDepth 100000 in
set_option maxHeartbeats 1000000 in
theorem sum_any (p : Option Addr) (cap : Nat) (l : List Int) (w : World) (hN : l.length ≤ 5000) (hL : At1 .i64 w p l) (hq : qOk l) :
    Calls Try.prog 54 #[.slice p l.length cap] w fun e w' => e = .returned (.int .i64 l.sum) ∧ w = w' := by
  obtain ⟨N, hNl⟩ : ∃ N, N = l.length := ⟨_, rfl⟩
  have HL := Lib.hid hL
  have HQ := Lib.hid hq
  rw [← hNl] at hN ⊢
  have HN := Lib.hid hNl
  clear hL hq hNl
  go_enter Try.func54, Try.ntmps54
  go_wp2
  go_loop [3, 8] (fun s i => ∃ k : Nat, k ≤ N ∧ i = .int .i64 k ∧ s = .int .i64 (l.take k).sum) (fun _ i => N - (intOf i).toNat)
  case atStart => exact ⟨0, by omega, rfl, rfl⟩
  case round =>
    obtain ⟨k, hk, rfl, rfl⟩ := hrel
    by_cases hlt : k < N
    · obtain ⟨x, hx⟩ : ∃ t, l[k]? = some t := ⟨_, List.getElem?_eq_getElem (by have := HN.out; omega)⟩
      obtain ⟨g, off, rfl, c0⟩ := HL.out k _ hx
      have hb := sum_take_bd _ (HQ.out.take k)
      have hlk : (l.take k).length ≤ 5000 := by have := List.length_take_le k l; omega
      have hxb := HQ.out x (List.mem_of_getElem? hx)
      have HS : Hid ((l.take (k + 1)).sum = (l.take k).sum + x) := Lib.hid (by rw [take_next hx]; simp)
      generalize (l.take k).sum = s at *
      obtain ⟨hx1, hx2⟩ := hxb
      have hb1 : 0 ≤ s := hb.1
      have hb2 : s ≤ 5000000000000 := by omega
      clear hb hx hlk
      go_wp2
      go_round
      case rel => exact ⟨k + 1, by omega, by go_num, by rw [HS.out]⟩
      case measure => simp [intOf]; omega
    · have HE : Hid (l.take k = l) := Lib.hid (List.take_of_length_le (by have := HN.out; omega))
      go_wp2
      go_ret
      exact ⟨ret_int (by rw [HE.out]), rfl⟩

end Go.Proofs.Ytigpghmbeldakaa
