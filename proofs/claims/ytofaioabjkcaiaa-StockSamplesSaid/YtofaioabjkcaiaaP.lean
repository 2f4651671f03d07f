/- The register in memory, and the methods that find a version. -/
import Derived.Test.YtofaioabjkcaiaaM
import Derived.Test.YtofaioabjkcaiaaN
namespace Go.Proofs.Ytofaioabjkcaiaa
open Go.RowKit

/-- What runs returns. -/
def RunsOf (w : World) (b : Nat) (a c : Int) (e : Ending) (w' : World) : Prop :=
  ∃ pb nb, e = .returned (.func (.func 99) #[] #[.pointer (some ⟨pb, 0, none⟩), .pointer (some ⟨nb, 0, none⟩)]) ∧ TwoAt w' pb a c ∧ w'.cell? ⟨nb, 0, none⟩ = some (.pointer (some ⟨b, 0, none⟩)) ∧ w.heap.size ≤ pb ∧ w.heap.size ≤ nb ∧ Adds w w'

set_option maxHeartbeats 400000 in
theorem runs_any (b : Nat) (a c : Int) (w : World) :
    Calls Try.prog 66 #[.pointer (some ⟨b, 0, none⟩), .agg #[.int .i64 a, .int .i64 c]] w (RunsOf w b a c) := by
  go_enter Try.func66, Try.ntmps66
  go_wp2
  go_ret
  exact ⟨w.heap.size + 1, w.heap.size, rfl, ⟨by go_simp, by go_simp⟩, by go_simp, by omega, by omega, ((Adds.refl w).alloc _).alloc _⟩

/-- The register in memory: the pointers to its versions' trees, and these trees. -/
structure StockAt (B : Nat) (w : World) (s : Nat) (v : Value) (bs : List Nat) (Ts : List Tree) : Prop where
  box : Box w s #[v] 102
  row : w.ownsRow 0 112 1 v bs.length (bs.map fun b => .pointer (some ⟨b, 0, none⟩))
  len : Ts.length = bs.length
  tree : ∀ (i b : Nat) (T : Tree), bs[i]? = some b → Ts[i]? = some T → TreeIn (fun k => k ≠ s ∧ v.ownBlock ≠ some k ∧ k < B) w b T ∧ T.ok 1 1000000
  sep : v.ownBlock ≠ some s
  nil : bs = [] → v = .slice none 0 0

/-- The zero pocket. -/
def pk0 : Pk := ⟨0, 0, 0, 0⟩

/-- Version 0 is not kept. -/
def tree0 : Tree := .leaf 1 1000000 pk0

/-- The tree of a version. -/
def treeOf (Ts : List Tree) (v : Nat) : Tree := if v = 0 then tree0 else Ts.getD (v - 1) tree0

theorem StockAt.slice {B : Nat} {w : World} {s : Nat} {v : Value} {bs : List Nat} {Ts : List Tree} (h : StockAt B w s v bs Ts) :
    (v = .slice none 0 0 ∧ bs = []) ∨ ∃ g cap, v = .slice (some ⟨g, 0, none⟩) bs.length cap ∧ (∀ (i b : Nat), bs[i]? = some b → w.cell? ⟨g, i, none⟩ = some (.pointer (some ⟨b, 0, none⟩))) ∧ bs.length ≤ maxLen := by
  obtain ⟨h1, h2⟩ := h.row
  rcases h2 with ⟨hv, hn⟩ | ⟨g, cap, cur, hv, hg, hh, hn, hcap, hs, ht⟩
  · exact .inl ⟨hv, List.length_eq_zero_iff.1 hn⟩
  · refine .inr ⟨g, cap, hv, fun i b hi => ?_, by omega⟩
    have hr := h.row
    rw [hv] at hr
    have hlt : i < bs.length := (List.getElem?_eq_some_iff.1 hi).1
    rw [hr.cellAt i (by omega)]
    simp [hi]

set_option maxHeartbeats 400000 in
theorem version_any (B s : Nat) (v : Value) (bs : List Nat) (Ts : List Tree) (w : World) (h : StockAt B w s v bs Ts) :
    Calls Try.prog 16 #[.pointer (some ⟨s, 0, none⟩)] w fun e w' => e = .returned (.int .i64 bs.length) ∧ w = w' := by
  have hc := h.box.cell 0
  simp only [List.getElem?_toArray, List.getElem?_cons_zero] at hc
  rcases h.slice with ⟨rfl, rfl⟩ | ⟨g, cap, rfl, _, _⟩
  · go_enter Try.func16, Try.ntmps16
    go_wp2
    go_ret
    exact ⟨rfl, rfl⟩
  · go_enter Try.func16, Try.ntmps16
    go_wp2
    go_ret
    exact ⟨rfl, rfl⟩

/-- What tree returns where there is a version. -/
def TreeGot (B : Nat) (w : World) (s : Nat) (v : Value) (T : Tree) (e : Ending) (w' : World) : Prop :=
  ∃ b, e = .returned (.tuple #[.pointer (some ⟨b, 0, none⟩), .int .i64 0]) ∧ TreeIn (fun k => (k ≠ s ∧ v.ownBlock ≠ some k ∧ k < B) ∨ w.heap.size ≤ k) w' b T ∧ T.ok 1 1000000 ∧ Adds w w'

set_option maxHeartbeats 400000 in
theorem tree_nil (n : Int) (r : Bool) (w : World) :
    Calls Try.prog 58 #[.pointer none, .int .i64 n, .bool r] w fun e w' => e = .returned (.tuple #[.pointer none, .int .i64 3]) ∧ w = w' := by
  go_enter Try.func58, Try.ntmps58
  go_wp2
  go_ret2
  exact ⟨rfl, rfl⟩

set_option maxHeartbeats 1000000 in
theorem tree_none (B s : Nat) (v : Value) (bs : List Nat) (Ts : List Tree) (n : Int) (r : Bool) (w : World) (h : StockAt B w s v bs Ts) (hn : n < 0 ∨ bs.length < n) :
    Calls Try.prog 58 #[.pointer (some ⟨s, 0, none⟩), .int .i64 n, .bool r] w fun e w' => e = .returned (.tuple #[.pointer none, .int .i64 4]) ∧ w = w' := by
  have hc := h.box.cell 0
  simp only [List.getElem?_toArray, List.getElem?_cons_zero] at hc
  by_cases h0 : n < 0
  · go_enter Try.func58, Try.ntmps58
    go_wp2
    go_ret2
    exact ⟨rfl, rfl⟩
  · have hn' : (bs.length : Int) < n := by omega
    rcases h.slice with ⟨rfl, rfl⟩ | ⟨g, cap, rfl, _, _⟩
    · simp only [List.length_nil, Int.natCast_zero] at hn'
      go_enter Try.func58, Try.ntmps58
      go_wp2
      go_ret2
      exact ⟨rfl, rfl⟩
    · go_enter Try.func58, Try.ntmps58
      go_wp2
      go_ret2
      exact ⟨rfl, rfl⟩

set_option maxHeartbeats 1000000 in
theorem tree_arg (B s : Nat) (v : Value) (bs : List Nat) (Ts : List Tree) (n : Int) (w : World) (h : StockAt B w s v bs Ts) (hn : 0 ≤ n) (hn2 : n ≤ bs.length) :
    Calls Try.prog 58 #[.pointer (some ⟨s, 0, none⟩), .int .i64 n, .bool false] w fun e w' => e = .returned (.tuple #[.pointer none, .int .i64 1]) ∧ w = w' := by
  have hc := h.box.cell 0
  simp only [List.getElem?_toArray, List.getElem?_cons_zero] at hc
  rcases h.slice with ⟨rfl, rfl⟩ | ⟨g, cap, rfl, _, _⟩
  · simp only [List.length_nil, Int.natCast_zero] at hn2
    go_enter Try.func58, Try.ntmps58
    go_wp2
    go_ret2
    exact ⟨rfl, rfl⟩
  · go_enter Try.func58, Try.ntmps58
    go_wp2
    go_ret2
    exact ⟨rfl, rfl⟩

set_option maxHeartbeats 1000000 in
theorem tree_any (B s : Nat) (v : Value) (bs : List Nat) (Ts : List Tree) (n : Nat) (w : World) (h : StockAt B w s v bs Ts) (hn2 : n ≤ bs.length) :
    Calls Try.prog 58 #[.pointer (some ⟨s, 0, none⟩), .int .i64 n, .bool true] w (TreeGot B w s v (treeOf Ts n)) := by
  have hc := h.box.cell 0
  simp only [List.getElem?_toArray, List.getElem?_cons_zero] at hc
  have HS := Lib.hid h
  by_cases h0 : n = 0
  · subst h0
    have hb0 : ((0 : Nat) : Int) == 0 := rfl
    rcases h.slice with ⟨rfl, rfl⟩ | ⟨g, cap, rfl, _, _⟩
    · go_enter Try.func58, Try.ntmps58
      go_wp2
      go_ret2
      exact ⟨w.heap.size, rfl, ⟨.inr (Nat.le_refl _), nodeAt_new w 1 1000000 pk0 none none⟩, ⟨rfl, rfl, by omega⟩, (Adds.refl w).alloc _⟩
    · go_enter Try.func58, Try.ntmps58
      go_wp2
      go_ret2
      exact ⟨w.heap.size, rfl, ⟨.inr (Nat.le_refl _), nodeAt_new w 1 1000000 pk0 none none⟩, ⟨rfl, rfl, by omega⟩, (Adds.refl w).alloc _⟩
  · have hlen := h.len
    rcases h.slice with ⟨rfl, rfl⟩ | ⟨g, cap, rfl, hcell, hm⟩
    · simp at hn2; omega
    · have hb : bs[n - 1]? = some (bs[n - 1]'(by omega)) := List.getElem?_eq_getElem (by omega)
      have hT : Ts[n - 1]? = some (Ts[n - 1]'(by omega)) := List.getElem?_eq_getElem (by omega)
      have hcl := hcell (n - 1) _ hb
      obtain ⟨ht, hok⟩ := h.tree _ _ _ hb hT
      have hTe : treeOf Ts n = Ts[n - 1]'(by omega) := by unfold treeOf; rw [if_neg h0]; simp [show n - 1 < Ts.length by omega]
      have HT := Lib.hid ht
      have HK := Lib.hid hok
      have HE := Lib.hid hTe
      generalize bs[n - 1]'(by omega) = b at *
      generalize Ts[n - 1]'(by omega) = T0 at *
      have h0' : ((n : Int) == 0) = false := by rw [beq_eq_false_iff_ne]; omega
      have hn1 : 0 < n := by omega
      have hm2 : bs.length ≤ 9223372036854775807 := hm
      clear hcell hb hT ht hok hTe h h0 hlen hm
      obtain ⟨m, hm'⟩ : ∃ m, n = m + 1 := ⟨n - 1, by omega⟩
      subst hm'
      simp only [Nat.add_sub_cancel] at hcl HE HT HK
      go_enter Try.func58, Try.ntmps58
      go_wp2
      go_ret2
      refine ⟨b, rfl, ?_, ?_, Adds.refl w⟩
      · rw [HE.out]; exact HT.out.mono (fun k hk => .inl hk)
      · rw [HE.out]; exact HK.out

theorem StockAt.tight {B : Nat} {w : World} {s : Nat} {v : Value} {bs : List Nat} {Ts : List Tree} (h : StockAt B w s v bs Ts) : StockAt w.heap.size w s v bs Ts :=
  ⟨h.box, h.row, h.len, fun i b T h1 h2 => ⟨(h.tree i b T h1 h2).1.lt.mono (fun _ k => ⟨k.1.1, k.1.2.1, k.2⟩), (h.tree i b T h1 h2).2⟩, h.sep, h.nil⟩

theorem StockAt.later {B : Nat} {w w' : World} {s : Nat} {v : Value} {bs : List Nat} {Ts : List Tree} (h : StockAt B w s v bs Ts) (hb : Adds w w') : StockAt B w' s v bs Ts :=
  ⟨h.box.later hb, h.row.kept (row := none) ⟨hb.os, hb.tape, hb.output, hb.size, fun k hk _ => hb.block k hk⟩ (by cases h' : v.ownBlock with | none => exact .inl rfl | some k => exact .inr (by simp)),
    h.len, fun i b T h1 h2 => ⟨(h.tree i b T h1 h2).1.later hb, (h.tree i b T h1 h2).2⟩, h.sep, h.nil⟩

theorem IsTree.pred {Q : Nat → Prop} {w : World} (hQ : ∀ k lo hi p l r, NodeAt w k lo hi p l r → Q k) : ∀ {t : Tree} {b : Nat}, IsTree w b t → TreeIn Q w b t
  | .leaf _ _ _, _, h => ⟨hQ _ _ _ _ _ _ h, h⟩
  | .node _ _ _ _ _, _, ⟨bl, br, h, hl, hr⟩ => ⟨hQ _ _ _ _ _ _ h, bl, br, h, hl.pred hQ, hr.pred hQ⟩

theorem StockAt.apart {B : Nat} {w : World} {s : Nat} {v : Value} {bs : List Nat} {Ts : List Tree} (h : StockAt B w s v bs Ts) {k : Nat} {lo hi : Int} {p : Pk} {l r : Option Addr} (hn : NodeAt w k lo hi p l r) : k ≠ s ∧ v.ownBlock ≠ some k := by
  have h0 := hn.1
  constructor
  · rintro rfl
    have := h.box.cell 0
    rw [h0] at this
    rcases h.slice with ⟨rfl, _⟩ | ⟨g, cap, rfl, _⟩ <;> simp at this
  · intro ho
    rcases h.slice with ⟨rfl, _⟩ | ⟨g, cap, rfl, hc, _⟩
    · simp [Value.ownBlock] at ho
    · simp only [Value.ownBlock, Option.some.injEq] at ho
      subst ho
      by_cases hb : bs = []
      · have := h.nil hb; simp at this
      · have hb' : bs[0]? = some (bs[0]'(List.length_pos_iff.2 hb)) := List.getElem?_eq_getElem _
        have := hc 0 _ hb'
        rw [h0] at this
        simp at this

set_option maxHeartbeats 400000 in
theorem new_any (w : World) : Calls Try.prog 13 #[] w fun e w' => ∃ s, e = .returned (.pointer (some ⟨s, 0, none⟩)) ∧ StockAt w'.heap.size w' s (.slice none 0 0) [] [] ∧ w.heap.size ≤ s ∧ Adds w w' := by
  go_enter Try.func13, Try.ntmps13
  go_wp2
  go_ret
  exact ⟨w.heap.size, rfl, ⟨Box.new w _ _, World.ownsRow_nil _ _ _ _, rfl, fun i b T h => by simp at h, by simp [Value.ownBlock], fun _ => rfl⟩, Nat.le_refl _, (Adds.refl w).alloc _⟩

end Go.Proofs.Ytofaioabjkcaiaa
