/- StockKeeps: the list of owners in memory, and what is known of holds. -/
import Derived.Test.YtofaioabjkcaiaaAT
import Derived.Test.YtofaioabjkcaiaaAN
import Derived.Deep.OwnRows
namespace Go.Proofs.Ytofaioabjkcaiaa
open Go.RowKit

/-- The register in the first loop. -/
def FirstAt (w wr : World) (s : Nat) (vv : Value) (bs : List Nat) (Ts : List Tree) (tot : Int) (k : Nat) : Prop :=
  StockAt wr.heap.size wr s vv bs Ts ∧ bs.length ≤ k ∧ Kept (treeOf Ts bs.length).look tot ∧ Adds w wr ∧ w.heap.size ≤ s ∧ ∀ k, vv.ownBlock = some k → w.heap.size ≤ k

theorem StockAt.ok {B : Nat} {w : World} {s : Nat} {v : Value} {bs : List Nat} {Ts : List Tree} (h : StockAt B w s v bs Ts) {n : Nat} (hn : n ≤ bs.length) : (treeOf Ts n).ok 1 1000000 := by
  unfold treeOf
  split
  · exact ⟨rfl, rfl, by omega⟩
  · have hl := h.len
    have hb : bs[n - 1]? = some (bs[n - 1]'(by omega)) := List.getElem?_eq_getElem (by omega)
    have hT : Ts[n - 1]? = some (Ts[n - 1]'(by omega)) := List.getElem?_eq_getElem (by omega)
    have := (h.tree _ _ _ hb hT).2
    rw [List.getD_eq_getElem?_getD, hT]
    exact this

/-- The list of owners in memory. -/
def OwnerAt (w : World) (ob : Nat) (F : Int → Int) : Prop := ∃ xs : Array Value, Box w ob xs 3 ∧ xs.size = 80 ∧ ∀ k : Nat, k < 80 → xs[k]? = some (.int .i64 (F k))

theorem owner_new (w : World) (F : Int → Int) (hF : ∀ k : Nat, k < 80 → F k = 0) : OwnerAt (w.alloc (.cells (madeCells #[.int .i64 0] 80) 3)) w.heap.size F := by
  have e : (madeCells #[Value.int .i64 0] 80) = Array.replicate 80 (Value.int .i64 0) := by
    apply Array.ext
    · simp [madeCells]
    · intro i h1 h2; simp [madeCells, Nat.mod_one]
  refine ⟨_, Box.new w _ _, by rw [e]; simp, fun k hk => ?_⟩
  rw [hF k hk, e]
  simp [hk]

theorem OwnerAt.later {w w' : World} {ob : Nat} {F : Int → Int} (h : OwnerAt w ob F) (a : Adds w w') : OwnerAt w' ob F := by
  obtain ⟨xs, h1, h2, h3⟩ := h
  exact ⟨xs, h1.later a, h2, h3⟩

theorem OwnerAt.congr {w : World} {ob : Nat} {F G : Int → Int} (h : OwnerAt w ob F) (e : ∀ k : Nat, k < 80 → F k = G k) : OwnerAt w ob G := by
  obtain ⟨xs, h1, h2, h3⟩ := h
  exact ⟨xs, h1, h2, fun k hk => by rw [h3 k hk, e k hk]⟩

theorem OwnerAt.set {w : World} {ob : Nat} {F G : Int → Int} (h : OwnerAt w ob F) {k : Nat} {z : Int} (hk : k < 80) (hG : ∀ j : Nat, j < 80 → G j = if j = k then z else F j) : OwnerAt (w.setCell ⟨ob, k, none⟩ (.int .i64 z)) ob G := by
  obtain ⟨xs, h1, h2, h3⟩ := h
  refine ⟨_, h1.set k _, by simp [h2], fun j hj => ?_⟩
  rw [hG j hj, Array.getElem?_setIfInBounds]
  by_cases e : j = k
  · subst e; simp [h2, hk]
  · rw [if_neg (fun h => e h.symm), if_neg e]; exact h3 j hj

theorem make80 (w : World) : (Instr.makeSlice 77 (.int .i64 80) (.int .i64 80)).run Try.prog w = .ok (.slice (some ⟨w.heap.size, 0, none⟩) 80 80) (w.alloc (.cells (madeCells #[.int .i64 0] 80) 3)) :=
  run_make_row' (P := Try.prog) 77 3 (.int .i64 0) 8 Try.underlying77 (by kernel_rfl) rfl .i64 .i64 80 (by omega) (by omega) w

theorem touch_adds {w a b : World} {O : Nat → Prop} (h : Adds w a) (g : Touch O a b) (hO : ∀ k, O k → w.heap.size ≤ k) : Adds w b :=
  ⟨g.os.trans h.os, g.tape.trans h.tape, g.output.trans h.output, Nat.le_trans h.size g.size, fun k hk => (g.same k (Nat.lt_of_lt_of_le hk h.size) (fun ho => by have := hO k ho; omega)).trans (h.block k hk)⟩

theorem treeOf_last {bs : List Nat} {Ts : List Tree} {b : Nat} {T : Tree} (h : Ts.length = bs.length) : treeOf (Ts ++ [T]) (bs ++ [b]).length = T := by
  unfold treeOf
  rw [if_neg (by simp)]
  simp [← h]

theorem first_stay {w wr W4 w6 : World} {s : Nat} {vv : Value} {bs : List Nat} {Ts : List Tree} {tot : Int} {k : Nat} (h : FirstAt w wr s vv bs Ts tot k) (a : Adds wr W4) (b : Adds W4 w6) : FirstAt w w6 s vv bs Ts tot (k + 1) :=
  ⟨((h.1.later a).later b).tight, by have := h.2.1; omega, h.2.2.1, (h.2.2.2.1.trans a).trans b, h.2.2.2.2⟩

theorem first_next {w wr W4 w6 : World} {s : Nat} {vv v' : Value} {bs : List Nat} {Ts : List Tree} {tot tot' : Int} {k b' : Nat} {T' : Tree} (h : FirstAt w wr s vv bs Ts tot k) (a : Adds wr W4)
    (g : Touch (fun k => k = s ∨ vv.ownBlock = some k) W4 w6) (hS : StockAt w6.heap.size w6 s v' (bs ++ [b']) (Ts ++ [T'])) (hK : Kept T'.look tot') (hO : ∀ k, v'.ownBlock = some k → (k = s ∨ vv.ownBlock = some k) ∨ W4.heap.size ≤ k) :
    FirstAt w w6 s v' (bs ++ [b']) (Ts ++ [T']) tot' (k + 1) := by
  obtain ⟨h1, h2, h3, h4, h5, h6⟩ := h
  have hO2 : ∀ k, (k = s ∨ vv.ownBlock = some k) → w.heap.size ≤ k := fun k hk => hk.elim (fun e => e ▸ h5) (h6 k)
  refine ⟨hS, by simp; omega, by rw [treeOf_last h1.len]; exact hK, touch_adds (h4.trans a) g hO2, h5, fun k hk => (hO k hk).elim (hO2 k) (fun h => Nat.le_trans (h4.trans a).size h)⟩

theorem tmod8 (a : Int) : (IntKind.u64.wrap a).tmod 8 = 0 ∨ (IntKind.u64.wrap a).tmod 8 = 1 ∨ (IntKind.u64.wrap a).tmod 8 = 2 ∨ (IntKind.u64.wrap a).tmod 8 = 3 ∨ (IntKind.u64.wrap a).tmod 8 = 4 ∨ (IntKind.u64.wrap a).tmod 8 = 5 ∨ (IntKind.u64.wrap a).tmod 8 = 6 ∨ (IntKind.u64.wrap a).tmod 8 = 7 := by
  have h0 : 0 ≤ IntKind.u64.wrap a := by
    have : IntKind.u64.wrap a = a % 18446744073709551616 := by simp [IntKind.wrap, IntKind.signed, IntKind.bits]
    rw [this]; omega
  have k1 := Int.tmod_nonneg 8 h0
  have k2 := Int.tmod_lt_of_pos (IntKind.u64.wrap a) (show (0 : Int) < 8 by omega)
  omega


theorem OwnerAt.drewN {w : World} {ob : Nat} {F : Int → Int} (h : OwnerAt w ob F) (n : Nat) : OwnerAt (w.drewN n) ob F := h

/-- The worlds within the members' loop: the list of owners is as F says, nothing else turns. -/
def Mid (wb w9 : World) (ob : Nat) (F : Int → Int) (wz : World) : Prop := OwnerAt wz ob F ∧ Touch (fun k => k = ob) w9 wz ∧ Adds wb wz

theorem Mid.cell {wb w9 wz : World} {ob : Nat} {F : Int → Int} (h : Mid wb w9 ob F wz) {g o : Nat} {v : Value} (hg : g ≠ ob) (hc : w9.cell? ⟨g, o, none⟩ = some v) : wz.cell? ⟨g, o, none⟩ = some v := touch_cell h.2.1 hg hc
theorem Mid.congr {wb w9 wz : World} {ob : Nat} {F G : Int → Int} (h : Mid wb w9 ob F wz) (e : ∀ k : Nat, k < 80 → F k = G k) : Mid wb w9 ob G wz := ⟨h.1.congr e, h.2⟩
theorem Mid.drewN {wb w9 wz : World} {ob : Nat} {F : Int → Int} (h : Mid wb w9 ob F wz) (n : Nat) : Mid wb w9 ob F (wz.drewN n) := ⟨h.1.drewN n, ⟨h.2.1.os, h.2.1.tape, h.2.1.output, h.2.1.size, h.2.1.same⟩, h.2.2.drewN n⟩
theorem Mid.set {wb w9 wz : World} {ob : Nat} {F G : Int → Int} (h : Mid wb w9 ob F wz) (ho : wb.heap.size ≤ ob) {k : Nat} {z : Int} (hk : k < 80) (hG : ∀ j : Nat, j < 80 → G j = if j = k then z else F j) : Mid wb w9 ob G (wz.setCell ⟨ob, k, none⟩ (.int .i64 z)) :=
  ⟨h.1.set hk hG, ⟨h.2.1.os, h.2.1.tape, h.2.1.output, by simpa using h.2.1.size, fun k hk hn => by
    have := h.2.1.same k hk hn
    rw [← this]
    exact Below.heap_setCell wz ⟨ob, _, none⟩ _ k (fun e => hn e)⟩, h.2.2.set ho _⟩
theorem OwnerAt.cell {w : World} {ob : Nat} {F : Int → Int} (h : OwnerAt w ob F) {k : Nat} (hk : k < 80) : w.cell? ⟨ob, k, none⟩ = some (.int .i64 (F k)) ∧ w.frozen? ⟨ob, k, none⟩ = false := by
  obtain ⟨xs, h1, h2, h3⟩ := h
  exact ⟨by rw [h1.cell, h3 k hk], h1.free k⟩

theorem hold_cells {B hg hcap ob : Nat} {w8 w9 wb wz : World} {hs : List Piece} {F : Int → Int} (hr : w8.ownsRow B 79 5 (.slice (some ⟨hg, 0, none⟩) hs.length hcap) hs.length (hs.flatMap holdCells)) (hh : hg < w8.heap.size) (h9 : Adds w8 w9) (hm : Mid wb w9 ob F wz) (hgo : hg ≠ ob)
    {q : Nat} {x : Piece} (hx : hs[q]? = some x) : wz.cell? ⟨hg, q * 5, none⟩ = some (.int .i64 x.1) ∧ wz.cell? ⟨hg, q * 5 + 1, none⟩ = some (.int .i64 (x.2.1 - x.1 + 1)) ∧ wz.cell? ⟨hg, q * 5 + 2, none⟩ = some (.int .i64 x.2.2.lot) ∧
      wz.cell? ⟨hg, q * 5 + 3, none⟩ = some (.int .i64 x.2.2.own) ∧ wz.cell? ⟨hg, q * 5 + 4, none⟩ = some (.int .i64 x.2.2.hold) := by
  have hlt : q < hs.length := (List.getElem?_eq_some_iff.1 hx).1
  have key : ∀ j v, j < 5 → (holdCells x)[j]? = some v → wz.cell? ⟨hg, q * 5 + j, none⟩ = some v := fun j v hj hv => by
    have h1 := hr.cellAt (q * 5 + j) (by omega)
    rw [holds_cell q _ hx j hj, hv] at h1
    have h2 : w9.cell? ⟨hg, q * 5 + j, none⟩ = some v := by
      rw [← h1]
      exact h9.cell (p := ⟨hg, q * 5 + j, none⟩) hh
    exact hm.cell hgo h2
  exact ⟨key 0 _ (by omega) rfl, key 1 _ (by omega) rfl, key 2 _ (by omega) rfl, key 3 _ (by omega) rfl, key 4 _ (by omega) rfl⟩

theorem wrap_in (n : Int) (h1 : -9223372036854775808 ≤ n) (h2 : n ≤ 9223372036854775807) : IntKind.i64.wrap n = n := IntWalk.i64_in _ (by omega)

/-- What is known within the loop over a member's holds. -/
structure Held (wb w9 : World) (ob hg L : Nat) (f : Int → Pk) (R hs : List Piece) (tot m : Int) : Prop where
  cover : Cover f 1 1000000 R
  parted : Parted R
  kept : Kept f tot
  m1 : 1 ≤ m
  own : hs = ownedBy (fun p => p.own) m R
  len : L = hs.length
  base : wb.heap.size ≤ ob
  cells : ∀ {F : Int → Int} {wz : World} {q : Nat} {x : Piece}, Mid wb w9 ob F wz → hs[q]? = some x → wz.cell? ⟨hg, q * 5, none⟩ = some (.int .i64 x.1) ∧ wz.cell? ⟨hg, q * 5 + 1, none⟩ = some (.int .i64 (x.2.1 - x.1 + 1)) ∧ wz.cell? ⟨hg, q * 5 + 2, none⟩ = some (.int .i64 x.2.2.lot) ∧
      wz.cell? ⟨hg, q * 5 + 3, none⟩ = some (.int .i64 x.2.2.own) ∧ wz.cell? ⟨hg, q * 5 + 4, none⟩ = some (.int .i64 x.2.2.hold)

section
variable {wb w9 : World} {ob hg L : Nat} {f : Int → Pk} {R hs : List Piece} {tot m : Int}

theorem Held.piece (h : Held wb w9 ob hg L f R hs tot m) {q : Nat} {x : Piece} (hx : hs[q]? = some x) : x.2.2.own = m ∧ 1 ≤ x.1 ∧ x.1 ≤ x.2.1 ∧ x.2.1 ≤ 74 :=
  piece_facts h.cover h.kept h.m1 (by rw [← h.own]; exact hx)

theorem Held.prev (h : Held wb w9 ob hg L f R hs tot m) {q : Nat} {x y : Piece} (hy : hs[q]? = some y) (hx : hs[q + 1]? = some x) :
    y.2.1 < x.1 ∧ (y.2.1 + 1 ≠ x.1 ∨ (y.2.1 + 1 = x.1 ∧ (y.2.2.lot ≠ x.2.2.lot ∨ (y.2.2.lot = x.2.2.lot ∧ y.2.2.hold ≠ x.2.2.hold)))) :=
  prev_facts h.cover h.parted h.kept h.m1 (by rw [← h.own]; exact hy) (by rw [← h.own]; exact hx)

theorem Held.free (h : Held wb w9 ob hg L f R hs tot m) {q : Nat} {x : Piece} (hx : hs[q]? = some x) {i : Int} (h1 : x.1 ≤ i) (h2 : i ≤ x.2.1) : ownAt f m hs q x i i = 0 := by
  have e := h.own
  subst e
  exact ownAt_free h.cover hx h1 h2

theorem Held.last (h : Held wb w9 ob hg L f R hs tot m) {q : Nat} {x : Piece} (hx : hs[q]? = some x) (k : Int) : ownAt f m hs q x (x.2.1 + 1) k = ownIn f m hs (q + 1) k := by
  have e := h.own
  subst e
  exact ownAt_last h.cover hx

theorem Held.all (h : Held wb w9 ob hg L f R hs tot m) {k : Int} (hk : k ≤ 1000000) : ownIn f m hs hs.length k = ownTo f (m + 1) k := by
  have e := h.own
  subst e
  exact ownIn_all h.cover h.m1 hk

theorem Held.le (h : Held wb w9 ob hg L f R hs tot m) : ∀ x ∈ hs, x.1 ≤ x.2.1 := by
  have e := h.own
  subst e
  exact owned_le h.cover m

theorem Held.bd (h : Held wb w9 ob hg L f R hs tot m) : 0 ≤ countOf hs ∧ countOf hs ≤ 1000000 ∧ L ≤ 1000000 := by
  have e := h.own
  have e2 := h.len
  have a1 := count_own_bd h.cover m
  have a2 : (ownedBy (fun p => p.own) m R).length ≤ R.length := List.length_filter_le _ _
  have a3 := h.cover.length
  subst e
  omega
end

end Go.Proofs.Ytofaioabjkcaiaa
