/- The edges of a network of loads; node and length; loads in memory. -/
import Derived.Test.YtkofnhimgegcnaaI
import Derived.Maps.OwnSet
namespace Go.Proofs.Ytkofnhimgegcnaa
open Go Go.RowKit Go.Maps

/-- A load: ready, due, length, worth. -/
abbrev Ld := Int × Int × Int × Int

/-- Loads in memory. -/
def LoadsAt (w : World) (p : Option Addr) (l : List Ld) : Prop := ∀ i x, l[i]? = some x → ∃ g off, p = some ⟨g, off, none⟩ ∧
  w.cell? ⟨g, off + i * 4, none⟩ = some (.int .i64 x.1) ∧ w.cell? ⟨g, off + i * 4 + 1, none⟩ = some (.int .i64 x.2.1) ∧ w.cell? ⟨g, off + i * 4 + 2, none⟩ = some (.int .i64 x.2.2.1) ∧ w.cell? ⟨g, off + i * 4 + 3, none⟩ = some (.int .i64 x.2.2.2)

theorem LoadsAt.later {w w' : World} {p : Option Addr} {l : List Ld} (h : LoadsAt w p l) (ha : Adds w w') : LoadsAt w' p l := fun i x hx => by
  obtain ⟨g, off, hp, h0, h1, h2, h3⟩ := h i x hx
  exact ⟨g, off, hp, keep_cell ha h0, keep_cell ha h1, keep_cell ha h2, keep_cell ha h3⟩

/-- Loads whose numbers are small. -/
def okN (x : Ld) : Prop := 0 ≤ x.1 ∧ x.1 < x.2.1 ∧ x.2.1 ≤ 1000000000 ∧ 1 ≤ x.2.2.1 ∧ x.2.2.1 ≤ x.2.1 - x.1 ∧ x.2.2.1 ≤ 1000000

/-- The times of loads, in their order. -/
def timesL (l : List Ld) : List Int := l.flatMap (fun x => [x.1, x.2.1])

theorem timesL_len (l : List Ld) : (timesL l).length = 2 * l.length := by
  induction l with
  | nil => rfl
  | cons x l ih => simp only [timesL, List.flatMap_cons, List.length_append, List.length_cons, List.length_nil] at ih ⊢; omega
theorem timesL_mem {l : List Ld} {x : Ld} (h : x ∈ l) : x.1 ∈ timesL l ∧ x.2.1 ∈ timesL l := by
  unfold timesL
  constructor <;> rw [List.mem_flatMap] <;> exact ⟨x, h, by simp⟩

/-- How long a span is. -/
def spanL (T : List Int) (s : Nat) : Int := T[s + 1]?.getD 0 - T[s]?.getD 0
/-- The number of a time. -/
def posT (T : List Int) (t : Int) : Nat := T.findIdx (fun u => u == t)

theorem posT_spec {T : List Int} {t : Int} (h : t ∈ T) : posT T t < T.length ∧ T[posT T t]? = some t := by
  unfold posT
  have h1 : T.findIdx (fun u => u == t) < T.length := List.findIdx_lt_length_of_exists ⟨t, h, by simp⟩
  refine ⟨h1, ?_⟩
  rw [List.getElem?_eq_getElem h1]
  have := List.findIdx_getElem (w := h1)
  simp at this
  rw [this]

theorem up_inj {T : List Int} (hT : T.Pairwise (· < ·)) {i j : Nat} {t : Int} (hi : T[i]? = some t) (hj : T[j]? = some t) : i = j := by
  obtain ⟨h1, e1⟩ := List.getElem?_eq_some_iff.1 hi
  obtain ⟨h2, e2⟩ := List.getElem?_eq_some_iff.1 hj
  rcases Nat.lt_trichotomy i j with h | h | h
  · have := List.pairwise_iff_getElem.1 hT i j h1 h2 h
    omega
  · exact h
  · have := List.pairwise_iff_getElem.1 hT j i h2 h1 h
    omega

theorem posT_at {T : List Int} (hT : T.Pairwise (· < ·)) {s : Nat} {t : Int} (hs : T[s]? = some t) : posT T t = s := by
  have hm : t ∈ T := List.mem_of_getElem? hs
  exact up_inj hT (posT_spec hm).2 hs

theorem posT_le {T : List Int} (hT : T.Pairwise (· < ·)) {a b : Int} (ha : a ∈ T) (hb : b ∈ T) (h : a < b) : posT T a < posT T b := by
  obtain ⟨h1, e1⟩ := posT_spec ha
  obtain ⟨h2, e2⟩ := posT_spec hb
  rcases Nat.lt_or_ge (posT T a) (posT T b) with h' | h'
  · exact h'
  · obtain ⟨_, f1⟩ := List.getElem?_eq_some_iff.1 e1
    obtain ⟨_, f2⟩ := List.getElem?_eq_some_iff.1 e2
    rcases Nat.lt_or_ge (posT T b) (posT T a) with h'' | h''
    · have := List.pairwise_iff_getElem.1 hT _ _ h2 h1 h''
      omega
    · have e : posT T a = posT T b := by omega
      rw [e, e2] at e1
      cases e1
      omega

/-- The edges of a load: so many of its spans. -/
def loadE (n : Nat) (T : List Int) (j : Nat) (x : Ld) (q : Nat) : List Edge := (0, 2 + j, x.2.2.1) :: (List.range q).map (fun k => (2 + j, 2 + n + (posT T x.1 + k), spanL T (posT T x.1 + k)))
def spansOf (T : List Int) (x : Ld) : Nat := posT T x.2.1 - posT T x.1
def loadsE (n : Nat) (T : List Int) : List Ld → Nat → List Edge
  | [], _ => []
  | x :: l, j => loadE n T j x (spansOf T x) ++ loadsE n T l (j + 1)
def sinkE (n : Nat) (T : List Int) (K : Int) (q : Nat) : List Edge := (List.range q).map (fun s => (2 + n + s, 1, K * spanL T s))
def netE (T : List Int) (K : Int) (l : List Ld) : List Edge := loadsE l.length T l 0 ++ sinkE l.length T K (T.length - 1)

theorem loadsE_append (n : Nat) (T : List Int) : ∀ (l m : List Ld) (j : Nat), loadsE n T (l ++ m) j = loadsE n T l j ++ loadsE n T m (j + l.length)
  | [], m, j => by simp [loadsE]
  | x :: l, m, j => by
    rw [List.cons_append, loadsE, loadsE, loadsE_append n T l m (j + 1), List.append_assoc, show j + 1 + l.length = j + (x :: l).length by rw [List.length_cons]; omega]
theorem loadsE_next {n : Nat} {T : List Int} {l : List Ld} {k : Nat} {x : Ld} (h : l[k]? = some x) : loadsE n T (l.take (k + 1)) 0 = loadsE n T (l.take k) 0 ++ loadE n T k x (spansOf T x) := by
  have hk : k < l.length := (List.getElem?_eq_some_iff.1 h).1
  rw [List.take_succ_eq_append_getElem hk, loadsE_append]
  have : l[k] = x := (List.getElem?_eq_some_iff.1 h).2
  rw [this]
  simp only [loadsE, List.append_nil, Nat.zero_add, List.length_take]
  rw [Nat.min_eq_left (by omega)]
theorem loadE_next (n : Nat) (T : List Int) (j : Nat) (x : Ld) (q : Nat) : loadE n T j x (q + 1) = loadE n T j x q ++ [(2 + j, 2 + n + (posT T x.1 + q), spanL T (posT T x.1 + q))] := by
  simp [loadE, List.range_succ]
theorem sinkE_next (n : Nat) (T : List Int) (K : Int) (q : Nat) : sinkE n T K (q + 1) = sinkE n T K q ++ [(2 + n + q, 1, K * spanL T q)] := by
  simp [sinkE, List.range_succ]

theorem loadE_len (n : Nat) (T : List Int) (j : Nat) (x : Ld) (q : Nat) : (loadE n T j x q).length = q + 1 := by simp [loadE]
theorem spansOf_le (T : List Int) (x : Ld) : spansOf T x ≤ T.length := by
  unfold spansOf
  have : posT T x.2.1 ≤ T.length := List.findIdx_le_length
  omega
theorem loadsE_len (n : Nat) (T : List Int) : ∀ (l : List Ld) (j : Nat), (loadsE n T l j).length ≤ l.length * (T.length + 1)
  | [], _ => by simp [loadsE]
  | x :: l, j => by
    have h1 := loadsE_len n T l (j + 1)
    have h2 := spansOf_le T x
    rw [loadsE, List.length_append, loadE_len, List.length_cons, Nat.succ_mul]
    omega
theorem sinkE_len (n : Nat) (T : List Int) (K : Int) (q : Nat) : (sinkE n T K q).length = q := by simp [sinkE]

set_option maxHeartbeats 400000 in
theorem node_any (b n s cl : Nat) (pl : Option Addr) (vt vw vo vs : Value) (w : World) (hb : Box w b #[.slice pl n cl, vt, vw, vo, vs] 100) (hn : n ≤ 1000) (hs : s ≤ 100000) :
    Calls Try.prog 59 #[.pointer (some ⟨b, 0, none⟩), .int .i64 s] w fun e w' => e = .returned (.int .i64 ((2 + n + s : Nat) : Int)) ∧ w = w' := by
  have k0 : w.cell? ⟨b, 0, none⟩ = some (.slice pl n cl) := hb.cell 0
  go_enter Try.func59, Try.ntmps59
  go_wp2
  go_ret
  exact ⟨by simp, rfl⟩

set_option maxHeartbeats 400000 in
theorem length_any (b gt ct s : Nat) (T : List Int) (vl vw vo vs : Value) (w : World) (hb : Box w b #[vl, .slice (some ⟨gt, 0, none⟩) T.length ct, vw, vo, vs] 100) (hT : RowI 3 .i64 w gt ct T) (hs : s + 1 < T.length) (hl : T.length ≤ 100000) (hbd : ∀ t ∈ T, 0 ≤ t ∧ t ≤ 1000000000) :
    Calls Try.prog 77 #[.pointer (some ⟨b, 0, none⟩), .int .i64 s] w fun e w' => e = .returned (.int .i64 (spanL T s)) ∧ Adds w w' := by
  obtain ⟨t0, h0⟩ : ∃ t, T[s]? = some t := ⟨_, List.getElem?_eq_getElem (by omega)⟩
  obtain ⟨t1, h1⟩ : ∃ t, T[s + 1]? = some t := ⟨_, List.getElem?_eq_getElem hs⟩
  have k1 : w.cell? ⟨b, 1, none⟩ = some (.slice (some ⟨gt, 0, none⟩) T.length ct) := hb.cell 1
  have kt0 := hT.cell h0
  have kt1 := hT.cell h1
  obtain ⟨b0, b1⟩ := hbd t0 (List.mem_of_getElem? h0)
  obtain ⟨b2, b3⟩ := hbd t1 (List.mem_of_getElem? h1)
  have HSP : Hid (spanL T s = t1 - t0) := Lib.hid (by unfold spanL; rw [h0, h1]; rfl)
  obtain ⟨L, hL⟩ : ∃ L, L = T.length := ⟨_, rfl⟩
  rw [← hL] at k1 hs hl
  clear h0 h1 hT hb hbd hL
  go_enter Try.func77, Try.ntmps77
  go_upto_region 1 with fail
  go_quiet (fail)
  go_wp2
  go_ret
  exact ⟨ret_int HSP.out.symm, (Adds.refl _).drewN _⟩

end Go.Proofs.Ytkofnhimgegcnaa
