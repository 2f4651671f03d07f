/- StockReturns: what a tame change keeps; do over a fresh reference; how few the holds are. -/
import Derived.Test.YtofaioabjkcaiaaCE
import Derived.Test.YtofaioabjkcaiaaAQ
namespace Go.Proofs.Ytofaioabjkcaiaa
open Go.RowKit

theorem kept_do {f g : Int → Pk} {tot z lt A B a n : Int} {r : Bool} {rf : Pk → Int} {FR FS : Pk → Pk} (hk : Kept f tot) (hsp : Spec z lt A B r rf FR FS) (h0 : FirstErr rf f a n 0) (h1 : 1 ≤ a) (h2 : 1 ≤ n) (h3 : a + n - 1 ≤ 74)
    (ha : 1 ≤ A) (ha4 : A ≤ 4) (hb : 1 ≤ B) (hb4 : B ≤ 4) (hg : ∀ k, 1 ≤ k → k ≤ 1000000 → g k = chgF f a n FS k) : ∃ tot', Kept g tot' := by
  have h0' := firstErr_all h0
  rcases hsp with ⟨_, _, rfl, rfl, rfl⟩ | ⟨_, _, rfl, rfl, rfl⟩ | ⟨_, _, rfl, rfl, rfl⟩ | ⟨_, _, rfl, rfl, rfl⟩ | ⟨_, _, rfl, rfl, rfl⟩ | ⟨_, _, rfl, rfl, rfl⟩
  · exact ⟨_, kept_enter hk h1 (by omega) h3 ha ha4 h0' hg⟩
  · exact ⟨_, kept_same (F := fun q => ⟨q.st, q.lot, B, q.hold⟩) hk h1 h3 hg (fun k k1 k2 => by obtain ⟨h1, _⟩ := free_in (h0' k k1 k2); exact ⟨h1, h1, hb, hb4⟩)⟩
  · exact ⟨_, kept_same (F := fun q => ⟨q.st, q.lot, q.own, B⟩) hk h1 h3 hg (fun j k1 k2 => by obtain ⟨h1, _⟩ := free_in (h0' j k1 k2); exact ⟨h1, h1, hk.own (by omega) (by omega) h1⟩)⟩
  · exact ⟨_, kept_same (F := fun q => ⟨q.st, q.lot, q.own, 0⟩) hk h1 h3 hg (fun j k1 k2 => by obtain ⟨h1, _⟩ := held_in (h0' j k1 k2); exact ⟨h1, h1, hk.own (by omega) (by omega) h1⟩)⟩
  · exact ⟨_, kept_same (F := fun q => ⟨q.st, q.lot, A, 0⟩) hk h1 h3 hg (fun j k1 k2 => by obtain ⟨h1, _⟩ := held_in (h0' j k1 k2); exact ⟨h1, h1, ha, ha4⟩)⟩
  · exact ⟨_, kept_less (F := fun _ => ⟨2, 0, 0, 0⟩) hk h1 (by omega) h3 hg (fun j k1 k2 => by obtain ⟨h1, _⟩ := free_in (h0' j k1 k2); exact ⟨h1, by decide, rfl⟩)⟩

/-- What a tame do over a fresh reference keeps. -/
def DoKept (s : Nat) (v : Value) (bs : List Nat) (w : World) (e : Ending) (w' : World) : Prop :=
  ∃ r0 b v' bs' Ts' tot', e = .returned (.tuple #[r0, .bool b]) ∧ StockAt w'.heap.size w' s v' bs' Ts' ∧ Kept (treeOf Ts' bs'.length).look tot' ∧ bs'.length ≤ bs.length + 1 ∧ Touch (fun k => k = s ∨ v.ownBlock = some k) w w' ∧
    (∀ k, v'.ownBlock = some k → k = s ∨ v.ownBlock = some k ∨ w.heap.size ≤ k)

theorem do_kept (s : Nat) (v : Value) (bs : List Nat) (Ts : List Tree) (g n0 c0 : Nat) (tot kd x y lt A B : Int) (w : World) (hS : StockAt w.heap.size w s v bs Ts) (hlen : bs.length ≤ 900000) (hR : RefAt w (.agg #[.slice (some ⟨g, 0, none⟩) n0 c0]) [[]]) (hg : g ≠ s)
    (hk : Kept (treeOf Ts bs.length).look tot) (hx : 1 ≤ x) (hx2 : x ≤ 60) (hy : 1 ≤ y) (hy2 : y ≤ 15) (ha : 1 ≤ A) (ha4 : A ≤ 4) (hb : 1 ≤ B) (hb4 : B ≤ 4) :
    Calls Try.prog 15 #[.pointer (some ⟨s, 0, none⟩), .agg #[.slice (some ⟨g, 0, none⟩) n0 c0], .agg #[.int .i64 kd, .int .i64 x, .int .i64 y, .int .i64 lt, .int .i64 A, .int .i64 B]] w (DoKept s v bs w) :=
  (do_any w.heap.size s v bs Ts (fun _ => pk0) g n0 c0 [[]] kd x y lt A B w hS (by omega) hR hg ((can_nil _).more (by omega) (fun _ _ _ => rfl)) (by simp)).mono fun e w' hd => by
    obtain ⟨r, rf, FR, FS, cR, cS, g1, n1, c1, bd, hsp, rfl, hbd, hoff, hro, hso, ht⟩ := hd
    rcases hso with ⟨_, _, k3⟩ | ⟨_, _, k3, v', b, T', k4, k5, k6⟩
    · exact ⟨_, _, v, bs, Ts, tot, rfl, k3, hk, by omega, ht, fun k hk => Or.inr (Or.inl hk)⟩
    · obtain ⟨tot', hk'⟩ := kept_do hk hsp k3 hx hy (by omega) ha ha4 hb hb4 k6
      refine ⟨_, _, v', bs ++ [b], Ts ++ [T'], tot', rfl, k4, ?_, by simp, ht, k5⟩
      rw [show (bs ++ [b]).length = Ts.length + 1 by simp [hS.len], treeOf_new]
      exact hk'

/-- A member has few holds. -/
theorem few_holds {f : Int → Pk} {tot m : Int} {l : List Piece} (hk : Kept f tot) (hc : Cover f 1 1000000 l) (hm : 1 ≤ m) : (ownedBy (fun p => p.own) m l).length ≤ 74 := by
  have h1 := count_cnt (q := fun p => decide (p.own = m)) hc
  have h2 := (count_cover (q := fun x => decide (x.2.2.own = m)) hc).1
  have h3 : ∀ (l' : List Piece), (∀ x ∈ l', x.1 ≤ x.2.1) → (l'.length : Int) ≤ countOf l' := by
    intro l'
    induction l' with
    | nil => intro _; simp [countOf]
    | cons x l' ih =>
      intro h
      have := ih (fun y hy => h y (by simp [hy]))
      have := h x (by simp)
      rw [countOf_cons]; simp only [List.length_cons]; omega
  have h4 := h3 (ownedBy (fun p => p.own) m l) (fun x hx => h2 x (List.mem_filter.1 hx).1)
  have h5 : cnt (fun k => decide ((f k).own = m)) 1 (74 + 999926) ≤ 74 := by
    rw [cnt_add, cnt_no (a := 1 + ((74 : Nat) : Int))]
    · have := (cnt_bounds (P := fun k => decide ((f k).own = m)) (a := 1) (n := 74)).2
      omega
    · intro k k1 k2
      rcases hk.1 k (by omega) (by omega) with ⟨_, _, _, h⟩ | ⟨_, h⟩
      · omega
      · simp only [decide_eq_false_iff_not]; omega
  have e : (1000000 + 1 - 1 : Int).toNat = 74 + 999926 := by decide
  rw [e] at h1
  have h6 : ownedBy (fun p => p.own) m l = l.filter fun x => decide (x.2.2.own = m) := rfl
  rw [h6] at h4 ⊢
  omega

/-- A hold of a member. -/
theorem hold_in {f : Int → Pk} {tot m : Int} {l : List Piece} (hk : Kept f tot) (hc : Cover f 1 1000000 l) (hm : 1 ≤ m) {x : Piece} (hx : x ∈ ownedBy (fun p => p.own) m l) :
    1 ≤ x.1 ∧ x.1 ≤ x.2.1 ∧ x.2.1 ≤ 1000000 ∧ x.2.2.own = m ∧ x.2.2.st = 1 ∧ ∀ k, x.1 ≤ k → k ≤ x.2.1 → f k = x.2.2 := by
  have hmem := List.mem_filter.1 hx
  have hown : x.2.2.own = m := by simpa using hmem.2
  obtain ⟨pre, rest, rfl⟩ := List.append_of_mem hmem.1
  obtain ⟨mm, c1, c2⟩ := hc.split
  obtain ⟨d1, d2, d3, d4⟩ := c2
  have hle := c1.le
  have hle2 := d4.le
  refine ⟨by omega, d2, by omega, hown, ?_, d3⟩
  have := d3 x.1 (by omega) d2
  rcases hk.1 x.1 (by omega) (by omega) with ⟨h, _⟩ | ⟨_, h⟩
  · rw [← this]; exact h
  · rw [this] at h; omega

end Go.Proofs.Ytofaioabjkcaiaa
