/- One tame change of a register whose pockets are kept, for each of the six changes. -/
import Derived.Test.YtofaioabjkcaiaaAM
import Derived.Test.YtofaioabjkcaiaaAO
import Derived.Test.YtofaioabjkcaiaaAP
namespace Go.Proofs.Ytofaioabjkcaiaa
open Go.RowKit

theorem cnt_bounds {P : Int → Bool} {a : Int} : ∀ {n : Nat}, 0 ≤ cnt P a n ∧ cnt P a n ≤ n
  | 0 => by simp [cnt]
  | n + 1 => by
    have h := cnt_bounds (P := P) (a := a) (n := n)
    simp only [cnt]
    split <;> omega

theorem Kept.bounds {f : Int → Pk} {tot : Int} (h : Kept f tot) : 0 ≤ tot ∧ tot ≤ 1000000 := by
  have := cnt_bounds (P := fun k => (f k).st == 1) (a := 1) (n := 1000000)
  rw [h.2]
  omega

/-- What a change does to what is kept: d more are in. -/
def KeepStep (w : World) (s : Nat) (v : Value) (bs : List Nat) (Ts : List Tree) (tot d : Int) (e : Ending) (w' : World) : Prop :=
  ∃ c, e = .returned (.int .i64 c) ∧ Touch (fun k => k = s ∨ v.ownBlock = some k) w w' ∧
    ((c ≠ 0 ∧ Adds w w') ∨ (c = 0 ∧ ∃ v' b T', StockAt w'.heap.size w' s v' (bs ++ [b]) (Ts ++ [T']) ∧ Kept T'.look (tot + d) ∧ ∀ k, v'.ownBlock = some k → (k = s ∨ v.ownBlock = some k) ∨ w.heap.size ≤ k))

theorem keep_step {w w' : World} {s : Nat} {v : Value} {bs : List Nat} {Ts : List Tree} {a n tot d : Int} {r : Bool} {rf : Pk → Int} {F : Pk → Pk} {e : Ending} (h : ChangeAll w s v bs Ts a n r rf F e w')
    (hK : ∀ g : Int → Pk, (∀ k, a ≤ k → k ≤ a + n - 1 → rf ((treeOf Ts bs.length).look k) = 0) → (∀ k, 1 ≤ k → k ≤ 1000000 → g k = if a ≤ k ∧ k ≤ a + n - 1 then F ((treeOf Ts bs.length).look k) else (treeOf Ts bs.length).look k) → Kept g (tot + d)) :
    KeepStep w s v bs Ts tot d e w' := by
  rcases h with ⟨h1, h2, h3⟩ | ⟨h1, ⟨k, k1, k2, k3, k4, k5, k6⟩ | ⟨k1, k2, v', b, T', k3, k4, k5⟩⟩
  · exact ⟨_, h2, .of_adds h3 _, Or.inl ⟨by decide, h3⟩⟩
  · exact ⟨_, k5, .of_adds k6 _, Or.inl ⟨k3, k6⟩⟩
  · exact ⟨_, k2, k5.1, Or.inr ⟨rfl, v', b, T', k3, hK _ k1 k4, fun k hk => k5.2 k (Or.inr hk)⟩⟩

section
variable {B s : Nat} {v : Value} {bs : List Nat} {Ts : List Tree} {tot x y : Int} {w : World}

theorem enter_keep (lot own : Int) (hS : StockAt B w s v bs Ts) (hlen : bs.length ≤ 1000000) (hk : Kept (treeOf Ts bs.length).look tot) (hx : 1 ≤ x) (hx2 : x ≤ 60) (hy : 1 ≤ y) (hy2 : y ≤ 15) (ho : 1 ≤ own) (ho2 : own ≤ 4) :
    Calls Try.prog 32 #[.pointer (some ⟨s, 0, none⟩), .agg #[.int .i64 x, .int .i64 y], .int .i64 lot, .int .i64 own] w (KeepStep w s v bs Ts tot y) :=
  (enter_any B s v bs Ts x y lot own w hS hlen).mono (fun _ _ h => keep_step h (fun _ hr hg => kept_enter hk hx (by omega) (by omega) ho ho2 hr hg))

theorem move_keep (fr dst : Int) (hS : StockAt B w s v bs Ts) (hlen : bs.length ≤ 1000000) (hk : Kept (treeOf Ts bs.length).look tot) (hx : 1 ≤ x) (hx2 : x ≤ 60) (hy2 : y ≤ 15) (ho : 1 ≤ dst) (ho2 : dst ≤ 4) :
    Calls Try.prog 33 #[.pointer (some ⟨s, 0, none⟩), .agg #[.int .i64 x, .int .i64 y], .int .i64 fr, .int .i64 dst] w (KeepStep w s v bs Ts tot 0) :=
  (move_any B s v bs Ts x y fr dst w hS hlen).mono (fun _ _ h => keep_step h (fun _ hr hg => by
    rw [Int.add_zero]
    exact kept_same (F := fun q => ⟨q.st, q.lot, dst, q.hold⟩) hk hx (by omega) hg (fun k k1 k2 => by obtain ⟨h1, _⟩ := free_in (hr k k1 k2); exact ⟨h1, h1, ho, ho2⟩)))

theorem pledge_keep (m k : Int) (hS : StockAt B w s v bs Ts) (hlen : bs.length ≤ 1000000) (hk : Kept (treeOf Ts bs.length).look tot) (hx : 1 ≤ x) (hx2 : x ≤ 60) (hy2 : y ≤ 15) :
    Calls Try.prog 34 #[.pointer (some ⟨s, 0, none⟩), .agg #[.int .i64 x, .int .i64 y], .int .i64 m, .int .i64 k] w (KeepStep w s v bs Ts tot 0) :=
  (pledge_any B s v bs Ts x y m k w hS hlen).mono (fun _ _ h => keep_step h (fun _ hr hg => by
    rw [Int.add_zero]
    exact kept_same (F := fun q => ⟨q.st, q.lot, q.own, k⟩) hk hx (by omega) hg (fun j k1 k2 => by obtain ⟨h1, _⟩ := free_in (hr j k1 k2); exact ⟨h1, h1, hk.own (by omega) (by omega) h1⟩)))

theorem release_keep (m : Int) (hS : StockAt B w s v bs Ts) (hlen : bs.length ≤ 1000000) (hk : Kept (treeOf Ts bs.length).look tot) (hx : 1 ≤ x) (hx2 : x ≤ 60) (hy2 : y ≤ 15) :
    Calls Try.prog 35 #[.pointer (some ⟨s, 0, none⟩), .agg #[.int .i64 x, .int .i64 y], .int .i64 m] w (KeepStep w s v bs Ts tot 0) :=
  (release_any B s v bs Ts x y m w hS hlen).mono (fun _ _ h => keep_step h (fun _ hr hg => by
    rw [Int.add_zero]
    exact kept_same (F := fun q => ⟨q.st, q.lot, q.own, 0⟩) hk hx (by omega) hg (fun j k1 k2 => by obtain ⟨h1, _⟩ := held_in (hr j k1 k2); exact ⟨h1, h1, hk.own (by omega) (by omega) h1⟩)))

theorem seize_keep (m : Int) (hS : StockAt B w s v bs Ts) (hlen : bs.length ≤ 1000000) (hk : Kept (treeOf Ts bs.length).look tot) (hx : 1 ≤ x) (hx2 : x ≤ 60) (hy2 : y ≤ 15) (ho : 1 ≤ m) (ho2 : m ≤ 4) :
    Calls Try.prog 36 #[.pointer (some ⟨s, 0, none⟩), .agg #[.int .i64 x, .int .i64 y], .int .i64 m] w (KeepStep w s v bs Ts tot 0) :=
  (seize_any B s v bs Ts x y m w hS hlen).mono (fun _ _ h => keep_step h (fun _ hr hg => by
    rw [Int.add_zero]
    exact kept_same (F := fun q => ⟨q.st, q.lot, m, 0⟩) hk hx (by omega) hg (fun j k1 k2 => by obtain ⟨h1, _⟩ := held_in (hr j k1 k2); exact ⟨h1, h1, ho, ho2⟩)))

theorem leave_keep (m : Int) (hS : StockAt B w s v bs Ts) (hlen : bs.length ≤ 1000000) (hk : Kept (treeOf Ts bs.length).look tot) (hx : 1 ≤ x) (hx2 : x ≤ 60) (hy : 1 ≤ y) (hy2 : y ≤ 15) :
    Calls Try.prog 37 #[.pointer (some ⟨s, 0, none⟩), .agg #[.int .i64 x, .int .i64 y], .int .i64 m] w (KeepStep w s v bs Ts tot (-y)) :=
  (leave_any B s v bs Ts x y m w hS hlen).mono (fun _ _ h => keep_step h (fun _ hr hg => by
    rw [show tot + -y = tot - y by omega]
    exact kept_less (F := fun _ => ⟨2, 0, 0, 0⟩) hk hx (by omega) (by omega) hg (fun j k1 k2 => by obtain ⟨h1, _⟩ := free_in (hr j k1 k2); exact ⟨h1, by decide, rfl⟩)))
end

end Go.Proofs.Ytofaioabjkcaiaa
