/- Holds, Count. -/
import Derived.Test.YtofaioabjkcaiaaAC
namespace Go.Proofs.Ytofaioabjkcaiaa
open Go.RowKit

set_option maxHeartbeats 400000 in
theorem namer_own (w : World) : Namer w 62 (fun p => p.own) := ⟨fun args w => by go_simp, fun q w1 _ => by
  go_enter Try.func62, Try.ntmps62
  go_wp2
  go_ret
  exact ⟨rfl, (Adds.refl w1).alloc _⟩⟩

set_option maxHeartbeats 400000 in
theorem Holds_ok (B s : Nat) (v : Value) (bs : List Nat) (Ts : List Tree) (m : Int) (ver : Nat) (w : World) (hS : StockAt B w s v bs Ts) (hver : ver ≤ bs.length) (hm : inB 1000 m = true) :
    Calls Try.prog 22 #[.pointer (some ⟨s, 0, none⟩), .int .i64 m, .int .i64 ver] w (HoldsGot w (ownedBy (fun p => p.own) m (runsT 1 1000000 (treeOf Ts ver)))) := by
  have HS := Lib.hid hS
  have HM := Lib.hid hm
  clear hS hm
  go_enter Try.func22, Try.ntmps22
  go_wp2_with (go_at_call 61; refine (holds_ok B s 62 v bs Ts m ver (fun p => p.own) _ HS.out hver HM.out (namer_own _)).mono ?_; rintro e w1 ⟨hv, rfl, hr, hb⟩; have HR := Lib.hid hr; clear hr)
  go_ret2
  exact ⟨hv, rfl, HR.out, hb⟩

/-- How many pockets pieces have. -/
def countOf (l : List Piece) : Int := (l.map fun x => x.2.1 - x.1 + 1).sum

theorem countOf_snoc (l : List Piece) (x : Piece) : countOf (l ++ [x]) = countOf l + (x.2.1 - x.1 + 1) := by simp [countOf]

theorem holds_cell {hs : List Piece} : ∀ (k : Nat) (x : Piece), hs[k]? = some x → ∀ j, j < 5 → (hs.flatMap holdCells)[k * 5 + j]? = (holdCells x)[j]? := by
  induction hs with
  | nil => intro k x h; simp at h
  | cons y l ih =>
    intro k x h j hj
    cases k with
    | zero =>
      simp at h; subst h
      rw [List.flatMap_cons, List.getElem?_append_left (by simp [holdCells]; omega)]
      simp
    | succ k =>
      rw [List.flatMap_cons, List.getElem?_append_right (by simp [holdCells]; omega)]
      have := ih k x (by simpa using h) j hj
      rw [← this]
      simp [holdCells]
      congr 1
      omega

theorem count_nonneg {l : List Piece} (h : ∀ x ∈ l, x.1 ≤ x.2.1) : 0 ≤ countOf l := by
  induction l with
  | nil => simp [countOf]
  | cons x l ih =>
    have h1 := h x (by simp)
    have h2 := ih (fun y hy => h y (by simp [hy]))
    simp [countOf] at h2 ⊢
    omega

theorem count_take {l : List Piece} (h : ∀ x ∈ l, x.1 ≤ x.2.1) (k : Nat) : 0 ≤ countOf (l.take k) ∧ countOf (l.take k) ≤ countOf l := by
  have h1 := count_nonneg (l := l.take k) (fun x hx => h x (List.mem_of_mem_take hx))
  have h2 := count_nonneg (l := l.drop k) (fun x hx => h x (List.mem_of_mem_drop hx))
  have h3 : countOf l = countOf (l.take k) + countOf (l.drop k) := by
    unfold countOf
    rw [List.map_take, List.map_drop, ← List.sum_append, List.take_append_drop]
  omega

theorem count_cover {f : Int → Pk} {q : Piece → Bool} : ∀ {l : List Piece} {a c : Int}, Cover f a c l → (∀ x ∈ l, x.1 ≤ x.2.1) ∧ countOf (l.filter q) ≤ c + 1 - a
  | [], a, c, h => by have : c + 1 = a := h; simp [countOf]; omega
  | x :: l, a, c, ⟨h1, h2, _, h4⟩ => by
    obtain ⟨k1, k2⟩ := count_cover (q := q) h4
    refine ⟨fun y hy => ?_, ?_⟩
    · rcases List.mem_cons.1 hy with rfl | hy
      · exact h2
      · exact k1 y hy
    · rw [List.filter_cons]
      split
      · simp [countOf] at k2 ⊢; omega
      · omega

set_option maxRecDepth 100000 in
set_option maxHeartbeats 1000000 in
theorem Count_ok (B s : Nat) (v : Value) (bs : List Nat) (Ts : List Tree) (m : Int) (ver : Nat) (w : World) (hS : StockAt B w s v bs Ts) (hver : ver ≤ bs.length) (hm : inB 1000 m = true) (hok : (treeOf Ts ver).ok 1 1000000) :
    Calls Try.prog 24 #[.pointer (some ⟨s, 0, none⟩), .int .i64 m, .int .i64 ver] w fun e w' => e = .returned (.tuple #[.int .i64 (countOf (ownedBy (fun p => p.own) m (runsT 1 1000000 (treeOf Ts ver)))), .int .i64 0]) ∧ Adds w w' := by
  have HS := Lib.hid hS
  have HM := Lib.hid hm
  have hcv := count_cover (q := fun x => decide ((fun p : Pk => p.own) x.2.2 = m)) (runs_cover (a := 1) (c := 1000000) hok (by omega) (by omega) (by omega))
  have hle : ∀ x ∈ ownedBy (fun p => p.own) m (runsT 1 1000000 (treeOf Ts ver)), x.1 ≤ x.2.1 := fun x hx => hcv.1 x (List.mem_filter.1 hx).1
  have htot : countOf (ownedBy (fun p => p.own) m (runsT 1 1000000 (treeOf Ts ver))) ≤ 1000000 := by have := hcv.2; unfold ownedBy; omega
  have hlen : (ownedBy (fun p => p.own) m (runsT 1 1000000 (treeOf Ts ver))).length ≤ 1000000 := by
    have a1 : (ownedBy (fun p => p.own) m (runsT 1 1000000 (treeOf Ts ver))).length ≤ (runsT 1 1000000 (treeOf Ts ver)).length := List.length_filter_le _ _
    have a2 := (runs_cover (a := 1) (c := 1000000) hok (by omega) (by omega) (by omega)).length
    omega
  clear hS hm hcv hok
  generalize hhs : ownedBy (fun p => p.own) m (runsT 1 1000000 (treeOf Ts ver)) = hs at *
  have HHS := Lib.hid hhs
  have HLE := Lib.hid hle
  have HTOT := Lib.hid htot
  clear hhs hle htot
  go_enter Try.func24, Try.ntmps24
  go_wp2_with (go_at_call 22; refine (Holds_ok B s v bs Ts m ver _ HS.out hver HM.out).mono ?_; rintro e w1 ⟨hv, rfl, hr, hb⟩; rw [HHS.out] at hr; have hform := hr.2; have HR := Lib.hid hr; clear hr; rcases hform with ⟨rfl, hn⟩ | ⟨g, cap, cur, rfl, hg, hh, hcap, _⟩)
  · have HN := Lib.hid (List.length_eq_zero_iff.1 hn)
    clear hn
    refine wp_loop_once ?_
    go_wp2
    go_ret2
    exact ⟨by rw [HN.out]; rfl, hb⟩
  · have HH := Lib.hid hh
    clear hh
    go_loopw [10, 22] (fun nv i wr => ∃ k : Nat, k ≤ hs.length ∧ i = .int .i64 k ∧ nv = .int .i64 (countOf (hs.take k)) ∧ Adds w1 wr) (fun _ i _ => hs.length - (intOf i).toNat)
    case atStart => exact ⟨0, Nat.zero_le _, rfl, rfl, Adds.refl _⟩
    case round =>
      obtain ⟨k, hk, rfl, rfl, ha⟩ := hrel
      have hct := count_take HLE.out k
      have hct2 := count_take HLE.out (k + 1)
      have htt := HTOT.out
      by_cases hlt : k < hs.length
      · have hx : hs[k]? = some (hs[k]'hlt) := List.getElem?_eq_getElem hlt
        have hcell : ∀ j, j < 5 → wr.cell? ⟨g, k * 5 + j, none⟩ = (holdCells (hs[k]'hlt))[j]? := fun j hj => by
          have h1 := HR.out.cellAt (k * 5 + j) (by omega)
          rw [holds_cell k _ hx j hj] at h1
          rw [← h1]
          exact ha.cell (p := ⟨g, k * 5 + j, none⟩) (by exact (Array.getElem?_eq_some_iff.1 HH.out).1)
        have hsnoc : hs.take (k + 1) = hs.take k ++ [hs[k]'hlt] := List.take_succ_eq_append_getElem hlt
        have c0 := hcell 0 (by omega)
        have c1 := hcell 1 (by omega)
        have c2 := hcell 2 (by omega)
        have c3 := hcell 3 (by omega)
        have c4 := hcell 4 (by omega)
        generalize hs[k]'hlt = x at *
        have HS2 := Lib.hid hsnoc
        have hcs : countOf (hs.take (k + 1)) = countOf (hs.take k) + (x.2.1 - x.1 + 1) := by rw [hsnoc, countOf_snoc]
        have HCS := Lib.hid hcs
        rw [hcs] at hct2
        clear hx hcell hsnoc hcs
        simp only [holdCells, List.getElem?_cons_zero, List.getElem?_cons_succ, Nat.add_zero] at c0 c1 c2 c3 c4
        go_wp2
        exact ⟨⟨k + 1, by omega, by go_num, by rw [HCS.out], ha.alloc _⟩, by simp [intOf]; omega⟩
      · go_wp2
        go_ret2
        exact ⟨by show Ending.returned (.tuple #[.int .i64 (countOf (hs.take k)), .int .i64 0]) = _; rw [List.take_of_length_le (by omega)], hb.trans ha⟩

end Go.Proofs.Ytofaioabjkcaiaa
