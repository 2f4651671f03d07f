/- Halves, with, pieces. -/
import Derived.Test.YtofaioabjkcaiaaB
namespace Go.Proofs.Ytofaioabjkcaiaa
open Go.RowKit

set_option maxHeartbeats 400000 in
theorem halves_node (b bl br : Nat) (lo hi : Int) (p : Pk) (w : World) (h : NodeAt w b lo hi p (some ⟨bl, 0, none⟩) (some ⟨br, 0, none⟩)) :
    Calls Try.prog 115 #[.pointer (some ⟨b, 0, none⟩)] w fun e w' => e = .returned (.tuple #[.pointer (some ⟨bl, 0, none⟩), .pointer (some ⟨br, 0, none⟩)]) ∧ Adds w w' := by
  obtain ⟨c0, c1, c2, c3, c4, c5, c6, c7, cbx⟩ := h
  go_enter Try.func115, Try.ntmps115
  go_wp2_with (go_at_call 98; refine (uniform_node b bl _ (by assumption)).mono ?_; rintro e w' ⟨rfl, rfl⟩)
  go_quiet (fail)
  go_wp2
  go_ret2
  exact ⟨rfl, (Adds.refl _).drewN _⟩

theorem keep_cell1 {w w' : World} (hb : Adds w w') {b o : Nat} {v : Value} (h : w.cell? ⟨b, o, none⟩ = some v) : w'.cell? ⟨b, o, none⟩ = some v :=
  (hb.cell (p := ⟨b, o, none⟩) (cell_lt h)).trans h

theorem i64_in (n : Int) (h1 : -9223372036854775808 ≤ n) (h2 : n ≤ 9223372036854775807) : IntKind.i64.wrap n = n := IntWalk.i64_in _ (by omega)

set_option maxHeartbeats 800000 in
theorem halves_leaf (b : Nat) (lo hi : Int) (p : Pk) (w : World) (h : NodeAt w b lo hi p none none) (h1 : 1 ≤ lo) (h2 : lo < hi) (h3 : hi ≤ 1000000) :
    Calls Try.prog 115 #[.pointer (some ⟨b, 0, none⟩)] w fun e w' => ∃ bl br, e = .returned (.tuple #[.pointer (some ⟨bl, 0, none⟩), .pointer (some ⟨br, 0, none⟩)]) ∧ Adds w w' ∧
      NodeAt w' bl lo (mid lo hi) p none none ∧ NodeAt w' br (mid lo hi + 1) hi p none none := by
  obtain ⟨c0, c1, c2, c3, c4, c5, c6, c7, cbx⟩ := h
  go_enter Try.func115, Try.ntmps115
  go_wp2_with (go_at_call 98; refine (uniform_leaf b _ (by assumption)).mono ?_; rintro e w' ⟨rfl, rfl⟩)
  have t1 : (hi - lo).tdiv 2 = (hi - lo) / 2 := Int.tdiv_eq_ediv_of_nonneg (by omega)
  have hm := mid_bd h2
  have s4 := i64_in ((hi - lo) / 2) (by omega) (by omega)
  have s5 : IntKind.i64.wrap (lo + (hi - lo) / 2) = mid lo hi := i64_in (mid lo hi) (by omega) (by omega)
  have s6 := i64_in (mid lo hi + 1) (by omega) (by omega)
  have s1 := i64_in (hi - lo) (by omega) (by omega)
  have s2 := i64_in (hi - lo + 1) (by omega) (by omega)
  have s3 := i64_in (hi - lo + 1 - 1) (by omega) (by omega)
  go_region_held3 (fun w' => w'.cell? ⟨b, 0, none⟩ = some (.int .i64 lo) ∧ w'.cell? ⟨b, 1, none⟩ = some (.int .i64 hi) ∧
  w'.cell? ⟨b, 2, none⟩ = some (.int .i64 p.st) ∧ w'.cell? ⟨b, 3, none⟩ = some (.int .i64 p.lot) ∧ w'.cell? ⟨b, 4, none⟩ = some (.int .i64 p.own) ∧ w'.cell? ⟨b, 5, none⟩ = some (.int .i64 p.hold) ∧
  w'.cell? ⟨b, 6, none⟩ = some (.pointer none) ∧ w'.cell? ⟨b, 7, none⟩ = some (.pointer none))
   (first | go_keep | exact ⟨keep_cell1 hb c0, keep_cell1 hb c1, keep_cell1 hb c2, keep_cell1 hb c3, keep_cell1 hb c4, keep_cell1 hb c5, keep_cell1 hb c6, keep_cell1 hb c7⟩)
   ((go_simp; go_at_call 67; refine (count_any lo hi _ (by omega) (by omega) (by omega) (by omega)).mono ?_; rintro e w1 ⟨rfl, hb⟩))
  have hn1 : NodeAt w1 b lo hi p none none := NodeAt.later (w := w.drew) ⟨c0, c1, c2, c3, c4, c5, c6, c7, cbx⟩ hb
  clear c0 c1 c2 c3 c4 c5 c6 c7
  obtain ⟨c0, c1, c2, c3, c4, c5, c6, c7, _⟩ := hn1
  go_wp2
  go_region_held3 (fun w' => w'.cell? ⟨b, 0, none⟩ = some (.int .i64 lo) ∧ w'.cell? ⟨b, 1, none⟩ = some (.int .i64 hi) ∧
  w'.cell? ⟨b, 2, none⟩ = some (.int .i64 p.st) ∧ w'.cell? ⟨b, 3, none⟩ = some (.int .i64 p.lot) ∧ w'.cell? ⟨b, 4, none⟩ = some (.int .i64 p.own) ∧ w'.cell? ⟨b, 5, none⟩ = some (.int .i64 p.hold) ∧
  w'.cell? ⟨b, 6, none⟩ = some (.pointer none) ∧ w'.cell? ⟨b, 7, none⟩ = some (.pointer none))
   (first | go_keep | exact ⟨keep_cell1 hb c0, keep_cell1 hb c1, keep_cell1 hb c2, keep_cell1 hb c3, keep_cell1 hb c4, keep_cell1 hb c5, keep_cell1 hb c6, keep_cell1 hb c7⟩)
   (fail)
  go_wp2
  go_region_held3 (fun w' => w'.cell? ⟨b, 0, none⟩ = some (.int .i64 lo) ∧ w'.cell? ⟨b, 1, none⟩ = some (.int .i64 hi) ∧
  w'.cell? ⟨b, 2, none⟩ = some (.int .i64 p.st) ∧ w'.cell? ⟨b, 3, none⟩ = some (.int .i64 p.lot) ∧ w'.cell? ⟨b, 4, none⟩ = some (.int .i64 p.own) ∧ w'.cell? ⟨b, 5, none⟩ = some (.int .i64 p.hold) ∧
  w'.cell? ⟨b, 6, none⟩ = some (.pointer none) ∧ w'.cell? ⟨b, 7, none⟩ = some (.pointer none))
   (first | go_keep | exact ⟨keep_cell1 hb c0, keep_cell1 hb c1, keep_cell1 hb c2, keep_cell1 hb c3, keep_cell1 hb c4, keep_cell1 hb c5, keep_cell1 hb c6, keep_cell1 hb c7⟩)
   (fail)
  go_wp2
  go_ret2
  refine ⟨_, _, rfl, ?_, ?_, ?_⟩
  · exact ((((((Adds.refl w).drew).trans hb).alloc _).alloc _).drew).drew
  · refine ⟨by go_simp, by go_simp, by go_simp, by go_simp, by go_simp, by go_simp, by go_simp, by go_simp, ?_⟩
    exact ((((Plain.new _ _).later ((Adds.refl _).alloc _)).later (Adds.refl _).drew)).later (Adds.refl _).drew
  · refine ⟨by go_simp, by go_simp, by go_simp, by go_simp, by go_simp, by go_simp, by go_simp, by go_simp, ?_⟩
    exact (((Plain.next _ _ _).later (Adds.refl _).drew)).later (Adds.refl _).drew
theorem look_node {a b : Int} {p : Pk} {l r : Tree} {n : Int} : (Tree.node a b p l r).look n = if n ≤ l.hi then l.look n else r.look n := rfl

theorem halves_any (b : Nat) (t : Tree) (lo hi : Int) (w : World) (ht : IsTree w b t) (hok : t.ok lo hi) (h1 : 1 ≤ lo) (h2 : lo < hi) (h3 : hi ≤ 1000000) :
    Calls Try.prog 115 #[.pointer (some ⟨b, 0, none⟩)] w fun e w' => ∃ bl br tl tr, e = .returned (.tuple #[.pointer (some ⟨bl, 0, none⟩), .pointer (some ⟨br, 0, none⟩)]) ∧ Adds w w' ∧
      IsTree w' bl tl ∧ IsTree w' br tr ∧ tl.ok lo (mid lo hi) ∧ tr.ok (mid lo hi + 1) hi ∧ (∀ n, n ≤ mid lo hi → tl.look n = t.look n) ∧ (∀ n, mid lo hi < n → tr.look n = t.look n) := by
  have hm := mid_bd h2
  cases t with
  | leaf x y p =>
    obtain ⟨rfl, rfl, _⟩ := hok
    refine (halves_leaf b _ _ p w ht h1 h2 h3).mono ?_
    rintro e w' ⟨bl, br, he, ha, hl, hr⟩
    exact ⟨bl, br, .leaf _ _ p, .leaf _ _ p, he, ha, hl, hr, ⟨rfl, rfl, hm.1⟩, ⟨rfl, rfl, by omega⟩, fun _ _ => rfl, fun _ _ => rfl⟩
  | node x y p l r =>
    obtain ⟨rfl, rfl, _, ol, or⟩ := hok
    obtain ⟨bl, br, hn, hl, hr⟩ := ht
    refine (halves_node b bl br _ _ p w hn).mono ?_
    rintro e w' ⟨he, ha⟩
    have e1 := Tree.ok_hi ol
    exact ⟨bl, br, l, r, he, ha, hl.later ha, hr.later ha, ol, or, fun n hn => by rw [look_node, if_pos (by omega)], fun n hn => by rw [look_node, if_neg (by omega)]⟩

end Go.Proofs.Ytofaioabjkcaiaa
