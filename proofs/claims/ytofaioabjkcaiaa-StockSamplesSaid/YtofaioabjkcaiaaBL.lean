/- compare: the pieces in which two trees differ, one after the other. -/
import Derived.Test.YtofaioabjkcaiaaBK
import Derived.Test.YtofaioabjkcaiaaI
import Derived.LaidEqlPtr
import Derived.Stop.RegionWithIn
namespace Go.Proofs.Ytofaioabjkcaiaa
open Go.RowKit

abbrev encD (x : Int × Int) : Array Value := #[.agg #[.int .i64 x.1, .int .i64 x.2]]

/-- What is known of the loop's body to which compare hands its pieces. -/
structure YieldsL (l : Nat) (L : List (Int × Int)) (J Jx : (Nat → Prop) → List (Int × Int) → World → Prop) : Prop where
  lt : ∀ O pre V, J O pre V → ∀ k, O k → k < V.heap.size
  st : ∀ O pre V V', J O pre V → Adds V V' → J O pre V'
  stx : ∀ O pre V V', Jx O pre V → Adds V V' → Jx O pre V'
  call : ∀ O pre (x : Int × Int) rest V, pre ++ x :: rest = L → J O pre V → YieldAt Fence.wide 0 Try.prog l (encD x) V (Yielded (fun k => k = l) J Jx O V (pre ++ [x]))

theorem NodeAt.one {w : World} {b : Nat} {lo hi lo' hi' : Int} {p p' : Pk} {l r l' r' : Option Addr} (h : NodeAt w b lo hi p l r) (h' : NodeAt w b lo' hi' p' l' r') : lo = lo' ∧ hi = hi' ∧ p = p' ∧ l = l' ∧ r = r' := by
  obtain ⟨c0, c1, c2, c3, c4, c5, c6, c7, _⟩ := h
  obtain ⟨d0, d1, d2, d3, d4, d5, d6, d7, _⟩ := h'
  rw [c0] at d0; rw [c1] at d1; rw [c2] at d2; rw [c3] at d3; rw [c4] at d4; rw [c5] at d5; rw [c6] at d6; rw [c7] at d7
  simp at d0 d1 d2 d3 d4 d5 d6 d7
  refine ⟨d0, d1, ?_, d6, d7⟩
  cases p; cases p'
  simp_all

/-- What lies in a block is one tree. -/
theorem IsTree.one {w : World} : ∀ {t t' : Tree} {b : Nat}, IsTree w b t → IsTree w b t' → t = t'
  | .leaf _ _ _, .leaf _ _ _, _, h, h' => by obtain ⟨rfl, rfl, rfl, _⟩ := NodeAt.one h h'; rfl
  | .leaf _ _ _, .node _ _ _ _ _, _, h, ⟨bl, br, h', _⟩ => by obtain ⟨_, _, _, h4, _⟩ := NodeAt.one h h'; simp at h4
  | .node _ _ _ _ _, .leaf _ _ _, _, ⟨bl, br, h, _⟩, h' => by obtain ⟨_, _, _, h4, _⟩ := NodeAt.one h h'; simp at h4
  | .node _ _ _ _ _, .node _ _ _ _ _, _, ⟨bl, br, h, hl, hr⟩, ⟨bl', br', h', hl', hr'⟩ => by
    obtain ⟨rfl, rfl, rfl, h4, h5⟩ := NodeAt.one h h'
    simp at h4 h5
    subst h4 h5
    rw [hl.one hl', hr.one hr']

theorem eql_pk (p s : Pk) (w : World) : (binOp .eql 44 p.val s.val).run Try.prog w = .ok (.bool (decide (p = s))) w := by
  by_cases h : p = s
  · subst h
    simp [Pk.val, go_sem]
  · have hn := pk_ne h
    by_cases k0 : p.st = s.st
    · by_cases k1 : p.lot = s.lot
      · by_cases k2 : p.own = s.own
        · have k3 : p.hold ≠ s.hold := fun k3 => hn ⟨k0, k1, k2, k3⟩
          simp [Pk.val, go_sem, k0, k1, k2, k3, h]
        · simp [Pk.val, go_sem, k0, k1, k2, h]
      · simp [Pk.val, go_sem, k0, k1, h]
    · simp [Pk.val, go_sem, k0, h]

set_option maxHeartbeats 800000 in
/-- The halves of a leaf are new. -/
theorem halves_new (b : Nat) (lo hi : Int) (p : Pk) (w : World) (h : NodeAt w b lo hi p none none) (h1 : 1 ≤ lo) (h2 : lo < hi) (h3 : hi ≤ 1000000) :
    Calls Try.prog 115 #[.pointer (some ⟨b, 0, none⟩)] w fun e w' => ∃ bl br, e = .returned (.tuple #[.pointer (some ⟨bl, 0, none⟩), .pointer (some ⟨br, 0, none⟩)]) ∧ Adds w w' ∧
      NodeAt w' bl lo (mid lo hi) p none none ∧ NodeAt w' br (mid lo hi + 1) hi p none none ∧ w.heap.size ≤ bl ∧ w.heap.size ≤ br := by
  obtain ⟨c0, c1, c2, c3, c4, c5, c6, c7, cbx⟩ := h
  go_enter Try.func115, Try.ntmps115
  go_wp2_with (go_at_call 98; refine (uniform_leaf b _ (by assumption)).mono ?_; rintro e w' ⟨rfl, rfl⟩)
  have t1 : (hi - lo).tdiv 2 = (hi - lo) / 2 := Int.tdiv_eq_ediv_of_nonneg (by omega)
  have hm := mid_bd h2
  have s4 := i64_in ((hi - lo) / 2) (by omega) (by omega)
  have s5 : IntKind.i64.wrap (lo + (hi - lo) / 2) = mid lo hi := i64_in (mid lo hi) (by omega) (by omega)
  have s6 := i64_in (mid lo hi + 1) (by omega) (by omega)
  have s1 := i64_in (hi - lo) (by omega) (by omega)
  have s2 := i64_in (hi - lo + 1) (by omega) (by omega)
  have s3 := i64_in (hi - lo + 1 - 1) (by omega) (by omega)
  go_region_held3 (fun w' => w'.cell? ⟨b, 0, none⟩ = some (.int .i64 lo) ∧ w'.cell? ⟨b, 1, none⟩ = some (.int .i64 hi) ∧
  w'.cell? ⟨b, 2, none⟩ = some (.int .i64 p.st) ∧ w'.cell? ⟨b, 3, none⟩ = some (.int .i64 p.lot) ∧ w'.cell? ⟨b, 4, none⟩ = some (.int .i64 p.own) ∧ w'.cell? ⟨b, 5, none⟩ = some (.int .i64 p.hold) ∧
  w'.cell? ⟨b, 6, none⟩ = some (.pointer none) ∧ w'.cell? ⟨b, 7, none⟩ = some (.pointer none))
   (first | go_keep | exact ⟨keep_cell1 hb c0, keep_cell1 hb c1, keep_cell1 hb c2, keep_cell1 hb c3, keep_cell1 hb c4, keep_cell1 hb c5, keep_cell1 hb c6, keep_cell1 hb c7⟩)
   ((go_simp; go_at_call 67; refine (count_any lo hi _ (by omega) (by omega) (by omega) (by omega)).mono ?_; rintro e w1 ⟨rfl, hb⟩))
  have hn1 : NodeAt w1 b lo hi p none none := NodeAt.later (w := w.drew) ⟨c0, c1, c2, c3, c4, c5, c6, c7, cbx⟩ hb
  have hsz : w.heap.size ≤ w1.heap.size := hb.size
  clear c0 c1 c2 c3 c4 c5 c6 c7
  obtain ⟨c0, c1, c2, c3, c4, c5, c6, c7, _⟩ := hn1
  go_wp2
  go_region_held3 (fun w' => w'.cell? ⟨b, 0, none⟩ = some (.int .i64 lo) ∧ w'.cell? ⟨b, 1, none⟩ = some (.int .i64 hi) ∧
  w'.cell? ⟨b, 2, none⟩ = some (.int .i64 p.st) ∧ w'.cell? ⟨b, 3, none⟩ = some (.int .i64 p.lot) ∧ w'.cell? ⟨b, 4, none⟩ = some (.int .i64 p.own) ∧ w'.cell? ⟨b, 5, none⟩ = some (.int .i64 p.hold) ∧
  w'.cell? ⟨b, 6, none⟩ = some (.pointer none) ∧ w'.cell? ⟨b, 7, none⟩ = some (.pointer none))
   (first | go_keep | exact ⟨keep_cell1 hb c0, keep_cell1 hb c1, keep_cell1 hb c2, keep_cell1 hb c3, keep_cell1 hb c4, keep_cell1 hb c5, keep_cell1 hb c6, keep_cell1 hb c7⟩)
   (fail)
  go_wp2
  go_region_held3 (fun w' => w'.cell? ⟨b, 0, none⟩ = some (.int .i64 lo) ∧ w'.cell? ⟨b, 1, none⟩ = some (.int .i64 hi) ∧
  w'.cell? ⟨b, 2, none⟩ = some (.int .i64 p.st) ∧ w'.cell? ⟨b, 3, none⟩ = some (.int .i64 p.lot) ∧ w'.cell? ⟨b, 4, none⟩ = some (.int .i64 p.own) ∧ w'.cell? ⟨b, 5, none⟩ = some (.int .i64 p.hold) ∧
  w'.cell? ⟨b, 6, none⟩ = some (.pointer none) ∧ w'.cell? ⟨b, 7, none⟩ = some (.pointer none))
   (first | go_keep | exact ⟨keep_cell1 hb c0, keep_cell1 hb c1, keep_cell1 hb c2, keep_cell1 hb c3, keep_cell1 hb c4, keep_cell1 hb c5, keep_cell1 hb c6, keep_cell1 hb c7⟩)
   (fail)
  go_wp2
  go_ret2
  refine ⟨_, _, rfl, ?_, ?_, ?_, ?_, ?_⟩
  · exact ((((((Adds.refl w).drew).trans hb).alloc _).alloc _).drew).drew
  · refine ⟨by go_simp, by go_simp, by go_simp, by go_simp, by go_simp, by go_simp, by go_simp, by go_simp, ?_⟩
    exact ((((Plain.new _ _).later ((Adds.refl _).alloc _)).later (Adds.refl _).drew)).later (Adds.refl _).drew
  · refine ⟨by go_simp, by go_simp, by go_simp, by go_simp, by go_simp, by go_simp, by go_simp, by go_simp, ?_⟩
    exact (((Plain.next _ _ _).later (Adds.refl _).drew)).later (Adds.refl _).drew
  · first | exact hsz | (simp; omega) | omega
  · first | exact hsz | (simp; omega) | omega

/-- The halves of a tree of more than one pocket lie where it lies, or are new. -/
theorem halves_in (Pr : Nat → Prop) (b : Nat) (t : Tree) (lo hi : Int) (w : World) (ht : TreeIn Pr w b t) (hok : t.ok lo hi) (h1 : 1 ≤ lo) (h2 : lo < hi) (h3 : hi ≤ 1000000) :
    Calls Try.prog 115 #[.pointer (some ⟨b, 0, none⟩)] w fun e w' => ∃ bl br, e = .returned (.tuple #[.pointer (some ⟨bl, 0, none⟩), .pointer (some ⟨br, 0, none⟩)]) ∧ Adds w w' ∧
      TreeIn (fun k => Pr k ∨ w.heap.size ≤ k) w' bl t.halfL ∧ TreeIn (fun k => Pr k ∨ w.heap.size ≤ k) w' br t.halfR := by
  cases t with
  | leaf x y p =>
    obtain ⟨rfl, rfl, _⟩ := hok
    refine (halves_new b _ _ p w ht.2 h1 h2 h3).mono ?_
    rintro e w' ⟨bl, br, he, ha, hl, hr, k1, k2⟩
    exact ⟨bl, br, he, ha, ⟨Or.inr k1, hl⟩, ⟨Or.inr k2, hr⟩⟩
  | node x y p l r =>
    obtain ⟨rfl, rfl, _, ol, or⟩ := hok
    obtain ⟨_, bl, br, hn, hl, hr⟩ := ht
    refine (halves_node b bl br _ _ p w hn).mono ?_
    rintro e w' ⟨he, ha⟩
    exact ⟨bl, br, he, ha, (hl.later ha).mono (fun _ => Or.inl), (hr.later ha).mono (fun _ => Or.inl)⟩

theorem info126 : (Try.prog.info? 126).map (fun i => i.size) = some 8 := by kernel_rfl

theorem eql_ptr (b : Nat) (w : World) : (binOp .eql 112 (.pointer (some ⟨b, 0, none⟩)) (.pointer (some ⟨b, 0, none⟩))).run Try.prog w = .ok (.bool true) w := by
  obtain ⟨j, hj, _⟩ := Option.map_eq_some_iff.1 info126
  exact run_eql_ptr_same w _ Try.underlying112 hj

theorem neq_ptr {b b' : Nat} {w : World} (h : b ≠ b') (hp : Plain w b) (hp' : Plain w b') : (binOp .eql 112 (.pointer (some ⟨b, 0, none⟩)) (.pointer (some ⟨b', 0, none⟩))).run Try.prog w = .ok (.bool false) w := by
  obtain ⟨j, hj, hs⟩ := Option.map_eq_some_iff.1 info126
  obtain ⟨cs, h1⟩ := hp
  obtain ⟨cs', h2⟩ := hp'
  exact run_eql_ptr_other w Try.underlying112 hj (by rw [hs]; decide) (fun e => h (by injection e)) h1 h2

theorem TreeIn.plain {Pr : Nat → Prop} {w : World} {t : Tree} {b : Nat} (h : TreeIn Pr w b t) : Plain w b := by
  cases t with
  | leaf => exact h.2.2.2.2.2.2.2.2.2
  | node => obtain ⟨_, _, _, h, _⟩ := h; exact h.2.2.2.2.2.2.2.2

set_option maxRecDepth 100000 in
set_option maxHeartbeats 1000000 in
/-- One and the same tree. -/
theorem cmp_same (b : Nat) (yv : Value) (w : World) : Calls Try.prog 103 #[.pointer (some ⟨b, 0, none⟩), .pointer (some ⟨b, 0, none⟩), yv] w fun e w' => e = .returned (.bool true) ∧ w = w' := by
  have he := eql_ptr b w
  go_enter Try.func103, Try.ntmps103
  go_wp2_with fail
  go_ret
  exact ⟨rfl, rfl⟩

set_option maxRecDepth 100000 in
set_option maxHeartbeats 1000000 in
/-- Two leaves of one state. -/
theorem cmp_alike (b b' : Nat) (yv : Value) (p : Pk) (lo hi lo' hi' : Int) (w : World) (hne : b ≠ b') (h : NodeAt w b lo hi p none none) (h' : NodeAt w b' lo' hi' p none none) :
    Calls Try.prog 103 #[.pointer (some ⟨b, 0, none⟩), .pointer (some ⟨b', 0, none⟩), yv] w fun e w' => e = .returned (.bool true) ∧ Adds w w' := by
  obtain ⟨c0, c1, c2, c3, c4, c5, c6, c7, cbx⟩ := h
  obtain ⟨d0, d1, d2, d3, d4, d5, d6, d7, dbx⟩ := h'
  have he := neq_ptr hne cbx dbx
  have hn : ∀ w', (binOp .eql 44 p.val p.val).run Try.prog w' = .ok (.bool true) w' := fun w' => by rw [eql_pk]; simp
  go_enter Try.func103, Try.ntmps103
  go_upto_region 4 with (first
    | (go_at_call_of 98 (Value.pointer (some (⟨b, 0, none⟩ : Addr))); refine (uniform_leaf b _ (by assumption)).mono ?_; rintro e w' ⟨rfl, rfl⟩)
    | (go_at_call_of 98 (Value.pointer (some (⟨b', 0, none⟩ : Addr))); refine (uniform_leaf b' _ (by assumption)).mono ?_; rintro e w' ⟨rfl, rfl⟩))
  go_quiet (fail)
  go_wp2
  go_ret
  exact ⟨rfl, (Adds.refl _).drewN _⟩

end Go.Proofs.Ytofaioabjkcaiaa
