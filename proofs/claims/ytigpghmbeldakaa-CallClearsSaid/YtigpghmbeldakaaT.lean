/- A stable sort of numbers of bids, of at most 19. -/
import Derived.Test.YtigpghmbeldakaaS
import Derived.Test.YtigpghmbeldakaaSH
import Derived.Sort.LotA
namespace Go.Proofs.Ytigpghmbeldakaa
open Go.RowKit Go.Sort

/-- Equal ones stand in the order of their numbers. -/
def Stab {N : Nat} [Inhabited (Fin N)] (key : Nat → Int) (d : Array (Fin N)) : Prop := ∀ p q, p < q → q < d.size → key d[p]!.val = key d[q]!.val → d[p]!.val < d[q]!.val

section
variable {N : Nat} [Inhabited (Fin N)] {key : Nat → Int}

theorem Stab.swap {d : Array (Fin N)} (h : Stab key d) {j : Nat} (hj : j + 1 < d.size) (hl : key d[j + 1]!.val < key d[j]!.val) : Stab key (swp d (j + 1) j) := by
  intro p q hpq hq
  have g := swp_get d hj (show j < d.size by omega)
  rw [size_swp] at hq
  rw [g, g]
  by_cases q1 : q = j
  · have p1 : p ≠ j := by omega
    have p2 : p ≠ j + 1 := by omega
    simp only [q1, p1, p2, if_true, if_false]
    exact h p (j + 1) (by omega) hj
  · by_cases q2 : q = j + 1
    · subst q2
      by_cases p1 : p = j
      · subst p1
        simp only [show ¬ (p + 1 = p) by omega, if_true, if_false]
        intro e
        omega
      · have p2 : p ≠ j + 1 := by omega
        simp only [q1, p1, p2, if_true, if_false]
        exact h p j (by omega) (by omega)
    · simp only [q1, q2, if_false]
      by_cases p1 : p = j
      · subst p1
        simp only [if_true]
        exact h (p + 1) q (by omega) hq
      · by_cases p2 : p = j + 1
        · subst p2
          simp only [p1, if_true, if_false]
          exact h j q (by omega) hq
        · simp only [p1, p2, if_false]
          exact h p q hpq hq

theorem Stab.inner (a : Nat) : ∀ (j : Nat) (d : Array (Fin N)), j < d.size → Stab key d → Stab key (insInner (fun x y => decide (key x.val < key y.val)) a j d) ∧ (insInner (fun x y => decide (key x.val < key y.val)) a j d).size = d.size
  | 0, d, _, h => ⟨h, rfl⟩
  | j + 1, d, hj, h => by
    rw [insInner]
    split
    · rename_i hc
      simp only [gt_iff_lt, Bool.and_eq_true, decide_eq_true_eq] at hc
      obtain ⟨h1, h2⟩ := Stab.inner a j (swp d (j + 1) j) (by rw [size_swp]; omega) (h.swap hj hc.2)
      exact ⟨h1, h2.trans (size_swp _ _ _)⟩
    · exact ⟨h, rfl⟩

theorem Stab.outer (a b : Nat) : ∀ (n i : Nat) (d : Array (Fin N)), b - i ≤ n → b ≤ d.size → Stab key d → Stab key (insOuter (fun x y => decide (key x.val < key y.val)) a b i d)
  | 0, i, d, hn, _, h => by rw [insOuter, if_neg (by omega)]; exact h
  | n + 1, i, d, hn, hb, h => by
    rw [insOuter]
    split
    · rename_i hi
      obtain ⟨h1, h2⟩ := Stab.inner a i d (by omega) h
      exact Stab.outer a b n (i + 1) _ (by omega) (by omega) h1
    · exact h
end

/-- Sorted by the keys, equal ones by their numbers. -/
def LexSorted (key : Nat → Int) (l : List Int) : Prop := l.Pairwise fun x y => key x.toNat < key y.toNat ∨ key x.toNat = key y.toNat ∧ x < y

/-- What a stable sort of numbers leaves. -/
def StableGot (key : Nat → Int) (g cap : Nat) (ns : List Int) (w : World) (e : Ending) (w' : World) : Prop :=
  e = .returned (.tuple #[]) ∧ ∃ ns', ns'.Perm ns ∧ LexSorted key ns' ∧ RowI 3 .i64 w' g cap ns' ∧ Touch (fun k => k = g) w w'

/-- A stable sort of up to m numbers. -/
def StableUpTo (m : Nat) : Prop := ∀ (g cap gc : Nat) (cb : Array Value) (N : Nat) (key : Nat → Int) (ns : List Int) (w : World), ns.length ≤ m → (∀ x ∈ ns, 0 ≤ x ∧ x < N) → ns.Pairwise (fun x y => x < y) → RowI 3 .i64 w g cap ns →
  (∀ (args : Array Value) (w : World), (callFunc gc args).run Try.prog w = .ok (.enter gc args) w) →
  (∀ (i j : Nat), i < N → j < N → ∀ W, Touch (fun k => k = g) w W → Calls Try.prog gc (#[.int .i64 i, .int .i64 j] ++ cb) W fun e w' => e = .returned (.int .i64 (cmpT (key i) (key j))) ∧ ∃ q, w' = W.drewN q) →
  Calls Try.prog 79 #[.slice (some ⟨g, 0, none⟩) ns.length cap, .func (.func gc) #[] cb] w (StableGot key g cap ns w)

theorem sortWorld_touch {α : Type} [Inhabited α] (enc : α → Value) (w : World) (g : Nat) (m : Nat) (d : Array α) (os : Array Obj) : Touch (fun k => k = g) w (sortWorld enc w g 0 m d os) := by
  have hput : (putRow enc (Sort.ahead w m) g 0 d).heap = w.heap.modify g (onCells (putCells enc 0 d)) := rfl
  have hsz : (putRow enc (Sort.ahead w m) g 0 d).heap.size = w.heap.size := by rw [hput, Array.size_modify]
  refine ⟨rfl, rfl, rfl, ?_, ?_⟩
  · show w.heap.size ≤ ((putRow enc (Sort.ahead w m) g 0 d).heap ++ os).size
    rw [Array.size_append]; omega
  · intro k hk hn
    show ((putRow enc (Sort.ahead w m) g 0 d).heap ++ os)[k]? = _
    rw [Array.getElem?_append_left (by omega), hput, Array.getElem?_modify, if_neg (fun e => hn e.symm)]

theorem RowI.sorted {t : TypeId} {k : IntKind} {w : World} {g cap : Nat} {l : List Int} (h : RowI t k w g cap l) {α : Type} [Inhabited α] (f : α → Int) (d' : Array α) (hd : d'.size = l.length) (m : Nat) (os : Array Obj) :
    RowI t k (sortWorld (fun x => .int k (f x)) w g 0 m d' os) g cap (d'.toList.map f) := by
  have hlt := h.lt
  obtain ⟨cur, hg, hs, hl, hm, ht⟩ := h
  have hput : (putRow (fun x => Value.int k (f x)) (Sort.ahead w m) g 0 d').heap = w.heap.modify g (onCells (putCells (fun x => Value.int k (f x)) 0 d')) := rfl
  have hgp : (putRow (fun x => Value.int k (f x)) (Sort.ahead w m) g 0 d').heap[g]? = some (.cells (putCells (fun x => Value.int k (f x)) 0 d' cur) t (0, 0)) := by
    rw [hput, Array.getElem?_modify, if_pos rfl, hg]
    rfl
  have hsz : (putRow (fun x => Value.int k (f x)) (Sort.ahead w m) g 0 d').heap.size = w.heap.size := by rw [hput, Array.size_modify]
  refine ⟨putCells (fun x => Value.int k (f x)) 0 d' cur, ?_, by simp [putCells, hs], by simp [hd, hl], hm, ?_⟩
  · show ((putRow (fun x => Value.int k (f x)) (Sort.ahead w m) g 0 d').heap ++ os)[g]? = _
    rw [Array.getElem?_append_left (by omega)]
    exact hgp
  · apply List.ext_getElem?
    intro j
    rw [List.getElem?_take, List.length_map, Array.length_toList, List.map_map, List.getElem?_map, Array.getElem?_toList, Array.getElem?_toList]
    split
    · rename_i hj
      unfold putCells
      rw [Array.getElem?_mapIdx, Array.getElem?_eq_getElem (show j < cur.size by omega), Array.getElem?_eq_getElem hj]
      simp [hj]
    · rename_i hj
      rw [Array.getElem?_eq_none (by omega)]
      rfl

theorem cmp_lt (key : Nat → Int) {N : Nat} (x y : Fin N) : ltOf (fun x y : Fin N => cmpT (key x.val) (key y.val)) x y = decide (key x.val < key y.val) := by
  unfold ltOf
  exact cmpT_neg' _ _
where
  cmpT_neg' (a b : Int) : decide (cmpT a b < 0) = decide (a < b) := by
    unfold cmpT
    by_cases h : a < b
    · simp [h]
    · by_cases h' : b < a <;> simp [h, h']

theorem swoKey (key : Nat → Int) (N : Nat) : SWO (ltOf fun x y : Fin N => cmpT (key x.val) (key y.val)) where
  irrefl x := by rw [cmp_lt]; simp
  trans x y z h1 h2 := by rw [cmp_lt] at *; simp at *; omega
  ntrans x y z h1 h2 := by rw [cmp_lt] at *; simp at *; omega

theorem fins_of {N : Nat} : ∀ (ns : List Int), (∀ x ∈ ns, 0 ≤ x ∧ x < N) → ∃ ds : List (Fin N), ds.map (fun i => (i.val : Int)) = ns
  | [], _ => ⟨[], rfl⟩
  | x :: ns, h => by
    obtain ⟨ds, hd⟩ := fins_of ns (fun y hy => h y (by simp [hy]))
    obtain ⟨h1, h2⟩ := h x (by simp)
    exact ⟨⟨x.toNat, by omega⟩ :: ds, by simp [hd]; omega⟩

/-- What a sort by its contract off the library leaves, in words of the numbers. -/
theorem stable_fin {N : Nat} [Inhabited (Fin N)] (key : Nat → Int) (ds : List (Fin N)) (hasc : (ds.map fun i => (i.val : Int)).Pairwise (fun x y => x < y)) {d' : Array (Fin N)}
    (hp : PermIn 0 ds.toArray.size ds.toArray d') (hs : SortedIn (fun x y => decide (key x.val < key y.val)) 0 ds.toArray.size d') (hst : Stab key d') :
    (d'.toList.map fun i => (i.val : Int)).Perm (ds.map fun i => (i.val : Int)) ∧ LexSorted key (d'.toList.map fun i => (i.val : Int)) ∧ d'.size = ds.length := by
  obtain ⟨p1, _, p3⟩ := hp
  have hsz : d'.size = ds.length := by simpa using p1
  have e1 : d'.extract 0 ds.length = d' := by rw [← hsz]; simp
  rw [List.size_toArray] at p3
  rw [e1] at p3
  have hpm : d'.toList.Perm ds := by simpa using p3
  refine ⟨hpm.map _, ?_, hsz⟩
  unfold LexSorted
  rw [List.pairwise_map, List.pairwise_iff_getElem]
  intro i j hi hj hij
  have hi' : i < d'.size := by simpa using hi
  have hj' : j < d'.size := by simpa using hj
  have h1 := hs i j (Nat.zero_le _) hij (by rw [List.size_toArray]; omega)
  have h2 := hst i j hij hj'
  rw [getElem!_pos d' i hi', getElem!_pos d' j hj'] at h1 h2
  simp only [decide_eq_false_iff_not] at h1
  simp only [Array.getElem_toList, Int.toNat_natCast]
  by_cases he : key d'[i].val = key d'[j].val
  · right
    exact ⟨he, by have := h2 he; omega⟩
  · left
    omega

theorem stab_start {N : Nat} [Inhabited (Fin N)] (key : Nat → Int) (ds : List (Fin N)) (hasc : (ds.map fun i => (i.val : Int)).Pairwise (fun x y => x < y)) : Stab key ds.toArray := by
  intro p q hpq hq _
  rw [List.pairwise_map, List.pairwise_iff_getElem] at hasc
  have hq' : q < ds.length := by simpa using hq
  have hp' : p < ds.length := by omega
  have := hasc p q hp' hq' hpq
  rw [getElem!_pos ds.toArray p (by simpa using hp'), getElem!_pos ds.toArray q hq]
  simp only [List.getElem_toArray]
  omega

set_option maxRecDepth 100000 in
set_option maxHeartbeats 1000000 in
theorem stable94_of (R : Ending → World → Prop) (p : Option Addr) (cap gc n : Nat) (cb : Array Value) (w : World) (hn : n < 20) (hR : ∀ e w', R e w' → e = .returned (.tuple #[]))
    (h : Calls Try.prog 103 #[.slice p n cap, .int .i64 (0 : Nat), .int .i64 n, .func (.func gc) #[] cb] w R) :
    Calls Try.prog 79 #[.slice p n cap, .func (.func gc) #[] cb] w R := by
  have h' : Calls Try.prog 103 #[.slice p n cap, .int .i64 0, .int .i64 n, .func (.func gc) #[] cb] w R := h
  have HR := Lib.hid hR
  clear h hR
  have h94 : Calls Try.prog 94 #[.slice p n cap, .int .i64 n, .func (.func gc) #[] cb] w R := by
    go_enter Try.func94, Try.ntmps94
    go_wp2
    refine wp_loop_rounds 1 ?_
    rw [rounds_succ]
    go_wp2_with (go_at_call 103; refine h'.mono ?_; rintro e w1 hr; have hre := HR.out _ _ hr; subst hre; have HRR := Lib.hid hr; clear hr)
    refine wp_loop_rounds 1 ?_
    rw [rounds_succ]
    go_wp2
    go_end0
    exact HRR.out
  clear h'
  go_enter Try.func79, Try.ntmps79
  go_wp2_with (go_at_call 94; refine h94.mono ?_; rintro e w1 hr; have hre := HR.out _ _ hr; subst hre; have HRR := Lib.hid hr; clear hr)
  go_end0
  exact HRR.out

theorem stable19 : StableUpTo 19 := by
  intro g cap gc cb N key ns w hm hin hasc hr eg hcmp
  by_cases hz : ns.length = 0
  · have h0 : ns = [] := List.length_eq_zero_iff.1 hz
    subst h0
    have hn := insertionSortCmpFunc_none (α := Nat) (some ⟨g, 0, none⟩) cap (.func (.func gc) #[] cb) w
    refine stable94_of (StableGot key g cap [] w) (some ⟨g, 0, none⟩) cap gc 0 cb w (by omega) (fun e w' h => h.1) (hn.mono ?_)
    rintro e w' ⟨rfl, rfl⟩
    exact ⟨rfl, [], List.Perm.refl _, List.Pairwise.nil, hr, Touch.refl _ _⟩
  · obtain ⟨ds, rfl⟩ := fins_of ns hin
    have hN : 0 < N := by
      cases ds with
      | nil => simp at hz
      | cons a _ => exact Nat.lt_of_le_of_lt (Nat.zero_le _) a.isLt
    haveI : Inhabited (Fin N) := ⟨⟨0, hN⟩⟩
    have hlen : (ds.map fun i => (i.val : Int)).length = ds.length := List.length_map _
    have hsz : ds.toArray.size = ds.length := List.size_toArray
    have hH : Holds (fun x : Fin N => Value.int .i64 (x.val : Int)) w g 0 ds.toArray := fun j hj => by
      rw [hsz] at hj
      refine ⟨?_, by rw [Nat.zero_add]; exact hr.free j⟩
      rw [Nat.zero_add, getElem!_pos ds.toArray j (by rw [hsz]; exact hj)]
      exact hr.cell (by rw [List.getElem?_map, List.getElem?_eq_getElem hj]; rfl)
    have hcon := insertionSortCmpFunc_one (fun x : Fin N => Value.int .i64 (x.val : Int)) (fun _ => rfl) (fun x y => cmpT (key x.val) (key y.val)) gc cb g 0 cap 0 ds.toArray.size ds.toArray w eg
      (fun m os dk hs x y => hcmp x.val y.val x.isLt y.isLt _ (sortWorld_touch _ w g m dk os)) hH (Nat.zero_le _) (Nat.le_refl _) (by rw [hsz]; omega)
    have hsorts := insertionSort_holds (swoKey key N) ds.toArray 0 ds.toArray.size (Nat.zero_le _) (Nat.le_refl _)
    have hlt : (ltOf fun x y : Fin N => cmpT (key x.val) (key y.val)) = fun x y => decide (key x.val < key y.val) := by
      funext x y; exact cmp_lt key x y
    have hstab := Stab.outer (key := key) 0 ds.toArray.size ds.toArray.size (0 + 1) ds.toArray (by omega) (Nat.le_refl _) (stab_start key ds hasc)
    rw [hlt] at hsorts hcon
    obtain ⟨q1, q2, q3⟩ := stable_fin key ds hasc hsorts.1 hsorts.2 hstab
    rw [hlen]
    rw [hsz] at hcon
    refine stable94_of (StableGot key g cap (ds.map fun i => (i.val : Int)) w) (some ⟨g, 0, none⟩) cap gc ds.length cb w (by omega) (fun e w' h => h.1) (hcon.mono ?_)
    rintro e w' ⟨rfl, n, rfl⟩
    rw [hsz] at q1 q2 q3
    refine ⟨rfl, _, q1, q2, ?_, ?_⟩
    · have := hr.sorted (fun x : Fin N => (x.val : Int)) (insertionSort (fun x y => decide (key x.val < key y.val)) ds.toArray 0 ds.length) (by rw [hlen]; exact q3) n #[]
      rw [sortWorld_none] at this
      exact this
    · have := sortWorld_touch (fun x : Fin N => Value.int .i64 (x.val : Int)) w g n (insertionSort (fun x y => decide (key x.val < key y.val)) ds.toArray 0 ds.length) #[]
      rw [sortWorld_none] at this
      exact this

theorem stable_nil (cap gc : Nat) (cb : Array Value) (w : World) : Calls Try.prog 79 #[.slice none 0 cap, .func (.func gc) #[] cb] w fun e w' => e = .returned (.tuple #[]) ∧ w' = w := by
  have hn := insertionSortCmpFunc_none (α := Nat) none cap (.func (.func gc) #[] cb) w
  exact stable94_of _ none cap gc 0 cb w (by omega) (fun e w' h => h.1) hn

end Go.Proofs.Ytigpghmbeldakaa
