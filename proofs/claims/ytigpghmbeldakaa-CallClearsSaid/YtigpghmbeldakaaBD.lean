/- The stable sort of at most 40 numbers. -/
import Derived.Test.YtigpghmbeldakaaBC
namespace Go.Proofs.Ytigpghmbeldakaa
open Go.RowKit Go.Sort

theorem sym_all : ∀ n, SymAt n
  | 0 => fun g cap gc cb N key A L R B a m b len w hn hs => by have := hs.l0; omega
  | n + 1 => fun g cap gc cb N key A L R B a m b len w hn hs => by
    have h1 := hs.l0
    have h2 := hs.r0
    have h3 := hs.em
    have h4 := hs.eb
    by_cases c1 : L.length = 1
    · obtain ⟨x, rfl⟩ := List.length_eq_one_iff.1 c1
      obtain ⟨hx, _⟩ := hs.inN x (by simp)
      obtain ⟨k, rfl⟩ : ∃ k : Nat, x = (k : Int) := ⟨x.toNat, by omega⟩
      exact sym_left g cap gc cb N key A R B k a m b len w (by simpa using h3) hs
    · by_cases c2 : R.length = 1
      · obtain ⟨x, rfl⟩ := List.length_eq_one_iff.1 c2
        obtain ⟨hx, _⟩ := hs.inN x (by simp)
        obtain ⟨k, rfl⟩ : ∃ k : Nat, x = (k : Int) := ⟨x.toNat, by omega⟩
        exact sym_right g cap gc cb N key A L B k a m b len w (by omega) (by simpa using h4) hs
      · exact sym_rec n (sym_all n) g cap gc cb N key A L R B a m b len w hn (by omega) (by omega) hs

/-- Equal ones stand in the order of their numbers. -/
def StabL (key : Nat → Int) (ns : List Int) : Prop := ns.Pairwise fun x y => key x.toNat = key y.toNat → x < y

/-- One block is sorted. -/
structure Ins (key : Nat → Int) (a b : Nat) (ns ns' : List Int) : Prop where
  len : ns'.length = ns.length
  out : ∀ i, i < a ∨ b ≤ i → ns'[i]? = ns[i]?
  perm : ((ns'.drop a).take (b - a)).Perm ((ns.drop a).take (b - a))
  sorted : ((ns'.drop a).take (b - a)).Pairwise (lexLt key)
  stab : StabL key ns'
  all : ns'.Perm ns

def InsGot (g cap : Nat) (key : Nat → Int) (a b : Nat) (ns : List Int) (w : World) (e : Ending) (w' : World) : Prop :=
  e = .returned (.tuple #[]) ∧ ∃ ns', Ins key a b ns ns' ∧ RowI 3 .i64 w' g cap ns' ∧ Touch (fun k => k = g) w w'

theorem stab_list {N : Nat} [Inhabited (Fin N)] {key : Nat → Int} {d : Array (Fin N)} : Stab key d ↔ StabL key (d.toList.map fun i => (i.val : Int)) := by
  unfold StabL
  rw [List.pairwise_map, List.pairwise_iff_getElem]
  constructor
  · intro h i j hi hj hij he
    have hi' : i < d.size := by simpa using hi
    have hj' : j < d.size := by simpa using hj
    have := h i j hij hj'
    rw [getElem!_pos d i hi', getElem!_pos d j hj'] at this
    simp only [Array.getElem_toList, Int.toNat_natCast] at he ⊢
    have := this he
    omega
  · intro h i j hij hj
    have hi : i < d.size := by omega
    have := h i j (by simpa using hi) (by simpa using hj) hij
    rw [getElem!_pos d i hi, getElem!_pos d j hj]
    simp only [Array.getElem_toList, Int.toNat_natCast] at this
    intro he
    have := this he
    omega

theorem ins_mk {N : Nat} [Inhabited (Fin N)] {key : Nat → Int} {d d' : Array (Fin N)} {a b : Nat} (hab : a ≤ b) (hb : b ≤ d.size) (hp : PermIn a b d d') (hs : SortedIn (fun x y => decide (key x.val < key y.val)) a b d') (hst : Stab key d') (hall : d'.toList.Perm d.toList) :
    Ins key a b (d.toList.map fun i => (i.val : Int)) (d'.toList.map fun i => (i.val : Int)) := by
  obtain ⟨p1, p2, p3⟩ := hp
  refine ⟨by simp [p1], ?_, ?_, ?_, stab_list.1 hst, hall.map _⟩
  · intro i hi
    rw [List.getElem?_map, List.getElem?_map, Array.getElem?_toList, Array.getElem?_toList]
    by_cases h : i < d.size
    · have := p2 i hi
      rw [getElem!_pos d' i (by omega), getElem!_pos d i h] at this
      rw [Array.getElem?_eq_getElem (by omega), Array.getElem?_eq_getElem h, this]
    · rw [Array.getElem?_eq_none (by omega), Array.getElem?_eq_none (by omega)]
  · have e : ∀ c : Array (Fin N), ((c.toList.map fun i => (i.val : Int)).drop a).take (b - a) = (c.extract a b).toList.map fun i => (i.val : Int) := fun c => by
      rw [← List.map_drop, ← List.map_take]
      simp [List.extract_eq_take_drop]
    rw [e, e]
    exact p3.map _
  · rw [List.pairwise_iff_getElem]
    intro i j hi hj hij
    simp only [List.length_take, List.length_drop, List.length_map, Array.length_toList] at hi hj
    have hi' : a + i < d'.size := by omega
    have hj' : a + j < d'.size := by omega
    have h1 := hs (a + i) (a + j) (by omega) (by omega) (by omega)
    have h2 := hst (a + i) (a + j) (by omega) hj'
    rw [getElem!_pos d' (a + j) hj', getElem!_pos d' (a + i) hi'] at h1 h2
    simp only [decide_eq_false_iff_not] at h1
    simp only [List.getElem_take, List.getElem_drop, List.getElem_map, Array.getElem_toList, lexLt, Int.toNat_natCast]
    by_cases he : key d'[a + i].val = key d'[a + j].val
    · right
      exact ⟨he, by have := h2 he; omega⟩
    · left
      omega

theorem perm_all {N : Nat} [Inhabited (Fin N)] {d d' : Array (Fin N)} {a b : Nat} (hab : a ≤ b) (hb : b ≤ d.size) (hp : PermIn a b d d') : d'.toList.Perm d.toList := by
  obtain ⟨p1, p2, p3⟩ := hp
  have e : ∀ c : Array (Fin N), c.size = d.size → c.toList = c.toList.take a ++ ((c.extract a b).toList ++ c.toList.drop b) := fun c hc => by
    have h1 : (c.extract a b).toList = (c.toList.drop a).take (b - a) := by simp [List.extract_eq_take_drop]
    rw [h1]
    conv => lhs; rw [← List.take_append_drop a c.toList, ← List.take_append_drop (b - a) (c.toList.drop a)]
    rw [List.drop_drop, show a + (b - a) = b by omega]
  have same : ∀ i, i < a ∨ b ≤ i → d'.toList[i]? = d.toList[i]? := fun i hi => by
    rw [Array.getElem?_toList, Array.getElem?_toList]
    by_cases h : i < d.size
    · have := p2 i hi
      rw [getElem!_pos d' i (by omega), getElem!_pos d i h] at this
      rw [Array.getElem?_eq_getElem (by omega), Array.getElem?_eq_getElem h, this]
    · rw [Array.getElem?_eq_none (by omega), Array.getElem?_eq_none (by omega)]
  have e1 : d'.toList.take a = d.toList.take a := List.ext_getElem? fun i => by
    rw [List.getElem?_take, List.getElem?_take]
    split
    · rename_i h; exact same i (Or.inl h)
    · rfl
  have e2 : d'.toList.drop b = d.toList.drop b := List.ext_getElem? fun i => by
    rw [List.getElem?_drop, List.getElem?_drop]
    exact same _ (Or.inr (by omega))
  rw [e d' p1, e d rfl, e1, e2]
  exact List.Perm.append_left _ (List.Perm.append_right _ p3)

theorem ins_any (g cap gc : Nat) (cb : Array Value) (N : Nat) (key : Nat → Int) (ns : List Int) (a b : Nat) (w : World) (hab : a ≤ b) (hb : b ≤ ns.length) (h0 : 0 < ns.length) (hlen : ns.length ≤ 5000) (hin : ∀ x ∈ ns, 0 ≤ x ∧ x < N) (hst : StabL key ns) (hr : RowI 3 .i64 w g cap ns) (hc : CmpI g gc cb N key w) :
    Calls Try.prog 103 #[.slice (some ⟨g, 0, none⟩) ns.length cap, .int .i64 a, .int .i64 b, .func (.func gc) #[] cb] w (InsGot g cap key a b ns w) := by
  obtain ⟨ds, rfl⟩ := fins_of ns hin
  have hN : 0 < N := by
    cases ds with
    | nil => simp at h0
    | cons a _ => exact Nat.lt_of_le_of_lt (Nat.zero_le _) a.isLt
  haveI : Inhabited (Fin N) := ⟨⟨0, hN⟩⟩
  have hlen' : (ds.map fun i => (i.val : Int)).length = ds.length := List.length_map _
  have hsz : ds.toArray.size = ds.length := List.size_toArray
  have hH : Holds (fun x : Fin N => Value.int .i64 (x.val : Int)) w g 0 ds.toArray := fun j hj => by
    rw [hsz] at hj
    refine ⟨?_, by rw [Nat.zero_add]; exact hr.free j⟩
    rw [Nat.zero_add, getElem!_pos ds.toArray j (by rw [hsz]; exact hj)]
    exact hr.cell (by rw [List.getElem?_map, List.getElem?_eq_getElem hj]; rfl)
  rw [hlen'] at hb hlen ⊢
  have hcon := insertionSortCmpFunc_one (fun x : Fin N => Value.int .i64 (x.val : Int)) (fun _ => rfl) (fun x y => cmpT (key x.val) (key y.val)) gc cb g 0 cap a b ds.toArray w hc.enter
    (fun m os dk hs x y => hc.call x.val y.val x.isLt y.isLt _ (sortWorld_touch _ w g m dk os)) hH hab (by rw [hsz]; exact hb) (by rw [hsz]; omega)
  have hsorts := insertionSort_holds (swoKey key N) ds.toArray a b hab (by rw [hsz]; exact hb)
  have hlt : (ltOf fun x y : Fin N => cmpT (key x.val) (key y.val)) = fun x y => decide (key x.val < key y.val) := by
    funext x y; exact cmp_lt key x y
  have hstab := Stab.outer (key := key) a b b (a + 1) ds.toArray (by omega) (by rw [hsz]; exact hb) (stab_list.2 hst)
  rw [hlt] at hsorts hcon
  have hall := perm_all hab (by rw [hsz]; exact hb) hsorts.1
  have hins := ins_mk hab (by rw [hsz]; exact hb) hsorts.1 hsorts.2 hstab hall
  rw [hsz] at hcon
  refine hcon.mono ?_
  rintro e w' ⟨rfl, n, rfl⟩
  refine ⟨rfl, _, hins, ?_, ?_⟩
  · have := hr.sorted (fun x : Fin N => (x.val : Int)) (insertionSort (fun x y => decide (key x.val < key y.val)) ds.toArray a b) (by rw [hlen', hsorts.1.1, hsz]) n #[]
    rw [sortWorld_none] at this
    exact this
  · have := sortWorld_touch (fun x : Fin N => Value.int .i64 (x.val : Int)) w g n (insertionSort (fun x y => decide (key x.val < key y.val)) ds.toArray a b) #[]
    rw [sortWorld_none] at this
    exact this

theorem Ins.drop_take {key : Nat → Int} {a b : Nat} {ns ns' : List Int} (h : Ins key a b ns ns') : ns'.take a = ns.take a ∧ ns'.drop b = ns.drop b :=
  ⟨List.ext_getElem? fun i => by
    rw [List.getElem?_take, List.getElem?_take]
    split
    · rename_i hi; exact h.out i (Or.inl hi)
    · rfl, List.ext_getElem? fun i => by
    rw [List.getElem?_drop, List.getElem?_drop]
    exact h.out _ (Or.inr (by omega))⟩

/-- Two sorted blocks of ascending numbers are ready to be merged. -/
theorem two_blocks {key : Nat → Int} {ns n1 n2 : List Int} (hasc : ns.Pairwise fun x y => x < y) (hl : 20 ≤ ns.length) (h1 : Ins key 0 20 ns n1) (h2 : Ins key 20 ns.length n1 n2) :
    (n2.take 20).Pairwise (lexLt key) ∧ (n2.drop 20).Pairwise (lexLt key) ∧ (∀ x ∈ n2.take 20, ∀ y ∈ n2.drop 20, x < y) := by
  have e1 := h2.drop_take.1
  have e2 := h1.drop_take.2
  have s1 := h1.sorted
  have s2 := h2.sorted
  have p1 := h1.perm
  have p2 := h2.perm
  have l1 : n1.length = ns.length := h1.len
  have l2 : n2.length = ns.length := h2.len.trans l1
  rw [List.drop_zero, List.drop_zero, Nat.sub_zero] at p1
  rw [List.drop_zero, Nat.sub_zero] at s1
  rw [List.take_of_length_le (by rw [List.length_drop]; omega)] at s2
  rw [List.take_of_length_le (by rw [List.length_drop]; omega), List.take_of_length_le (by rw [List.length_drop]; omega)] at p2
  rw [e2] at p2
  refine ⟨by rw [e1]; exact s1, s2, fun x hx y hy => ?_⟩
  rw [e1] at hx
  have hx' := p1.mem_iff.1 hx
  have hy' := p2.mem_iff.1 hy
  rw [← List.take_append_drop 20 ns] at hasc
  exact (List.pairwise_append.1 hasc).2.2 x hx' y hy'

theorem stabL_asc {key : Nat → Int} {ns : List Int} (h : ns.Pairwise fun x y => x < y) : StabL key ns := by
  unfold StabL
  rw [List.pairwise_iff_getElem] at h ⊢
  exact fun i j hi hj hij _ => h i j hi hj hij

/-- What the whole sort leaves, of what its last step leaves. -/
theorem got_ns {key : Nat → Int} {g cap : Nat} {ns M n2 : List Int} {w w' : World} {e : Ending} (he : e = .returned (.tuple #[])) (hp : M.Perm n2) (ha : n2.Perm ns) (hM : M.Pairwise (lexLt key)) (hr : RowI 3 .i64 w' g cap M) (ht : Touch (fun k => k = g) w w') : StableGot key g cap ns w e w' :=
  ⟨he, M, hp.trans ha, hM, hr, ht⟩

set_option maxRecDepth 100000 in
set_option maxHeartbeats 4000000 in
theorem stable94_mid (g cap gc : Nat) (cb : Array Value) (N : Nat) (key : Nat → Int) (ns : List Int) (n : Nat) (w : World) (hn : n = ns.length) (h1 : 20 < n) (h2 : n < 40) (hin : ∀ x ∈ ns, 0 ≤ x ∧ x < N) (hasc : ns.Pairwise fun x y => x < y) (hr : RowI 3 .i64 w g cap ns) (hc : CmpI g gc cb N key w) :
    Calls Try.prog 94 #[.slice (some ⟨g, 0, none⟩) n cap, .int .i64 n, .func (.func gc) #[] cb] w (StableGot key g cap ns w) := by
  have HI1 : Hid (Calls Try.prog 103 #[.slice (some ⟨g, 0, none⟩) n cap, .int .i64 (0 : Nat), .int .i64 (20 : Nat), .func (.func gc) #[] cb] w (InsGot g cap key 0 20 ns w)) := Lib.hid (by
    have := ins_any g cap gc cb N key ns 0 20 w (by omega) (by omega) (by omega) (by omega) hin (stabL_asc hasc) hr hc
    rw [← hn] at this
    exact this)
  have HI2 : Hid (∀ n1 w1, Ins key 0 20 ns n1 → RowI 3 .i64 w1 g cap n1 → Touch (fun k => k = g) w w1 → Calls Try.prog 103 #[.slice (some ⟨g, 0, none⟩) n cap, .int .i64 (20 : Nat), .int .i64 n, .func (.func gc) #[] cb] w1 (InsGot g cap key 20 ns.length n1 w1)) := Lib.hid (fun n1 w1 hi hr1 ht1 => by
    have := ins_any g cap gc cb N key n1 20 ns.length w1 (by omega) (by rw [hi.len]; omega) (by rw [hi.len]; omega) (by rw [hi.len]; omega) (fun x hx => hin x (hi.all.mem_iff.1 hx)) hi.stab hr1 (hc.touch ht1)
    rw [hi.len, ← hn] at this
    rw [← hn]
    exact this)
  have HI3 : Hid (∀ n1 n2 w2, Ins key 0 20 ns n1 → Ins key 20 ns.length n1 n2 → RowI 3 .i64 w2 g cap n2 → Touch (fun k => k = g) w w2 → Calls Try.prog 104 #[.slice (some ⟨g, 0, none⟩) n cap, .int .i64 (0 : Nat), .int .i64 (20 : Nat), .int .i64 n, .func (.func gc) #[] cb] w2 (MergeGot g cap key [] (n2.take 20) (n2.drop 20) [] w2)) := Lib.hid (fun n1 n2 w2 hi1 hi2 hr2 ht2 => by
    obtain ⟨b1, b2, b3⟩ := two_blocks hasc (by omega) hi1 hi2
    have l2 : n2.length = n := by rw [hi2.len, hi1.len, hn]
    have hl : (n2.take 20).length = 20 := by rw [List.length_take]; omega
    have hd : (n2.drop 20).length = n - 20 := by rw [List.length_drop]; omega
    exact sym_all n g cap gc cb N key [] (n2.take 20) (n2.drop 20) [] 0 20 n n w2 (by omega)
      { ea := rfl, em := by omega, eb := by omega, elen := by simp; omega, bnd := by omega, inN := fun x hx => hin x (hi1.all.mem_iff.1 (hi2.all.mem_iff.1 (by simpa using hx))), sl := b1, sr := b2, lr := b3, row := by simpa using hr2, cmp := hc.touch ht2, l0 := by omega, r0 := by omega })
  have hn1 : ¬ (40 : Int) ≤ (n : Int) := by omega
  have hn2 : (20 : Int) ≤ (n : Int) := by omega
  have hn3 : (20 : Int) < (n : Int) := by omega
  have hn4 : ¬ (40 : Int) < (n : Int) := by omega
  clear hin hasc hr hc hn
  go_enter Try.func94, Try.ntmps94
  go_wp2
  refine wp_loop_rounds 2 ?_
  rw [rounds_succ]
  go_wp2_with (go_at_call 103; refine HI1.out.mono ?_; rintro e w1 ⟨rfl, n1, hi1, hr1, ht1⟩; have J1 := Lib.hid hi1; have R1 := Lib.hid hr1; have T1 := Lib.hid ht1; clear hi1 hr1 ht1)
  rw [rounds_succ]
  go_wp2_with (go_at_call 103; refine (HI2.out n1 w1 J1.out R1.out T1.out).mono ?_; rintro e w2 ⟨rfl, n2, hi2, hr2, ht2⟩; have J2 := Lib.hid hi2; have R2 := Lib.hid hr2; have T2 := Lib.hid ht2; clear hi2 hr2 ht2)
  refine wp_loop_rounds 2 ?_
  rw [rounds_succ]
  go_wp2
  refine wp_loop_rounds 1 ?_
  rw [rounds_succ]
  go_wp2_with (go_at_call 104; refine (HI3.out n1 n2 w2 J1.out J2.out R2.out (T1.out.trans T2.out)).mono ?_; rintro e w3 ⟨rfl, M, hp, hM, hr3, ht3⟩; have P3 := Lib.hid hp; have S3 := Lib.hid hM; have R3 := Lib.hid hr3; have T3 := Lib.hid ht3; clear hp hM hr3 ht3)
  rw [rounds_succ]
  go_wp2
  go_end0
  exact got_ns rfl (by have := P3.out; rwa [List.take_append_drop] at this) (J2.out.all.trans J1.out.all) S3.out (by have := R3.out; simpa using this) ((T1.out.trans T2.out).trans T3.out)

set_option maxRecDepth 100000 in
set_option maxHeartbeats 4000000 in
theorem stable94_20 (g cap gc : Nat) (cb : Array Value) (N : Nat) (key : Nat → Int) (ns : List Int) (n : Nat) (w : World) (hn : n = ns.length) (h1 : n = 20) (hin : ∀ x ∈ ns, 0 ≤ x ∧ x < N) (hasc : ns.Pairwise fun x y => x < y) (hr : RowI 3 .i64 w g cap ns) (hc : CmpI g gc cb N key w) :
    Calls Try.prog 94 #[.slice (some ⟨g, 0, none⟩) n cap, .int .i64 n, .func (.func gc) #[] cb] w (StableGot key g cap ns w) := by
  have HI1 : Hid (Calls Try.prog 103 #[.slice (some ⟨g, 0, none⟩) n cap, .int .i64 (0 : Nat), .int .i64 (20 : Nat), .func (.func gc) #[] cb] w (InsGot g cap key 0 20 ns w)) := Lib.hid (by
    have := ins_any g cap gc cb N key ns 0 20 w (by omega) (by omega) (by omega) (by omega) hin (stabL_asc hasc) hr hc
    rw [← hn] at this
    exact this)
  have HI2 : Hid (∀ n1 w1, Ins key 0 20 ns n1 → RowI 3 .i64 w1 g cap n1 → Touch (fun k => k = g) w w1 → Calls Try.prog 103 #[.slice (some ⟨g, 0, none⟩) n cap, .int .i64 (20 : Nat), .int .i64 n, .func (.func gc) #[] cb] w1 (InsGot g cap key 20 ns.length n1 w1)) := Lib.hid (fun n1 w1 hi hr1 ht1 => by
    have := ins_any g cap gc cb N key n1 20 ns.length w1 (by omega) (by rw [hi.len]; omega) (by rw [hi.len]; omega) (by rw [hi.len]; omega) (fun x hx => hin x (hi.all.mem_iff.1 hx)) hi.stab hr1 (hc.touch ht1)
    rw [hi.len, ← hn] at this
    rw [← hn]
    exact this)
  have HSM : Hid (∀ n1 n2 : List Int, Ins key 0 20 ns n1 → Ins key 20 ns.length n1 n2 → n2.Pairwise (lexLt key)) := Lib.hid (fun n1 n2 hi1 hi2 => by
    obtain ⟨b1, _, _⟩ := two_blocks hasc (by omega) hi1 hi2
    rwa [List.take_of_length_le (by rw [hi2.len, hi1.len]; omega)] at b1)
  have hn1 : ¬ (40 : Int) ≤ (n : Int) := by omega
  have hn2 : (20 : Int) ≤ (n : Int) := by omega
  have hn3 : ¬ (20 : Int) < (n : Int) := by omega
  clear h1
  clear hin hasc hr hc hn
  go_enter Try.func94, Try.ntmps94
  go_wp2
  refine wp_loop_rounds 2 ?_
  rw [rounds_succ]
  go_wp2_with (go_at_call 103; refine HI1.out.mono ?_; rintro e w1 ⟨rfl, n1, hi1, hr1, ht1⟩; have J1 := Lib.hid hi1; have R1 := Lib.hid hr1; have T1 := Lib.hid ht1; clear hi1 hr1 ht1)
  rw [rounds_succ]
  go_wp2_with (go_at_call 103; refine (HI2.out n1 w1 J1.out R1.out T1.out).mono ?_; rintro e w2 ⟨rfl, n2, hi2, hr2, ht2⟩; have J2 := Lib.hid hi2; have R2 := Lib.hid hr2; have T2 := Lib.hid ht2; clear hi2 hr2 ht2)
  refine wp_loop_rounds 1 ?_
  rw [rounds_succ]
  go_wp2
  go_end0
  exact ⟨rfl, n2, J2.out.all.trans J1.out.all, HSM.out n1 n2 J1.out J2.out, R2.out, T1.out.trans T2.out⟩

set_option maxRecDepth 100000 in
set_option maxHeartbeats 4000000 in
theorem stable94_40 (g cap gc : Nat) (cb : Array Value) (N : Nat) (key : Nat → Int) (ns : List Int) (n : Nat) (w : World) (hn : n = ns.length) (h1 : n = 40) (hin : ∀ x ∈ ns, 0 ≤ x ∧ x < N) (hasc : ns.Pairwise fun x y => x < y) (hr : RowI 3 .i64 w g cap ns) (hc : CmpI g gc cb N key w) :
    Calls Try.prog 94 #[.slice (some ⟨g, 0, none⟩) n cap, .int .i64 n, .func (.func gc) #[] cb] w (StableGot key g cap ns w) := by
  have HI1 : Hid (Calls Try.prog 103 #[.slice (some ⟨g, 0, none⟩) n cap, .int .i64 (0 : Nat), .int .i64 (20 : Nat), .func (.func gc) #[] cb] w (InsGot g cap key 0 20 ns w)) := Lib.hid (by
    have := ins_any g cap gc cb N key ns 0 20 w (by omega) (by omega) (by omega) (by omega) hin (stabL_asc hasc) hr hc
    rw [← hn] at this
    exact this)
  have HI2 : Hid (∀ n1 w1, Ins key 0 20 ns n1 → RowI 3 .i64 w1 g cap n1 → Touch (fun k => k = g) w w1 → Calls Try.prog 103 #[.slice (some ⟨g, 0, none⟩) n cap, .int .i64 (20 : Nat), .int .i64 n, .func (.func gc) #[] cb] w1 (InsGot g cap key 20 ns.length n1 w1)) := Lib.hid (fun n1 w1 hi hr1 ht1 => by
    have := ins_any g cap gc cb N key n1 20 ns.length w1 (by omega) (by rw [hi.len]; omega) (by rw [hi.len]; omega) (by rw [hi.len]; omega) (fun x hx => hin x (hi.all.mem_iff.1 hx)) hi.stab hr1 (hc.touch ht1)
    rw [hi.len, ← hn] at this
    rw [← hn]
    exact this)
  have HI3 : Hid (∀ n1 n2 w2, Ins key 0 20 ns n1 → Ins key 20 ns.length n1 n2 → RowI 3 .i64 w2 g cap n2 → Touch (fun k => k = g) w w2 → Calls Try.prog 104 #[.slice (some ⟨g, 0, none⟩) n cap, .int .i64 (0 : Nat), .int .i64 (20 : Nat), .int .i64 n, .func (.func gc) #[] cb] w2 (MergeGot g cap key [] (n2.take 20) (n2.drop 20) [] w2)) := Lib.hid (fun n1 n2 w2 hi1 hi2 hr2 ht2 => by
    obtain ⟨b1, b2, b3⟩ := two_blocks hasc (by omega) hi1 hi2
    have l2 : n2.length = n := by rw [hi2.len, hi1.len, hn]
    have hl : (n2.take 20).length = 20 := by rw [List.length_take]; omega
    have hd : (n2.drop 20).length = n - 20 := by rw [List.length_drop]; omega
    exact sym_all n g cap gc cb N key [] (n2.take 20) (n2.drop 20) [] 0 20 n n w2 (by omega)
      { ea := rfl, em := by omega, eb := by omega, elen := by simp; omega, bnd := by omega, inN := fun x hx => hin x (hi1.all.mem_iff.1 (hi2.all.mem_iff.1 (by simpa using hx))), sl := b1, sr := b2, lr := b3, row := by simpa using hr2, cmp := hc.touch ht2, l0 := by omega, r0 := by omega })
  have HI4 : Hid (∀ n1 n2 w2, Ins key 0 20 ns n1 → Ins key 20 ns.length n1 n2 → RowI 3 .i64 w2 g cap n2 → Touch (fun k => k = g) w w2 → Calls Try.prog 103 #[.slice (some ⟨g, 0, none⟩) n cap, .int .i64 (40 : Nat), .int .i64 n, .func (.func gc) #[] cb] w2 (InsGot g cap key 40 40 n2 w2)) := Lib.hid (fun n1 n2 w2 hi1 hi2 hr2 ht2 => by
    have l2 : n2.length = n := by rw [hi2.len, hi1.len, hn]
    have := ins_any g cap gc cb N key n2 40 40 w2 (by omega) (by omega) (by omega) (by omega) (fun x hx => hin x (hi1.all.mem_iff.1 (hi2.all.mem_iff.1 hx))) hi2.stab hr2 (hc.touch ht2)
    rw [l2] at this
    rw [h1] at this ⊢
    exact this)
  have HSAME : Hid (∀ n2 n3 : List Int, Ins key 40 40 n2 n3 → n3 = n2) := Lib.hid (fun n2 n3 h => List.ext_getElem? fun i => h.out i (by omega))
  have hn1 : (40 : Int) ≤ (n : Int) := by omega
  have hn2 : (20 : Int) ≤ (n : Int) := by omega
  have hn3 : (20 : Int) < (n : Int) := by omega
  have hn4 : ¬ (40 : Int) < (n : Int) := by omega
  have hn5 : ¬ (60 : Int) ≤ (n : Int) := by omega
  have hn6 : ¬ (80 : Int) ≤ (n : Int) := by omega
  have hn7 : ¬ (60 : Int) < (n : Int) := by omega
  clear hin hasc hr hc hn
  have HI2' := HI2.out
  have HI3' := HI3.out
  rw [h1] at HI2' HI3'
  have HI3'' := Lib.hid HI3'
  have HI2'' : Hid (∀ n1 w1, Ins key 0 20 ns n1 → RowI 3 .i64 w1 g cap n1 → Touch (fun k => k = g) w w1 → Calls Try.prog 103 #[.slice (some ⟨g, 0, none⟩) 40 cap, .int .i64 (20 : Nat), .int .i64 (40 : Nat), .func (.func gc) #[] cb] w1 (InsGot g cap key 20 ns.length n1 w1)) := Lib.hid HI2'
  clear HI2 HI3 HI2' HI3'
  subst h1
  go_enter Try.func94, Try.ntmps94
  go_wp2
  refine wp_loop_rounds 3 ?_
  rw [rounds_succ]
  go_wp2_with (go_at_call 103; refine HI1.out.mono ?_; rintro e w1 ⟨rfl, n1, hi1, hr1, ht1⟩; have J1 := Lib.hid hi1; have R1 := Lib.hid hr1; have T1 := Lib.hid ht1; clear hi1 hr1 ht1)
  rw [rounds_succ]
  go_wp2_with (go_at_call 103; refine (HI2''.out n1 w1 J1.out R1.out T1.out).mono ?_; rintro e w2 ⟨rfl, n2, hi2, hr2, ht2⟩; have J2 := Lib.hid hi2; have R2 := Lib.hid hr2; have T2 := Lib.hid ht2; clear hi2 hr2 ht2)
  rw [rounds_succ]
  go_wp2_with (go_at_call 103; refine (HI4.out n1 n2 w2 J1.out J2.out R2.out (T1.out.trans T2.out)).mono ?_; rintro e w2' ⟨rfl, n2', hi3, hr2, ht2⟩; obtain rfl := HSAME.out _ _ hi3; have R2' := Lib.hid hr2; have T2' := Lib.hid ht2; clear hi3 hr2 ht2)
  refine wp_loop_rounds 2 ?_
  rw [rounds_succ]
  go_wp2
  refine wp_loop_rounds 2 ?_
  rw [rounds_succ]
  go_wp2_with (go_at_call 104; refine (HI3''.out _ _ _ J1.out J2.out R2'.out ((T1.out.trans T2.out).trans T2'.out)).mono ?_; rintro e w3 ⟨rfl, M, hp, hM, hr3, ht3⟩; have P3 := Lib.hid hp; have S3 := Lib.hid hM; have R3 := Lib.hid hr3; have T3 := Lib.hid ht3; clear hp hM hr3 ht3)
  rw [rounds_succ]
  go_wp2
  rw [rounds_succ]
  go_wp2
  go_end0
  exact got_ns rfl (by have := P3.out; rwa [List.take_append_drop] at this) (J2.out.all.trans J1.out.all) S3.out (by have := R3.out; simpa using this) (((T1.out.trans T2.out).trans T2'.out).trans T3.out)

theorem stable79_of (R : Ending → World → Prop) (p : Option Addr) (cap gc n : Nat) (cb : Array Value) (w : World) (hn : n ≤ 5000) (hR : ∀ e w', R e w' → e = .returned (.tuple #[]))
    (h : Calls Try.prog 94 #[.slice p n cap, .int .i64 n, .func (.func gc) #[] cb] w R) : Calls Try.prog 79 #[.slice p n cap, .func (.func gc) #[] cb] w R := by
  have HR := Lib.hid hR
  clear hR
  go_enter Try.func79, Try.ntmps79
  go_wp2_with (go_at_call 94; refine h.mono ?_; rintro e w1 hr; have hre := HR.out _ _ hr; subst hre; have HRR := Lib.hid hr; clear hr)
  go_end0
  exact HRR.out

theorem stable40 : StableUpTo 40 := by
  intro g cap gc cb N key ns w hm hin hasc hr eg hcmp
  by_cases h : ns.length ≤ 19
  · exact stable19 g cap gc cb N key ns w h hin hasc hr eg hcmp
  · have hc : CmpI g gc cb N key w := ⟨eg, hcmp⟩
    refine stable79_of _ _ cap gc ns.length cb w (by omega) (fun e w' h => h.1) ?_
    rcases Nat.lt_trichotomy ns.length 20 with h1 | h1 | h1
    · omega
    · exact stable94_20 g cap gc cb N key ns ns.length w rfl h1 hin hasc hr hc
    · by_cases h2 : ns.length = 40
      · exact stable94_40 g cap gc cb N key ns ns.length w rfl h2 hin hasc hr hc
      · exact stable94_mid g cap gc cb N key ns ns.length w rfl h1 (by omega) hin hasc hr hc

end Go.Proofs.Ytigpghmbeldakaa
