/- symMerge of the library's stable sort, at a row of numbers. -/
import Derived.Test.YtigpghmbeldakaaAX
import Derived.Deep.DeepCutAuto
import Derived.Deep.CutBlock
import Derived.IntWalk
namespace Go.Proofs.Ytigpghmbeldakaa
open Go.RowKit

/-- What is known of a function value that compares numbers. -/
structure CmpI (g gc : Nat) (cb : Array Value) (N : Nat) (key : Nat → Int) (w0 : World) : Prop where
  enter : ∀ (args : Array Value) (w : World), (callFunc gc args).run Try.prog w = .ok (.enter gc args) w
  call : ∀ (i j : Nat), i < N → j < N → ∀ W, Touch (fun k => k = g) w0 W → Calls Try.prog gc (#[.int .i64 i, .int .i64 j] ++ cb) W fun e w' => e = .returned (.int .i64 (cmpT (key i) (key j))) ∧ ∃ q, w' = W.drewN q

theorem CmpI.touch {g gc : Nat} {cb : Array Value} {N : Nat} {key : Nat → Int} {w W : World} (h : CmpI g gc cb N key w) (ht : Touch (fun k => k = g) w W) : CmpI g gc cb N key W := ⟨h.enter, fun i j hi hj V hV => h.call i j hi hj V (ht.trans hV)⟩

/-- What a merge is given. -/
structure SymIn (g cap gc : Nat) (cb : Array Value) (N : Nat) (key : Nat → Int) (A L R B : List Int) (a m b len : Nat) (w : World) : Prop where
  ea : a = A.length
  em : m = a + L.length
  eb : b = m + R.length
  elen : len = (A ++ (L ++ (R ++ B))).length
  bnd : len ≤ 5000
  inN : ∀ x ∈ A ++ (L ++ (R ++ B)), 0 ≤ x ∧ x < N
  sl : L.Pairwise (lexLt key)
  sr : R.Pairwise (lexLt key)
  lr : ∀ x ∈ L, ∀ y ∈ R, x < y
  row : RowI 3 .i64 w g cap (A ++ (L ++ (R ++ B)))
  cmp : CmpI g gc cb N key w
  l0 : 0 < L.length
  r0 : 0 < R.length

/-- What a merge leaves. -/
def MergeGot (g cap : Nat) (key : Nat → Int) (A L R B : List Int) (w : World) (e : Ending) (w' : World) : Prop :=
  e = .returned (.tuple #[]) ∧ ∃ M, M.Perm (L ++ R) ∧ M.Pairwise (lexLt key) ∧ RowI 3 .i64 w' g cap (A ++ (M ++ B)) ∧ Touch (fun k => k = g) w w'

/-- The number at a place of the row, and what a comparison of two of them needs. -/
theorem at_nat {ns : List Int} {N k : Nat} (h : ∀ x ∈ ns, 0 ≤ x ∧ x < (N : Int)) (hk : k < ns.length) : ∃ n : Nat, ns[k]? = some (n : Int) ∧ n < N := by
  obtain ⟨h1, h2⟩ := h ns[k] (List.getElem_mem hk)
  exact ⟨ns[k].toNat, by rw [List.getElem?_eq_getElem hk]; congr 1; omega, by omega⟩

theorem cmp_test (a b : Int) : decide (cmpT a b < 0) = decide (a < b) := by
  unfold cmpT
  by_cases h : a < b
  · simp [h]
  · by_cases h' : b < a <;> simp [h, h']

theorem at_right {A R B : List Int} {x y : Int} {a m h : Nat} (ha : a = A.length) (hm : m = a + 1) (hh : m ≤ h) (hy : R[h - m]? = some y) : (A ++ (x :: (R ++ B)))[h]? = R[h - m]? := by
  have hl := (List.getElem?_eq_some_iff.1 hy).1
  rw [List.getElem?_append_right (by omega), show h - A.length = (h - m) + 1 by omega, List.getElem?_cons_succ, List.getElem?_append_left hl]

/-- A number on its way through a list. -/
def onWay (A R B : List Int) (x : Int) (p : Nat) : List Int := A ++ (R.take p ++ (x :: (R.drop p ++ B)))

theorem onWay_next {A R B : List Int} {x : Int} {p : Nat} (hp : p < R.length) : ∃ y, (onWay A R B x p)[A.length + p]? = some x ∧ (onWay A R B x p)[A.length + p + 1]? = some y ∧
    (onWay A R B x (p + 1))[A.length + p]? = some y ∧ (onWay A R B x (p + 1))[A.length + p + 1]? = some x ∧
    ((onWay A R B x p).set (A.length + p) y).set (A.length + p + 1) x = onWay A R B x (p + 1) ∧ ((onWay A R B x p).set (A.length + p + 1) x).set (A.length + p) y = onWay A R B x (p + 1) ∧
    ((onWay A R B x (p + 1)).set (A.length + p) x).set (A.length + p + 1) y = onWay A R B x p ∧ ((onWay A R B x (p + 1)).set (A.length + p + 1) y).set (A.length + p) x = onWay A R B x p := by
  obtain ⟨y, hy⟩ : ∃ y, R[p]? = some y := ⟨_, List.getElem?_eq_getElem hp⟩
  obtain ⟨h1, h2⟩ := List.getElem?_eq_some_iff.1 hy
  have d : R.drop p = y :: R.drop (p + 1) := by rw [List.drop_eq_getElem_cons h1, h2]
  have t : R.take (p + 1) = R.take p ++ [y] := by rw [List.take_succ_eq_append_getElem h1, h2]
  have l : (R.take p).length = p := by rw [List.length_take]; omega
  have e1 : onWay A R B x p = (A ++ R.take p) ++ x :: (y :: (R.drop (p + 1) ++ B)) := by unfold onWay; rw [d]; simp
  have e1' : onWay A R B x p = ((A ++ R.take p) ++ [x]) ++ y :: (R.drop (p + 1) ++ B) := by rw [e1]; simp
  have e2 : onWay A R B x (p + 1) = (A ++ R.take p) ++ y :: (x :: (R.drop (p + 1) ++ B)) := by unfold onWay; rw [t]; simp
  have e2' : onWay A R B x (p + 1) = ((A ++ R.take p) ++ [y]) ++ x :: (R.drop (p + 1) ++ B) := by rw [e2]; simp
  have q1 : A.length + p = (A ++ R.take p).length := by rw [List.length_append, l]
  have q2 : ∀ z : Int, A.length + p + 1 = ((A ++ R.take p) ++ [z]).length := fun z => by rw [List.length_append, ← q1]; rfl
  refine ⟨y, by rw [e1]; exact get_at q1, by rw [e1']; exact get_at (q2 _), by rw [e2]; exact get_at q1, by rw [e2']; exact get_at (q2 _), ?_, ?_, ?_, ?_⟩
  · rw [e1, set_at q1, show (A ++ R.take p) ++ y :: (y :: (R.drop (p + 1) ++ B)) = ((A ++ R.take p) ++ [y]) ++ y :: (R.drop (p + 1) ++ B) by simp, set_at (q2 _), e2']
  · rw [e1', set_at (q2 _), show ((A ++ R.take p) ++ [x]) ++ x :: (R.drop (p + 1) ++ B) = (A ++ R.take p) ++ x :: (x :: (R.drop (p + 1) ++ B)) by simp, set_at q1, e2]
  · rw [e2, set_at q1, show (A ++ R.take p) ++ x :: (x :: (R.drop (p + 1) ++ B)) = ((A ++ R.take p) ++ [x]) ++ x :: (R.drop (p + 1) ++ B) by simp, set_at (q2 _), e1']
  · rw [e2', set_at (q2 _), show ((A ++ R.take p) ++ [y]) ++ y :: (R.drop (p + 1) ++ B) = (A ++ R.take p) ++ y :: (y :: (R.drop (p + 1) ++ B)) by simp, set_at q1, e1]

/-- Where a number belongs among those behind it: a search under way. -/
def CutL (key : Nat → Int) (x : Nat) (R : List Int) (m b i j : Nat) : Prop :=
  (i = m ∨ m < i ∧ ∃ y : Nat, R[i - 1 - m]? = some (y : Int) ∧ key y < key x) ∧ (j = b ∨ j < b ∧ ∃ y : Nat, R[j - m]? = some (y : Int) ∧ ¬ key y < key x)

theorem CutL.done {key : Nat → Int} {x : Nat} {R : List Int} {m b i : Nat} (h : CutL key x R m b i i) (hR : R.Pairwise (lexLt key)) (hlr : ∀ z ∈ R, (x : Int) < z) (hb : b = m + R.length) (hmi : m ≤ i) (hib : i ≤ b) :
    (R.take (i - m) ++ (x : Int) :: R.drop (i - m)).Perm ([(x : Int)] ++ R) ∧ (R.take (i - m) ++ (x : Int) :: R.drop (i - m)).Pairwise (lexLt key) := by
  obtain ⟨h1, h2⟩ := h
  have hR' : (R.take (i - m) ++ R.drop (i - m)).Pairwise (lexLt key) := by rw [List.take_append_drop]; exact hR
  have := merge_one (x := (x : Int)) hR' ?_ ?_
  · rw [List.take_append_drop] at this
    exact this
  · rcases h1 with h1 | ⟨h0, y, h1, h3⟩
    · intro z hz
      rw [show i - m = 0 by omega] at hz
      simp at hz
    · refine all_before (hR.sublist (List.take_sublist _ _)) (i := i - 1 - m) (y := (y : Int)) (by rw [List.length_take]; omega) (by rw [List.getElem?_take, if_pos (by omega)]; exact h1) ?_
      exact (lex_of_key (hlr _ (List.mem_of_getElem? h1))).1.1 (by simpa using h3)
  · rcases h2 with h2 | ⟨h0, y, h2, h3⟩
    · intro z hz
      rw [show i - m = R.length by omega] at hz
      simp at hz
    · refine all_behind (hR.sublist (List.drop_sublist _ _)) (y := (y : Int)) (by rw [List.getElem?_drop, Nat.add_zero]; exact h2) ?_
      exact (lex_of_key (hlr _ (List.mem_of_getElem? h2))).2.1 (by simpa using h3)

set_option maxRecDepth 100000 in
set_option maxHeartbeats 4000000 in
theorem sym_left (g cap gc : Nat) (cb : Array Value) (N : Nat) (key : Nat → Int) (A R B : List Int) (x a m b len : Nat) (w : World) (hm1 : m = a + 1) (hs : SymIn g cap gc cb N key A [(x : Int)] R B a m b len w) :
    Calls Try.prog 104 #[.slice (some ⟨g, 0, none⟩) len cap, .int .i64 a, .int .i64 m, .int .i64 b, .func (.func gc) #[] cb] w (MergeGot g cap key A [(x : Int)] R B w) := by
  have HS := Lib.hid hs
  have hbl : b ≤ len := by have h1 := hs.ea; have h2 := hs.em; have h3 := hs.eb; rw [hs.elen]; simp only [List.length_append, List.length_cons, List.length_nil] at h2 ⊢; omega
  have hbnd := hs.bnd
  have hbm : m < b := by have := hs.eb; have := hs.r0; omega
  have t1 : (m : Int) - (a : Int) = 1 := by omega
  have eg := hs.cmp.enter
  have hxN : x < N := by have := (hs.inN (x : Int) (by simp)).2; omega
  have HM1 := Lib.hid hm1
  have ham : a < m := by omega
  clear hs hm1
  go_enter Try.func104, Try.ntmps104
  go_wp2
  go_loopw [10, 11] (fun v10 v11 wr => ∃ (i j : Nat), v10 = .int .i64 i ∧ v11 = .int .i64 j ∧ m ≤ i ∧ i ≤ j ∧ j ≤ b ∧ Hid (CutL key x R m b i j) ∧ Hid (RowI 3 .i64 wr g cap (A ++ ((x : Int) :: (R ++ B)))) ∧ Hid (Touch (fun z => z = g) w wr)) (fun v10 v11 _ => (intOf v11).toNat - (intOf v10).toNat)
  case atStart => exact ⟨m, b, rfl, rfl, Nat.le_refl _, by omega, Nat.le_refl _, Lib.hid ⟨Or.inl rfl, Or.inl rfl⟩, Lib.hid HS.out.row, Lib.hid (Touch.refl _ _)⟩
  case round =>
    obtain ⟨i, j, rfl, rfl, hi, hij, hj, hb2, hrow, ht⟩ := hrel
    clear t1
    by_cases hlt : i < j
    · obtain ⟨h, hh⟩ : ∃ h, h = (i + j) / 2 := ⟨_, rfl⟩
      have hhi : ((i : Int) + (j : Int)) / 2 = (h : Int) := by omega
      have hih : i ≤ h := by omega
      have hhj : h < j := by omega
      have hmh : m ≤ h := by omega
      clear hh
      obtain ⟨y, hy, hyN⟩ := at_nat (fun z hz => HS.out.inN z (by simp [hz])) (show h - m < R.length by have := HS.out.eb; omega)
      have ck := hrow.out.cell (j := h) (x := (y : Int)) (by rw [← hy]; exact at_right HS.out.ea HM1.out hmh hy)
      have ca := hrow.out.cell (j := a) (x := (x : Int)) (get_at HS.out.ea)
      have hcal : ∀ q, Calls Try.prog gc (#[.int .i64 (y : Int), .int .i64 (x : Int)] ++ cb) (wr.drewN q) fun e w' => e = .returned (.int .i64 (cmpT (key y) (key x))) ∧ ∃ n, w' = (wr.drewN q).drewN n := fun q => HS.out.cmp.call y x hyN hxN _ (ht.out.drewN q)
      obtain ⟨c, hc⟩ : ∃ c, c = cmpT (key y) (key x) := ⟨_, rfl⟩
      rw [← hc] at hcal
      have hct : decide (c < 0) = decide (key y < key x) := by rw [hc]; exact cmp_test _ _
      have HY := Lib.hid hy
      have hhb : (h : Int) < (len : Int) := by omega
      have hab : (a : Int) < (len : Int) := by omega
      have hmes : j - (h + 1) < j - i := by omega
      have hmes2 : h - i < j - i := by omega
      clear hy hc
      by_cases hkey : key y < key x
      · have hct' : decide (c < 0) = true := by rw [hct]; exact decide_eq_true hkey
        have hc0 : c < 0 := of_decide_eq_true hct'
        have HK : Hid (key y < key x) := Lib.hid hkey
        clear hct hct' hkey
        go_wp2_with fail
        go_quiet ((go_at_fn gc; exact Calls.quiet_of (hcal _)))
        go_wp2
        go_roundw
        case rel => exact ⟨h + 1, j, by go_num, rfl, by omega, by omega, hj, Lib.hid ⟨Or.inr ⟨by omega, y, by rw [Nat.add_sub_cancel]; exact HY.out, HK.out⟩, hb2.out.2⟩, Lib.hid (hrow.out.drewN _), Lib.hid (ht.out.drewN _)⟩
        case measure => simp [intOf]; omega
      · have hct' : decide (c < 0) = false := by rw [hct]; exact decide_eq_false hkey
        have hc0 : ¬ c < 0 := of_decide_eq_false hct'
        have hc1 : 0 ≤ c := by omega
        have HK : Hid (¬ key y < key x) := Lib.hid hkey
        clear hct hct' hkey hc0
        go_wp2_with fail
        go_quiet ((go_at_fn gc; exact Calls.quiet_of (hcal _)))
        go_wp2
        go_roundw
        case rel => exact ⟨i, h, rfl, rfl, hi, hih, by omega, Lib.hid ⟨hb2.out.1, Or.inr ⟨by omega, y, HY.out, by have := HK.out; omega⟩⟩, Lib.hid (hrow.out.drewN _), Lib.hid (ht.out.drewN _)⟩
        case measure => simp [intOf]; omega
    · have hije : i = j := by omega
      subst hije
      obtain ⟨k0, hk0⟩ : ∃ k0, k0 = i - m := ⟨_, rfl⟩
      have hik : i = m + k0 := by omega
      have hkR : k0 ≤ R.length := by have := HS.out.eb; omega
      have hi1 : (i : Int) - 1 = ((a + k0 : Nat) : Int) := by have := HM1.out; omega
      have hend : Hid ((R.take k0 ++ (x : Int) :: R.drop k0).Perm ([(x : Int)] ++ R) ∧ (R.take k0 ++ (x : Int) :: R.drop k0).Pairwise (lexLt key)) := Lib.hid (by
        have := hb2.out.done HS.out.sr (fun z hz => HS.out.lr _ (by simp) z hz) HS.out.eb hi hj
        rw [← hk0] at this
        exact this)
      have hkm : a + k0 < len := by omega
      have h00 : Hid (onWay A R B x 0 = A ++ ((x : Int) :: (R ++ B))) := Lib.hid rfl
      clear hk0 hb2
      go_wp2
      go_loopw [13] (fun v13 wr => ∃ p q : Nat, p ≤ k0 ∧ Hid (q = a + p) ∧ v13 = .int .i64 (q : Int) ∧ Hid (RowI 3 .i64 wr g cap (onWay A R B x p)) ∧ Hid (Touch (fun z => z = g) w wr)) (fun v13 _ => a + k0 - (intOf v13).toNat)
      case atStart => exact ⟨0, a, by omega, Lib.hid rfl, rfl, Lib.hid (by rw [h00.out]; exact hrow.out), ht⟩
      case round =>
        obtain ⟨p, q, hp, hq, rfl, hrow2, ht2⟩ := hrel
        by_cases hlt2 : p < k0
        · obtain ⟨y, e1, e2, _, _, e3, e4, _, _⟩ := onWay_next (A := A) (B := B) (x := (x : Int)) (show p < R.length by omega)
          rw [← HS.out.ea, ← hq.out] at e1 e2 e3 e4
          have c1 := hrow2.out.cell e1
          have c2 := hrow2.out.cell e2
          have f1 := hrow2.out.free q
          have f2 := hrow2.out.free (q + 1)
          have R1 : Hid (RowI 3 .i64 ((wr.setCell ⟨g, q, none⟩ (.int .i64 y)).setCell ⟨g, q + 1, none⟩ (.int .i64 x)) g cap (onWay A R B x (p + 1))) := Lib.hid (by have := (hrow2.out.put q y).put (q + 1) x; rw [e3] at this; exact this)
          have R2 : Hid (RowI 3 .i64 ((wr.setCell ⟨g, q + 1, none⟩ (.int .i64 x)).setCell ⟨g, q, none⟩ (.int .i64 y)) g cap (onWay A R B x (p + 1))) := Lib.hid (by have := (hrow2.out.put (q + 1) x).put q y; rw [e4] at this; exact this)
          have hqo := hq.out
          have hqN : (q : Int) + 1 < (len : Int) := by omega
          have hqi : (q : Int) < (i : Int) - 1 := by have := HM1.out; omega
          have hqq : a + k0 - (q + 1) < a + k0 - q := by omega
          clear e1 e2 e3 e4 hrow2 hqo
          go_wp2_with fail
          go_region
          go_wp2
          go_roundw
          case rel => exact ⟨p + 1, q + 1, by omega, Lib.hid (by have := hq.out; omega), by go_num, by first | exact R1 | exact R2, Lib.hid (((ht2.out.set rfl _).set rfl _).drew)⟩
          case measure => simp [intOf]; omega
        · have hpk : p = k0 := by omega
          subst hpk
          have hqi : ¬ (q : Int) < (i : Int) - 1 := by have := HM1.out; have := hq.out; omega
          go_wp2
          go_end0
          exact ⟨rfl, _, hend.out.1, hend.out.2, by have := hrow2.out; unfold onWay at this; simpa using this, ht2.out⟩

end Go.Proofs.Ytigpghmbeldakaa
