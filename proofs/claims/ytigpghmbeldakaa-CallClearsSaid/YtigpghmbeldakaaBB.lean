/- symMerge where one number is merged into those ahead of it. -/
import Derived.Test.YtigpghmbeldakaaBA
namespace Go.Proofs.Ytigpghmbeldakaa
open Go.RowKit

/-- Where a number belongs among those ahead of it: a search under way. -/
def CutR (key : Nat → Int) (y : Nat) (L : List Int) (a m i j : Nat) : Prop :=
  (i = a ∨ a < i ∧ ∃ z : Nat, L[i - 1 - a]? = some (z : Int) ∧ ¬ key y < key z) ∧ (j = m ∨ j < m ∧ ∃ z : Nat, L[j - a]? = some (z : Int) ∧ key y < key z)

theorem CutR.done {key : Nat → Int} {y : Nat} {L : List Int} {a m i : Nat} (h : CutR key y L a m i i) (hL : L.Pairwise (lexLt key)) (hlr : ∀ z ∈ L, z < (y : Int)) (hm : m = a + L.length) (hmi : a ≤ i) (hib : i ≤ m) :
    (L.take (i - a) ++ (y : Int) :: L.drop (i - a)).Perm (L ++ [(y : Int)]) ∧ (L.take (i - a) ++ (y : Int) :: L.drop (i - a)).Pairwise (lexLt key) := by
  obtain ⟨h1, h2⟩ := h
  have hL' : (L.take (i - a) ++ L.drop (i - a)).Pairwise (lexLt key) := by rw [List.take_append_drop]; exact hL
  have := merge_one (x := (y : Int)) hL' ?_ ?_
  · rw [List.take_append_drop] at this
    exact ⟨this.1.trans (List.perm_append_comm (l₁ := [(y : Int)]) (l₂ := L)), this.2⟩
  · rcases h1 with h1 | ⟨h0, z, h1, h3⟩
    · intro z hz
      rw [show i - a = 0 by omega] at hz
      simp at hz
    · refine all_before (hL.sublist (List.take_sublist _ _)) (i := i - 1 - a) (y := (z : Int)) (by rw [List.length_take]; omega) (by rw [List.getElem?_take, if_pos (by omega)]; exact h1) ?_
      exact (lex_of_key (hlr _ (List.mem_of_getElem? h1))).2.1 (by simpa using h3)
  · rcases h2 with h2 | ⟨h0, z, h2, h3⟩
    · intro z hz
      rw [show i - a = L.length by omega] at hz
      simp at hz
    · refine all_behind (hL.sublist (List.drop_sublist _ _)) (y := (z : Int)) (by rw [List.getElem?_drop, Nat.add_zero]; exact h2) ?_
      exact (lex_of_key (hlr _ (List.mem_of_getElem? h2))).1.1 (by simpa using h3)

theorem at_left {A L B : List Int} {a m h : Nat} (ha : a = A.length) (hm : m = a + L.length) (h1 : a ≤ h) (h2 : h < m) : (A ++ (L ++ B))[h]? = L[h - a]? := by
  rw [List.getElem?_append_right (by omega), List.getElem?_append_left (by omega), ha]
theorem at_mid {A L B : List Int} {y : Int} {a m : Nat} (ha : a = A.length) (hm : m = a + L.length) : (A ++ (L ++ (y :: B)))[m]? = some y := by
  rw [← List.append_assoc]
  exact get_at (by rw [List.length_append]; omega)

set_option maxRecDepth 100000 in
set_option maxHeartbeats 4000000 in
theorem sym_right (g cap gc : Nat) (cb : Array Value) (N : Nat) (key : Nat → Int) (A L B : List Int) (y a m b len : Nat) (w : World) (hm1 : a + 1 < m) (hb1 : b = m + 1) (hs : SymIn g cap gc cb N key A L [(y : Int)] B a m b len w) :
    Calls Try.prog 104 #[.slice (some ⟨g, 0, none⟩) len cap, .int .i64 a, .int .i64 m, .int .i64 b, .func (.func gc) #[] cb] w (MergeGot g cap key A L [(y : Int)] B w) := by
  have HS := Lib.hid hs
  have hbl : b ≤ len := by have h1 := hs.ea; have h2 := hs.em; have h3 := hs.eb; rw [hs.elen]; simp only [List.length_append, List.length_cons, List.length_nil] at h3 ⊢; omega
  have hbnd := hs.bnd
  have t1 : ((m : Int) - (a : Int) == 1) = false := beq_eq_false_iff_ne.2 (by omega)
  have t2 : (b : Int) - (m : Int) = 1 := by omega
  have eg := hs.cmp.enter
  have hyN : y < N := by have := (hs.inN (y : Int) (by simp)).2; omega
  have HB1 := Lib.hid hb1
  have hmL := hs.em
  have HML := Lib.hid hmL
  have hmb : m < b := by omega
  clear hs hb1 hmL
  go_enter Try.func104, Try.ntmps104
  go_wp2
  go_loopw [14, 15] (fun v14 v15 wr => ∃ (i j : Nat), v14 = .int .i64 i ∧ v15 = .int .i64 j ∧ a ≤ i ∧ i ≤ j ∧ j ≤ m ∧ Hid (CutR key y L a m i j) ∧ Hid (RowI 3 .i64 wr g cap (A ++ (L ++ ((y : Int) :: B)))) ∧ Hid (Touch (fun z => z = g) w wr)) (fun v14 v15 _ => (intOf v15).toNat - (intOf v14).toNat)
  case atStart => exact ⟨a, m, rfl, rfl, Nat.le_refl _, by omega, Nat.le_refl _, Lib.hid ⟨Or.inl rfl, Or.inl rfl⟩, Lib.hid HS.out.row, Lib.hid (Touch.refl _ _)⟩
  case round =>
    obtain ⟨i, j, rfl, rfl, hi, hij, hj, hb2, hrow, ht⟩ := hrel
    clear t1 t2
    by_cases hlt : i < j
    · obtain ⟨h, hh⟩ : ∃ h, h = (i + j) / 2 := ⟨_, rfl⟩
      have hhi : ((i : Int) + (j : Int)) / 2 = (h : Int) := by omega
      have hih : i ≤ h := by omega
      have hhj : h < j := by omega
      have hmh : a ≤ h := by omega
      clear hh
      obtain ⟨z, hz, hzN⟩ := at_nat (fun x hx => HS.out.inN x (by simp [hx])) (show h - a < L.length by have := HML.out; omega)
      have ck := hrow.out.cell (j := h) (x := (z : Int)) (by rw [← hz]; exact at_left HS.out.ea HML.out hmh (by omega))
      have ca := hrow.out.cell (j := m) (x := (y : Int)) (at_mid HS.out.ea HML.out)
      have hcal : ∀ q, Calls Try.prog gc (#[.int .i64 (y : Int), .int .i64 (z : Int)] ++ cb) (wr.drewN q) fun e w' => e = .returned (.int .i64 (cmpT (key y) (key z))) ∧ ∃ n, w' = (wr.drewN q).drewN n := fun q => HS.out.cmp.call y z hyN hzN _ (ht.out.drewN q)
      obtain ⟨c, hc⟩ : ∃ c, c = cmpT (key y) (key z) := ⟨_, rfl⟩
      rw [← hc] at hcal
      have hct : decide (c < 0) = decide (key y < key z) := by rw [hc]; exact cmp_test _ _
      have HY := Lib.hid hz
      have hhb : (h : Int) < (len : Int) := by omega
      have hab : (m : Int) < (len : Int) := by omega
      have hmes : j - (h + 1) < j - i := by omega
      have hmes2 : h - i < j - i := by omega
      clear hz hc
      by_cases hkey : key y < key z
      · have hct' : decide (c < 0) = true := by rw [hct]; exact decide_eq_true hkey
        have hc0 : c < 0 := of_decide_eq_true hct'
        have HK := Lib.hid hkey
        clear hct hct' hkey
        go_wp2_with fail
        go_quiet ((go_at_fn gc; exact Calls.quiet_of (hcal _)))
        go_wp2
        go_roundw
        case rel => exact ⟨i, h, rfl, rfl, hi, hih, by omega, Lib.hid ⟨hb2.out.1, Or.inr ⟨by omega, z, HY.out, HK.out⟩⟩, Lib.hid (hrow.out.drewN _), Lib.hid (ht.out.drewN _)⟩
        case measure => simp [intOf]; omega
      · have hct' : decide (c < 0) = false := by rw [hct]; exact decide_eq_false hkey
        have hc0 : ¬ c < 0 := of_decide_eq_false hct'
        have hc1 : 0 ≤ c := by omega
        have hnot : (!decide (c < 0)) = true := by rw [hct']; rfl
        have HK := Lib.hid hkey
        clear hct hct' hkey hc0
        go_wp2_with fail
        go_quiet ((go_at_fn gc; exact Calls.quiet_of (hcal _)))
        go_wp2
        go_roundw
        case rel => exact ⟨h + 1, j, by go_num, rfl, by omega, by omega, hj, Lib.hid ⟨Or.inr ⟨by omega, z, by rw [Nat.add_sub_cancel]; exact HY.out, by have := HK.out; omega⟩, hb2.out.2⟩, Lib.hid (hrow.out.drewN _), Lib.hid (ht.out.drewN _)⟩
        case measure => simp [intOf]; omega
    · have hije : i = j := by omega
      subst hije
      obtain ⟨k0, hk0⟩ : ∃ k0, k0 = i - a := ⟨_, rfl⟩
      have hik : i = a + k0 := by omega
      have hkL : k0 ≤ L.length := by have := HML.out; omega
      have hend : Hid ((L.take k0 ++ (y : Int) :: L.drop k0).Perm (L ++ [(y : Int)]) ∧ (L.take k0 ++ (y : Int) :: L.drop k0).Pairwise (lexLt key)) := Lib.hid (by
        have := hb2.out.done HS.out.sl (fun z hz => HS.out.lr _ hz _ (by simp)) HML.out hi hj
        rw [← hk0] at this
        exact this)
      have h00 : Hid (onWay A L B y L.length = A ++ (L ++ ((y : Int) :: B))) := Lib.hid (by unfold onWay; simp)
      have HIK := Lib.hid hik
      clear hk0 hb2 hik
      go_wp2
      go_loopw [17] (fun v17 wr => ∃ p q : Nat, k0 ≤ p ∧ p ≤ L.length ∧ Hid (q = a + p) ∧ v17 = .int .i64 (q : Int) ∧ Hid (RowI 3 .i64 wr g cap (onWay A L B y p)) ∧ Hid (Touch (fun z => z = g) w wr)) (fun v17 _ => (intOf v17).toNat)
      case atStart => exact ⟨L.length, m, hkL, Nat.le_refl _, Lib.hid HML.out, rfl, Lib.hid (by rw [h00.out]; exact hrow.out), ht⟩
      case round =>
        obtain ⟨p, q, hp, hpL, hq, rfl, hrow2, ht2⟩ := hrel
        by_cases hlt2 : k0 < p
        · obtain ⟨p', rfl⟩ : ∃ p', p = p' + 1 := ⟨p - 1, by omega⟩
          obtain ⟨q', rfl⟩ : ∃ q', q = q' + 1 := ⟨q - 1, by have := hq.out; omega⟩
          obtain ⟨z, _, _, e1, e2, _, _, e3, e4⟩ := onWay_next (A := A) (B := B) (x := (y : Int)) (show p' < L.length by omega)
          have hq' : q' = A.length + p' := by have h1 := HS.out.ea; have h2 := hq.out; omega
          rw [← hq'] at e1 e2 e3 e4
          have c1 := hrow2.out.cell e1
          have c2 := hrow2.out.cell e2
          have f1 := hrow2.out.free q'
          have f2 := hrow2.out.free (q' + 1)
          have R1 : Hid (RowI 3 .i64 ((wr.setCell ⟨g, q', none⟩ (.int .i64 y)).setCell ⟨g, q' + 1, none⟩ (.int .i64 z)) g cap (onWay A L B y p')) := Lib.hid (by have := (hrow2.out.put q' y).put (q' + 1) z; rw [e3] at this; exact this)
          have R2 : Hid (RowI 3 .i64 ((wr.setCell ⟨g, q' + 1, none⟩ (.int .i64 z)).setCell ⟨g, q', none⟩ (.int .i64 y)) g cap (onWay A L B y p')) := Lib.hid (by have := (hrow2.out.put (q' + 1) z).put q' y; rw [e4] at this; exact this)
          have hqo := hq.out
          have hqN : (q' : Int) + 1 < (len : Int) := by have := HML.out; omega
          have hqN' : (q' : Int) < (len : Int) := by omega
          have hqi : (i : Int) < (q' : Int) + 1 := by have := HIK.out; omega
          clear e1 e2 e3 e4 hrow2 hqo hq'
          go_wp2_with fail
          go_region
          go_wp2
          go_roundw
          case rel => exact ⟨p', q', by omega, by omega, Lib.hid (by have := hq.out; omega), by go_num, by first | exact R1 | exact R2, Lib.hid (((ht2.out.set rfl _).set rfl _).drew)⟩
          case measure => first | (simp [intOf]; done) | (simp [intOf]; omega)
        · have hpk : p = k0 := by omega
          subst hpk
          have hqi : ¬ (i : Int) < (q : Int) := by have := HIK.out; have := hq.out; omega
          go_wp2
          go_end0
          exact ⟨rfl, _, hend.out.1, hend.out.2, by have := hrow2.out; unfold onWay at this; simpa using this, ht2.out⟩

end Go.Proofs.Ytigpghmbeldakaa
