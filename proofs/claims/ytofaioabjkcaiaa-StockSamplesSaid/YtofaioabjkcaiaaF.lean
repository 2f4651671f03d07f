/- with: the halves. -/
import Derived.Test.YtofaioabjkcaiaaE
namespace Go.Proofs.Ytofaioabjkcaiaa
open Go.RowKit

theorem nodeAt_new (w : World) (lo hi : Int) (p : Pk) (l r : Option Addr) :
    NodeAt (w.alloc (.cells #[.int .i64 lo, .int .i64 hi, .int .i64 p.st, .int .i64 p.lot, .int .i64 p.own, .int .i64 p.hold, .pointer l, .pointer r] 126)) w.heap.size lo hi p l r := by
  exact ⟨by go_simp, by go_simp, by go_simp, by go_simp, by go_simp, by go_simp, by go_simp, by go_simp, Plain.new _ _⟩

theorem pk_ne {p q : Pk} (h : p ≠ q) : ¬ (p.st = q.st ∧ p.lot = q.lot ∧ p.own = q.own ∧ p.hold = q.hold) := fun k => h (by cases p; cases q; simp_all)

/-- What the two calls of itself give. -/
def Halved (w2 : World) (tl tr : Tree) (lo hi a c : Int) (F : Pk → Pk) (s8 s9 : Value) (wc : World) : Prop :=
  ∃ b5 b6 t5 t6, s8 = .pointer (some ⟨b5, 0, none⟩) ∧ s9 = .pointer (some ⟨b6, 0, none⟩) ∧ IsTree wc b5 t5 ∧ IsTree wc b6 t6 ∧ t5.ok lo (mid lo hi) ∧ t6.ok (mid lo hi + 1) hi ∧
    (∀ n, lo ≤ n → n ≤ mid lo hi → t5.look n = if a ≤ n ∧ n ≤ c then F (tl.look n) else tl.look n) ∧ (∀ n, mid lo hi + 1 ≤ n → n ≤ hi → t6.look n = if a ≤ n ∧ n ≤ c then F (tr.look n) else tr.look n) ∧ Adds w2 wc

set_option maxRecDepth 100000 in
set_option maxHeartbeats 2000000 in
theorem with_split (b g : Nat) (lb : Array Value) (F : Pk → Pk) (t : Tree) (lo hi a c : Int) (w : World) (ht : IsTree w b t) (hok : t.ok lo hi) (h1 : 1 ≤ lo) (h2 : lo < hi) (h3 : hi ≤ 1000000)
    (ha : 1 ≤ a) (hc : c ≤ 1000000) (hin1 : lo ≤ c) (hin2 : a ≤ hi) (hac : a ≤ c) (hno : ¬ (a ≤ lo ∧ hi ≤ c) ∨ ∃ x y p l r, t = .node x y p l r)
    (ih : ∀ (t' : Tree) (b' : Nat) (lo' hi' : Int) (w' : World), lo' ≤ hi' → hi' - lo' < hi - lo → Adds w w' → IsTree w' b' t' → t'.ok lo' hi' → 1 ≤ lo' → hi' ≤ 1000000 →
      Calls Try.prog 106 #[.pointer (some ⟨b', 0, none⟩), .agg #[.int .i64 a, .int .i64 c], .func (.func g) #[] lb] w' (Withed w' t' lo' hi' a c F)) :
    Calls Try.prog 106 #[.pointer (some ⟨b, 0, none⟩), .agg #[.int .i64 a, .int .i64 c], .func (.func g) #[] lb] w (Withed w t lo hi a c F) := by
  have HT := Lib.hid ht
  have HOK := Lib.hid hok
  have HNO := Lib.hid hno
  have IH := Lib.hid ih
  clear hno ih
  have hn : ∃ p l r, NodeAt w b lo hi p l r := by
    cases t with
    | leaf x y p => obtain ⟨rfl, rfl, _⟩ := hok; exact ⟨p, none, none, ht⟩
    | node x y p l r => obtain ⟨rfl, rfl, _⟩ := hok; obtain ⟨bl, br, h, _⟩ := ht; exact ⟨p, _, _, h⟩
  clear ht hok
  obtain ⟨p, l, r, c0, c1, c2, c3, c4, c5, c6, c7, _⟩ := hn
  clear c2 c3 c4 c5 c6 c7
  have hlt := cell_lt c0
  have hz1 : -1000000 ≤ min hi c := by omega
  have hz2 : min hi c ≤ 1000000 := by omega
  have hz3 : -1000000 ≤ max lo a := by omega
  have hz4 : max lo a ≤ 1000000 := by omega
  have hz5 : ¬ (min hi c - max lo a + 1 < 1) := by omega
  go_enter Try.func106, Try.ntmps106
  go_wp2_with fail
  have HP : TwoAt (w.alloc (.cells #[.int .i64 a, .int .i64 c] 124)) w.heap.size a c := by constructor <;> go_simp
  go_cut [7] (fun s7 wc => Begun w lo hi a c s7 wc)
  case first =>
    go_region_held3 (fun w' => w'.cell? ⟨b, 0, none⟩ = some (.int .i64 lo) ∧ w'.cell? ⟨b, 1, none⟩ = some (.int .i64 hi) ∧ w'.cell? ⟨w.heap.size, 0, none⟩ = some (.int .i64 a) ∧ w'.cell? ⟨w.heap.size, 1, none⟩ = some (.int .i64 c))
      (first | (go_keep; done) | (refine ⟨keep_cell ?_ c0, keep_cell ?_ c1, keep_cell ?_ HP.1, keep_cell ?_ HP.2⟩ <;> repeat (first | exact Adds.refl _ | exact hb | exact hb5 | exact hb6 | apply Adds.drew | apply Adds.drewN | apply Adds.alloc | refine Adds.set ?_ (by first | (simp; done) | (simp; omega)) _ | refine Adds.trans ?_ hb | refine Adds.trans ?_ hb5 | refine Adds.trans ?_ hb6)) | ((repeat' apply And.intro) <;> go_keep))
      ((go_simp; go_at_call 114; refine (common_any lo hi a c _).mono ?_; rintro e w1 ⟨rfl, hb⟩; obtain ⟨hc, hf⟩ := bcell hb))
    all_goals
      go_wp2_with fail
      go_meet
      exact ⟨_, rfl, ⟨by go_simp, by go_simp⟩, HP.later (by repeat (first | exact Adds.refl _ | exact hb | exact hb5 | exact hb6 | apply Adds.drew | apply Adds.drewN | apply Adds.alloc | refine Adds.set ?_ (by first | (simp; done) | (simp; omega)) _ | refine Adds.trans ?_ hb | refine Adds.trans ?_ hb5 | refine Adds.trans ?_ hb6)), by repeat (first | exact Adds.refl _ | exact hb | exact hb5 | exact hb6 | apply Adds.drew | apply Adds.drewN | apply Adds.alloc | refine Adds.set ?_ (by first | (simp; done) | (simp; omega)) _ | refine Adds.trans ?_ hb | refine Adds.trans ?_ hb5 | refine Adds.trans ?_ hb6)⟩
  case rest =>
    obtain ⟨x, rfl, hx, hp, hb⟩ := hcut
    obtain ⟨x0, x1⟩ := hx
    clear c0 c1 HP
    go_wp2_with (go_at_call 67; refine (count_any (max lo a) (min hi c) _ (by omega) (by omega) (by omega) (by omega)).mono ?_; rintro e w1 ⟨rfl, hb1⟩)
    have hw : Adds w w1 := hb.trans hb1
    have HT1 := Lib.hid (HT.out.later hw)
    have hx := TwoAt.later ⟨x0, x1⟩ hb1
    have hp1 := hp.later hb1
    clear x0 x1 hb hb1 hp
    go_cut [29] (fun s29 wc => s29 = .bool false ∧ Adds w1 wc)
    case first =>
      cases t with
      | leaf lo1 hi1 p1 =>
        obtain ⟨e1, e2, _⟩ := HOK.out
        subst e1; subst e2
        obtain ⟨c0, c1, c2, c3, c4, c5, c6, c7, _⟩ := HT1.out
        obtain ⟨x0, x1⟩ := hx
        have hf : ¬ (max lo1 a = lo1 ∧ min hi1 c = hi1) := by
          rcases HNO.out with h | ⟨_, _, _, _, _, h⟩
          · omega
          · cases h
        have HF := Lib.hid hf
        clear hf
        by_cases hq : max lo1 a = lo1
        · have q1 : (max lo1 a == lo1) = true := by rw [hq]; exact beq_self_eq_true _
          have q2 : (min hi1 c == hi1) = false := beq_eq_false_iff_ne.2 (fun h => HF.out ⟨hq, h⟩)
          clear hq
          go_quiet ((go_at_call 98; exact Calls.quiet_of_same ((uniform_leaf b _ (by assumption)).mono (fun _ _ h => ⟨h.1, h.2.symm⟩))))
          go_wp2_with fail
          go_meet
          exact ⟨rfl, (Adds.refl _).drewN _⟩
        · have q1 : (max lo1 a == lo1) = false := beq_eq_false_iff_ne.2 hq
          clear hq
          go_quiet ((go_at_call 98; exact Calls.quiet_of_same ((uniform_leaf b _ (by assumption)).mono (fun _ _ h => ⟨h.1, h.2.symm⟩))))
          go_wp2_with fail
          go_meet
          exact ⟨rfl, (Adds.refl _).drewN _⟩
      | node lo1 hi1 p1 l1 r1 =>
        obtain ⟨e1, e2, _⟩ := HOK.out
        subst e1; subst e2
        obtain ⟨bl, br, ⟨c0, c1, c2, c3, c4, c5, c6, c7, _⟩, _, _⟩ := HT1.out
        go_quiet ((go_at_call 98; exact Calls.quiet_of_same ((uniform_node b bl _ (by assumption)).mono (fun _ _ h => ⟨h.1, h.2.symm⟩))))
        go_wp2_with fail
        go_meet
        exact ⟨rfl, (Adds.refl _).drewN _⟩
    case rest =>
      obtain ⟨rfl, hb⟩ := hcut
      have hw1 : Adds w wc := hw.trans hb
      have hp2 := hp1.later hb
      have HT2 := Lib.hid (HT.out.later hw1)
      clear hx hp1 hb hw HT1
      go_wp2_with (go_at_call 115; refine (halves_any b t lo hi _ HT2.out HOK.out (by omega) (by omega) (by omega)).mono ?_; rintro e w2 ⟨bl, br, tl, tr, rfl, hb2, htl, htr, okl, okr, lookl, lookr⟩)
      have hm := mid_bd h2
      have HTL := Lib.hid htl
      have HTR := Lib.hid htr
      have HOL := Lib.hid okl
      have HOR := Lib.hid okr
      have HLL := Lib.hid lookl
      have HLR := Lib.hid lookr
      have hw2 : Adds w w2 := hw1.trans hb2
      obtain ⟨p0, p1⟩ := hp2.later hb2
      clear htl htr okl okr lookl lookr hp2 hb2 hw1 HT2
      skip
      go_cut [8, 9] (fun s8 s9 wc => Halved w2 tl tr lo hi a c F s8 s9 wc)
      case first =>
        go_region_held3 (fun w' => w'.cell? ⟨w.heap.size, 0, none⟩ = some (.int .i64 a) ∧ w'.cell? ⟨w.heap.size, 1, none⟩ = some (.int .i64 c))
          (first | (go_keep; done) | (refine ⟨keep_cell ?_ p0, keep_cell ?_ p1⟩ <;> repeat (first | exact Adds.refl _ | exact hb | exact hb5 | exact hb6 | apply Adds.drew | apply Adds.drewN | apply Adds.alloc | refine Adds.set ?_ (by first | (simp; done) | (simp; omega)) _ | refine Adds.trans ?_ hb | refine Adds.trans ?_ hb5 | refine Adds.trans ?_ hb6)) | ((repeat' apply And.intro) <;> go_keep))
          ((first
            | (go_simp; (with_reducible refine (IH.out tl bl lo (mid lo hi) _ (by omega) (by omega) (by exact hw2.drew) (by exact HTL.out.later (Adds.refl _).drew) HOL.out (by omega) (by omega)).mono ?_); rintro e w5 ⟨b5, t5, rfl, ht5, ok5, look5, hb5⟩)
            | (go_simp; (with_reducible refine (IH.out tr br (mid lo hi + 1) hi _ (by omega) (by omega) (by exact hw2.drew.trans hb5) (by exact HTR.out.later ((Adds.refl _).drew.trans hb5)) HOR.out (by omega) (by omega)).mono ?_); rintro e w6 ⟨b6, t6, rfl, ht6, ok6, look6, hb6⟩)))
        go_wp2_with fail
        go_meet
        exact ⟨b5, b6, t5, t6, rfl, rfl, ht5.later (by repeat (first | exact Adds.refl _ | exact hb | exact hb5 | exact hb6 | apply Adds.drew | apply Adds.drewN | apply Adds.alloc | refine Adds.set ?_ (by first | (simp; done) | (simp; omega)) _ | refine Adds.trans ?_ hb | refine Adds.trans ?_ hb5 | refine Adds.trans ?_ hb6)), ht6, ok5, ok6, look5, look6, by repeat (first | exact Adds.refl _ | exact hb | exact hb5 | exact hb6 | apply Adds.drew | apply Adds.drewN | apply Adds.alloc | refine Adds.set ?_ (by first | (simp; done) | (simp; omega)) _ | refine Adds.trans ?_ hb | refine Adds.trans ?_ hb5 | refine Adds.trans ?_ hb6)⟩
      case rest =>
        obtain ⟨b5, b6, t5, t6, rfl, rfl, ht5, ht6, ok5, ok6, look5, look6, hb3⟩ := hcut
        have hw3 : Adds w wc := hw2.trans hb3
        have hn : ∃ p l r, NodeAt w b lo hi p l r := by
          have hok := HOK.out
          have ht := HT.out
          cases t with
          | leaf x y p => obtain ⟨e1, e2, _⟩ := hok; subst e1; subst e2; exact ⟨p, none, none, ht⟩
          | node x y p l r => obtain ⟨e1, e2, _⟩ := hok; subst e1; subst e2; obtain ⟨bl, br, h, _⟩ := ht; exact ⟨p, _, _, h⟩
        obtain ⟨p', l', r', hn⟩ := hn
        obtain ⟨c0, c1, _, _, _, _, _, _⟩ := hn.later hw3
        have HL : Hid (∀ n, lo ≤ n → n ≤ hi → (if n ≤ mid lo hi then t5.look n else t6.look n) = if a ≤ n ∧ n ≤ c then F (t.look n) else t.look n) := by
          apply Lib.hid
          intro n k1 k2
          by_cases hk : n ≤ mid lo hi
          · rw [if_pos hk, look5 n k1 hk, HLL.out n hk]
          · rw [if_neg hk, look6 n (by omega) k2, HLR.out n (by omega)]
        have HO5 := Lib.hid ok5
        have HO6 := Lib.hid ok6
        clear look5 look6 ok5 ok6 p0 p1 hn
        cases t5 with
        | node x5 y5 q5 l5 r5 =>
          have HT5 := Lib.hid ht5
          have HT6 := Lib.hid ht6
          obtain ⟨bl5, br5, ⟨g0, g1, g2, g3, g4, g5, g6, g7⟩, _, _⟩ := ht5
          clear ht6
          go_wp2_with fail
          go_quiet ((go_at_call_of 98 (Value.pointer (some ⟨b5, 0, none⟩)); exact Calls.quiet_of_same ((uniform_node b5 bl5 _ (by assumption)).mono (fun _ _ h => ⟨h.1, h.2.symm⟩))))
          go_wp2
          go_ret
          refine ⟨_, .node lo hi ⟨0, 0, 0, 0⟩ (.node x5 y5 q5 l5 r5) t6, rfl, ⟨b5, b6, ?_, ?_, ?_⟩, ⟨rfl, rfl, h2, HO5.out, HO6.out⟩, ?_, ?_⟩
          · exact nodeAt_new _ lo hi ⟨0, 0, 0, 0⟩ _ _
          · exact HT5.out.later (by repeat (first | exact Adds.refl _ | exact hb | exact hb5 | exact hb6 | apply Adds.drew | apply Adds.drewN | apply Adds.alloc | refine Adds.set ?_ (by first | (simp; done) | (simp; omega)) _ | refine Adds.trans ?_ hb | refine Adds.trans ?_ hb5 | refine Adds.trans ?_ hb6))
          · exact HT6.out.later (by repeat (first | exact Adds.refl _ | exact hb | exact hb5 | exact hb6 | apply Adds.drew | apply Adds.drewN | apply Adds.alloc | refine Adds.set ?_ (by first | (simp; done) | (simp; omega)) _ | refine Adds.trans ?_ hb | refine Adds.trans ?_ hb5 | refine Adds.trans ?_ hb6))
          · intro n k1 k2
            rw [look_node, Tree.ok_hi HO5.out]
            exact HL.out n k1 k2
          · exact hw3.trans (by repeat (first | exact Adds.refl _ | exact hb | exact hb5 | exact hb6 | apply Adds.drew | apply Adds.drewN | apply Adds.alloc | refine Adds.set ?_ (by first | (simp; done) | (simp; omega)) _ | refine Adds.trans ?_ hb | refine Adds.trans ?_ hb5 | refine Adds.trans ?_ hb6))
        | leaf x5 y5 q5 =>
          have HT5 := Lib.hid ht5
          have HT6 := Lib.hid ht6
          obtain ⟨g0, g1, g2, g3, g4, g5, g6, g7⟩ := ht5
          cases t6 with
          | node x6 y6 q6 l6 r6 =>
            obtain ⟨bl6, br6, ⟨j0, j1, j2, j3, j4, j5, j6, j7⟩, _, _⟩ := ht6
            go_wp2_with fail
            go_quiet ((first | (go_at_call_of 98 (Value.pointer (some ⟨b5, 0, none⟩)); exact Calls.quiet_of_same ((uniform_leaf b5 _ (by assumption)).mono (fun _ _ h => ⟨h.1, h.2.symm⟩))) | (go_at_call_of 98 (Value.pointer (some ⟨b6, 0, none⟩)); exact Calls.quiet_of_same ((uniform_node b6 bl6 _ (by assumption)).mono (fun _ _ h => ⟨h.1, h.2.symm⟩)))))
            go_wp2
            go_ret
            refine ⟨_, .node lo hi ⟨0, 0, 0, 0⟩ (.leaf x5 y5 q5) (.node x6 y6 q6 l6 r6), rfl, ⟨b5, b6, ?_, ?_, ?_⟩, ⟨rfl, rfl, h2, HO5.out, HO6.out⟩, ?_, ?_⟩
            · exact nodeAt_new _ lo hi ⟨0, 0, 0, 0⟩ _ _
            · exact HT5.out.later (by repeat (first | exact Adds.refl _ | exact hb | exact hb5 | exact hb6 | apply Adds.drew | apply Adds.drewN | apply Adds.alloc | refine Adds.set ?_ (by first | (simp; done) | (simp; omega)) _ | refine Adds.trans ?_ hb | refine Adds.trans ?_ hb5 | refine Adds.trans ?_ hb6))
            · exact HT6.out.later (by repeat (first | exact Adds.refl _ | exact hb | exact hb5 | exact hb6 | apply Adds.drew | apply Adds.drewN | apply Adds.alloc | refine Adds.set ?_ (by first | (simp; done) | (simp; omega)) _ | refine Adds.trans ?_ hb | refine Adds.trans ?_ hb5 | refine Adds.trans ?_ hb6))
            · intro n k1 k2
              rw [look_node, Tree.ok_hi HO5.out]
              exact HL.out n k1 k2
            · exact hw3.trans (by repeat (first | exact Adds.refl _ | exact hb | exact hb5 | exact hb6 | apply Adds.drew | apply Adds.drewN | apply Adds.alloc | refine Adds.set ?_ (by first | (simp; done) | (simp; omega)) _ | refine Adds.trans ?_ hb | refine Adds.trans ?_ hb5 | refine Adds.trans ?_ hb6))
          | leaf x6 y6 q6 =>
            obtain ⟨j0, j1, j2, j3, j4, j5, j6, j7⟩ := ht6
            by_cases hq : q5 = q6
            · subst hq
              go_wp2_with fail
              go_quiet ((first | (go_at_call_of 98 (Value.pointer (some ⟨b5, 0, none⟩)); exact Calls.quiet_of_same ((uniform_leaf b5 _ (by assumption)).mono (fun _ _ h => ⟨h.1, h.2.symm⟩))) | (go_at_call_of 98 (Value.pointer (some ⟨b6, 0, none⟩)); exact Calls.quiet_of_same ((uniform_leaf b6 _ (by assumption)).mono (fun _ _ h => ⟨h.1, h.2.symm⟩)))))
              go_wp2_with fail
              go_region_held3 (fun w' => w'.cell? ⟨b, 0, none⟩ = some (.int .i64 lo) ∧ w'.cell? ⟨b, 1, none⟩ = some (.int .i64 hi) ∧ w'.cell? ⟨b5, 2, none⟩ = some (.int .i64 q5.st) ∧ w'.cell? ⟨b5, 3, none⟩ = some (.int .i64 q5.lot) ∧ w'.cell? ⟨b5, 4, none⟩ = some (.int .i64 q5.own) ∧ w'.cell? ⟨b5, 5, none⟩ = some (.int .i64 q5.hold))
                (first | (go_keep; done) | (refine ⟨keep_cell ?_ c0, keep_cell ?_ c1, keep_cell ?_ g2, keep_cell ?_ g3, keep_cell ?_ g4, keep_cell ?_ g5⟩ <;> repeat (first | exact Adds.refl _ | exact hb | exact hb5 | exact hb6 | apply Adds.drew | apply Adds.drewN | apply Adds.alloc | refine Adds.set ?_ (by first | (simp; done) | (simp; omega)) _ | refine Adds.trans ?_ hb | refine Adds.trans ?_ hb5 | refine Adds.trans ?_ hb6)) | ((repeat' apply And.intro) <;> go_keep))
                (fail)
              go_wp2
              go_ret
              refine ⟨_, .leaf lo hi q5, rfl, nodeAt_new _ lo hi q5 _ _, ⟨rfl, rfl, by omega⟩, ?_, hw3.trans (by repeat (first | exact Adds.refl _ | exact hb | exact hb5 | exact hb6 | apply Adds.drew | apply Adds.drewN | apply Adds.alloc | refine Adds.set ?_ (by first | (simp; done) | (simp; omega)) _ | refine Adds.trans ?_ hb | refine Adds.trans ?_ hb5 | refine Adds.trans ?_ hb6))⟩
              intro n k1 k2
              rw [← HL.out n k1 k2]
              by_cases hk : n ≤ mid lo hi
              · rw [if_pos hk]; rfl
              · rw [if_neg hk]; rfl
            · have HQ := Lib.hid (pk_ne hq)
              clear hq
              by_cases k0 : q5.st = q6.st
              · have e0 : (q5.st == q6.st) = true := beq_iff_eq.2 k0
                have K0 := Lib.hid k0
                clear k0
                by_cases k1 : q5.lot = q6.lot
                · have e1 : (q5.lot == q6.lot) = true := beq_iff_eq.2 k1
                  have K1 := Lib.hid k1
                  clear k1
                  by_cases k2 : q5.own = q6.own
                  · have e2 : (q5.own == q6.own) = true := beq_iff_eq.2 k2
                    have K2 := Lib.hid k2
                    clear k2
                    have e3 : (q5.hold == q6.hold) = false := beq_eq_false_iff_ne.2 (fun k3 => HQ.out ⟨K0.out, K1.out, K2.out, k3⟩)
                    clear HQ K0 K1 K2
                    go_wp2_with fail
                    go_quiet ((first | (go_at_call_of 98 (Value.pointer (some ⟨b5, 0, none⟩)); exact Calls.quiet_of_same ((uniform_leaf b5 _ (by assumption)).mono (fun _ _ h => ⟨h.1, h.2.symm⟩))) | (go_at_call_of 98 (Value.pointer (some ⟨b6, 0, none⟩)); exact Calls.quiet_of_same ((uniform_leaf b6 _ (by assumption)).mono (fun _ _ h => ⟨h.1, h.2.symm⟩)))))
                    go_wp2
                    go_ret
                    refine ⟨_, .node lo hi ⟨0, 0, 0, 0⟩ (.leaf x5 y5 q5) (.leaf x6 y6 q6), rfl, ⟨b5, b6, ?_, ?_, ?_⟩, ⟨rfl, rfl, h2, HO5.out, HO6.out⟩, ?_, ?_⟩
                    · exact nodeAt_new _ lo hi ⟨0, 0, 0, 0⟩ _ _
                    · exact HT5.out.later (by repeat (first | exact Adds.refl _ | exact hb | exact hb5 | exact hb6 | apply Adds.drew | apply Adds.drewN | apply Adds.alloc | refine Adds.set ?_ (by first | (simp; done) | (simp; omega)) _ | refine Adds.trans ?_ hb | refine Adds.trans ?_ hb5 | refine Adds.trans ?_ hb6))
                    · exact HT6.out.later (by repeat (first | exact Adds.refl _ | exact hb | exact hb5 | exact hb6 | apply Adds.drew | apply Adds.drewN | apply Adds.alloc | refine Adds.set ?_ (by first | (simp; done) | (simp; omega)) _ | refine Adds.trans ?_ hb | refine Adds.trans ?_ hb5 | refine Adds.trans ?_ hb6))
                    · intro n k1 k2
                      rw [look_node, Tree.ok_hi HO5.out]
                      exact HL.out n k1 k2
                    · exact hw3.trans (by repeat (first | exact Adds.refl _ | exact hb | exact hb5 | exact hb6 | apply Adds.drew | apply Adds.drewN | apply Adds.alloc | refine Adds.set ?_ (by first | (simp; done) | (simp; omega)) _ | refine Adds.trans ?_ hb | refine Adds.trans ?_ hb5 | refine Adds.trans ?_ hb6))
                  · have e2 : (q5.own == q6.own) = false := beq_eq_false_iff_ne.2 k2
                    clear k2 HQ
                    go_wp2_with fail
                    go_quiet ((first | (go_at_call_of 98 (Value.pointer (some ⟨b5, 0, none⟩)); exact Calls.quiet_of_same ((uniform_leaf b5 _ (by assumption)).mono (fun _ _ h => ⟨h.1, h.2.symm⟩))) | (go_at_call_of 98 (Value.pointer (some ⟨b6, 0, none⟩)); exact Calls.quiet_of_same ((uniform_leaf b6 _ (by assumption)).mono (fun _ _ h => ⟨h.1, h.2.symm⟩)))))
                    go_wp2
                    go_ret
                    refine ⟨_, .node lo hi ⟨0, 0, 0, 0⟩ (.leaf x5 y5 q5) (.leaf x6 y6 q6), rfl, ⟨b5, b6, ?_, ?_, ?_⟩, ⟨rfl, rfl, h2, HO5.out, HO6.out⟩, ?_, ?_⟩
                    · exact nodeAt_new _ lo hi ⟨0, 0, 0, 0⟩ _ _
                    · exact HT5.out.later (by repeat (first | exact Adds.refl _ | exact hb | exact hb5 | exact hb6 | apply Adds.drew | apply Adds.drewN | apply Adds.alloc | refine Adds.set ?_ (by first | (simp; done) | (simp; omega)) _ | refine Adds.trans ?_ hb | refine Adds.trans ?_ hb5 | refine Adds.trans ?_ hb6))
                    · exact HT6.out.later (by repeat (first | exact Adds.refl _ | exact hb | exact hb5 | exact hb6 | apply Adds.drew | apply Adds.drewN | apply Adds.alloc | refine Adds.set ?_ (by first | (simp; done) | (simp; omega)) _ | refine Adds.trans ?_ hb | refine Adds.trans ?_ hb5 | refine Adds.trans ?_ hb6))
                    · intro n k1 k2
                      rw [look_node, Tree.ok_hi HO5.out]
                      exact HL.out n k1 k2
                    · exact hw3.trans (by repeat (first | exact Adds.refl _ | exact hb | exact hb5 | exact hb6 | apply Adds.drew | apply Adds.drewN | apply Adds.alloc | refine Adds.set ?_ (by first | (simp; done) | (simp; omega)) _ | refine Adds.trans ?_ hb | refine Adds.trans ?_ hb5 | refine Adds.trans ?_ hb6))
                · have e1 : (q5.lot == q6.lot) = false := beq_eq_false_iff_ne.2 k1
                  clear k1 HQ
                  go_wp2_with fail
                  go_quiet ((first | (go_at_call_of 98 (Value.pointer (some ⟨b5, 0, none⟩)); exact Calls.quiet_of_same ((uniform_leaf b5 _ (by assumption)).mono (fun _ _ h => ⟨h.1, h.2.symm⟩))) | (go_at_call_of 98 (Value.pointer (some ⟨b6, 0, none⟩)); exact Calls.quiet_of_same ((uniform_leaf b6 _ (by assumption)).mono (fun _ _ h => ⟨h.1, h.2.symm⟩)))))
                  go_wp2
                  go_ret
                  refine ⟨_, .node lo hi ⟨0, 0, 0, 0⟩ (.leaf x5 y5 q5) (.leaf x6 y6 q6), rfl, ⟨b5, b6, ?_, ?_, ?_⟩, ⟨rfl, rfl, h2, HO5.out, HO6.out⟩, ?_, ?_⟩
                  · exact nodeAt_new _ lo hi ⟨0, 0, 0, 0⟩ _ _
                  · exact HT5.out.later (by repeat (first | exact Adds.refl _ | exact hb | exact hb5 | exact hb6 | apply Adds.drew | apply Adds.drewN | apply Adds.alloc | refine Adds.set ?_ (by first | (simp; done) | (simp; omega)) _ | refine Adds.trans ?_ hb | refine Adds.trans ?_ hb5 | refine Adds.trans ?_ hb6))
                  · exact HT6.out.later (by repeat (first | exact Adds.refl _ | exact hb | exact hb5 | exact hb6 | apply Adds.drew | apply Adds.drewN | apply Adds.alloc | refine Adds.set ?_ (by first | (simp; done) | (simp; omega)) _ | refine Adds.trans ?_ hb | refine Adds.trans ?_ hb5 | refine Adds.trans ?_ hb6))
                  · intro n k1 k2
                    rw [look_node, Tree.ok_hi HO5.out]
                    exact HL.out n k1 k2
                  · exact hw3.trans (by repeat (first | exact Adds.refl _ | exact hb | exact hb5 | exact hb6 | apply Adds.drew | apply Adds.drewN | apply Adds.alloc | refine Adds.set ?_ (by first | (simp; done) | (simp; omega)) _ | refine Adds.trans ?_ hb | refine Adds.trans ?_ hb5 | refine Adds.trans ?_ hb6))
              · have e0 : (q5.st == q6.st) = false := beq_eq_false_iff_ne.2 k0
                clear k0 HQ
                go_wp2_with fail
                go_quiet ((first | (go_at_call_of 98 (Value.pointer (some ⟨b5, 0, none⟩)); exact Calls.quiet_of_same ((uniform_leaf b5 _ (by assumption)).mono (fun _ _ h => ⟨h.1, h.2.symm⟩))) | (go_at_call_of 98 (Value.pointer (some ⟨b6, 0, none⟩)); exact Calls.quiet_of_same ((uniform_leaf b6 _ (by assumption)).mono (fun _ _ h => ⟨h.1, h.2.symm⟩)))))
                go_wp2
                go_ret
                refine ⟨_, .node lo hi ⟨0, 0, 0, 0⟩ (.leaf x5 y5 q5) (.leaf x6 y6 q6), rfl, ⟨b5, b6, ?_, ?_, ?_⟩, ⟨rfl, rfl, h2, HO5.out, HO6.out⟩, ?_, ?_⟩
                · exact nodeAt_new _ lo hi ⟨0, 0, 0, 0⟩ _ _
                · exact HT5.out.later (by repeat (first | exact Adds.refl _ | exact hb | exact hb5 | exact hb6 | apply Adds.drew | apply Adds.drewN | apply Adds.alloc | refine Adds.set ?_ (by first | (simp; done) | (simp; omega)) _ | refine Adds.trans ?_ hb | refine Adds.trans ?_ hb5 | refine Adds.trans ?_ hb6))
                · exact HT6.out.later (by repeat (first | exact Adds.refl _ | exact hb | exact hb5 | exact hb6 | apply Adds.drew | apply Adds.drewN | apply Adds.alloc | refine Adds.set ?_ (by first | (simp; done) | (simp; omega)) _ | refine Adds.trans ?_ hb | refine Adds.trans ?_ hb5 | refine Adds.trans ?_ hb6))
                · intro n k1 k2
                  rw [look_node, Tree.ok_hi HO5.out]
                  exact HL.out n k1 k2
                · exact hw3.trans (by repeat (first | exact Adds.refl _ | exact hb | exact hb5 | exact hb6 | apply Adds.drew | apply Adds.drewN | apply Adds.alloc | refine Adds.set ?_ (by first | (simp; done) | (simp; omega)) _ | refine Adds.trans ?_ hb | refine Adds.trans ?_ hb5 | refine Adds.trans ?_ hb6))

theorem with_any (g : Nat) (lb : Array Value) (F : Pk → Pk) (a c : Int) (ha : 1 ≤ a) (hc : c ≤ 1000000) (hac : a ≤ c) : ∀ (k : Nat) (t : Tree) (b : Nat) (lo hi : Int) (w : World),
    hi - lo < k → Changer w g lb F → IsTree w b t → t.ok lo hi → 1 ≤ lo → hi ≤ 1000000 →
    Calls Try.prog 106 #[.pointer (some ⟨b, 0, none⟩), .agg #[.int .i64 a, .int .i64 c], .func (.func g) #[] lb] w (Withed w t lo hi a c F) := by
  intro k
  induction k with
  | zero => intro t b lo hi w h1 _ _ hok; have := Tree.ok_le hok; omega
  | succ k ih =>
    intro t b lo hi w hk hF ht hok h1 h3
    have hle := Tree.ok_le hok
    by_cases hout : c < lo ∨ hi < a
    · exact with_out b g lb F t lo hi a c w ht hok h1 h3 ha hc (by omega) (by omega) hout
    · by_cases hfull : a ≤ lo ∧ hi ≤ c
      · cases t with
        | leaf x y p =>
          obtain ⟨rfl, rfl, _⟩ := hok
          exact with_full b g lb F p _ _ a c w hF ht hle h1 h3 hfull.1 hfull.2
        | node x y p l r =>
          have hok' := hok
          obtain ⟨rfl, rfl, hlt, _⟩ := hok'
          refine with_split b g lb F _ _ _ a c w ht hok h1 hlt h3 ha hc (by omega) (by omega) hac (Or.inr ⟨x, y, p, l, r, rfl⟩) ?_
          intro t' b' lo' hi' w' k1 k2 ha' ht' hok' k3 k4
          exact ih t' b' lo' hi' w' (by omega) ⟨hF.enter, fun q w1 hw => hF.call q w1 (ha'.trans hw)⟩ ht' hok' k3 k4
      · refine with_split b g lb F t lo hi a c w ht hok h1 (by omega) h3 ha hc (by omega) (by omega) hac (Or.inl hfull) ?_
        intro t' b' lo' hi' w' k1 k2 ha' ht' hok' k3 k4
        exact ih t' b' lo' hi' w' (by omega) ⟨hF.enter, fun q w1 hw => hF.call q w1 (ha'.trans hw)⟩ ht' hok' k3 k4

end Go.Proofs.Ytofaioabjkcaiaa
