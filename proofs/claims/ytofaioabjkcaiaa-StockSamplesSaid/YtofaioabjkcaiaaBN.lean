/- compare, whole. -/
import Derived.Test.YtofaioabjkcaiaaBL
namespace Go.Proofs.Ytofaioabjkcaiaa
open Go.RowKit

section
variable {l : Nat} {L : List (Int × Int)} {J Jx : (Nat → Prop) → List (Int × Int) → World → Prop}

set_option maxRecDepth 100000 in
set_option maxHeartbeats 2000000 in
/-- Two leaves that differ. -/
theorem cmp_yield (b b' : Nat) (p q : Pk) (lo hi lo' hi' : Int) (w : World) (hY : YieldsL l L J Jx) (O : Nat → Prop) (pre rest : List (Int × Int)) (hL : pre ++ (lo, hi) :: rest = L) (hJ : J O pre w)
    (hne : b ≠ b') (hpq : p ≠ q) (h : NodeAt w b lo hi p none none) (h' : NodeAt w b' lo' hi' q none none) (hnb : ¬ (O b ∨ b = l)) (hnb' : ¬ (O b' ∨ b' = l)) :
    Calls Try.prog 103 #[.pointer (some ⟨b, 0, none⟩), .pointer (some ⟨b', 0, none⟩), .func (.yield l) #[] #[]] w (Yielded (fun k => k = l) J Jx O w (pre ++ [(lo, hi)])) := by
  obtain ⟨c0, c1, c2, c3, c4, c5, c6, c7, cbx⟩ := h
  obtain ⟨d0, d1, d2, d3, d4, d5, d6, d7, dbx⟩ := h'
  have he := neq_ptr hne cbx dbx
  have hn : ∀ w', (binOp .eql 44 p.val q.val).run Try.prog w' = .ok (.bool false) w' := fun w' => by rw [eql_pk]; simp [hpq]
  have HL := Lib.hid hL
  have HJ := Lib.hid hJ
  have HY := Lib.hid hY
  have NB := Lib.hid hnb
  have NB' := Lib.hid hnb'
  clear hL hJ hnb hnb' hpq
  clear hY
  go_enter Try.func103, Try.ntmps103
  go_upto_region 4 with (first
    | (go_at_call_of 98 (Value.pointer (some (⟨b, 0, none⟩ : Addr))); refine (uniform_leaf b _ (by assumption)).mono ?_; rintro e w' ⟨rfl, rfl⟩)
    | (go_at_call_of 98 (Value.pointer (some (⟨b', 0, none⟩ : Addr))); refine (uniform_leaf b' _ (by assumption)).mono ?_; rintro e w' ⟨rfl, rfl⟩))
  clear he
  obtain ⟨fn, tmps, assign, body, hrun, hR⟩ := HY.out.call O pre (lo, hi) rest w.drew HL.out (HY.out.st _ _ _ _ HJ.out (Adds.refl _).drew)
  refine (wpIn_wide (n := 1)).1 ?_
  gi_region_with ((refine hR.mono ?_; rintro e w3 ⟨v, O', rfl, ht0, hy1, hy2⟩; have ht := Touch.before ((Adds.refl _).drew) ht0; have HY1 := Lib.hid hy1; have HY2 := Lib.hid hy2; clear hy1 hy2 ht0; dsimp only))
  all_goals
    go_simp
    go_wp2
    go_ret
    have h := HY1.out
    exact ⟨v, O', rfl, ht, fun e => ⟨(h e).1, (h e).2.before (Adds.refl _).drew⟩, HY2.out⟩

set_option maxRecDepth 100000 in
set_option maxHeartbeats 2000000 in
theorem cmp_split_node (n b b' : Nat) (t t' : Tree) (lo hi : Int) (w : World) (hY : YieldsL l L J Jx) (O : Nat → Prop) (pre rest : List (Int × Int))
    (hL : pre ++ (diffT n t.halfL t'.halfL ++ diffT n t.halfR t'.halfR) ++ rest = L) (hJ : J O pre w) (hZ : ∀ k, k = l → k < w.heap.size) (hne : b ≠ b')
    (ht : TreeIn (fun k => ¬ (O k ∨ k = l)) w b t) (ht' : TreeIn (fun k => ¬ (O k ∨ k = l)) w b' t') (hok : t.ok lo hi) (hok' : t'.ok lo hi) (hlt : lo < hi) (h1 : 1 ≤ lo) (h3 : hi ≤ 1000000) (x : Nat) (hx : w.cell? ⟨b, 6, none⟩ = some (.pointer (some ⟨x, 0, none⟩)))
    (ih : ∀ (u u' : Tree) (c c' : Nat) (x y : Int) (w' : World) (O' : Nat → Prop) (pre' rest' : List (Int × Int)), y - x < hi - lo → u.ok x y → u'.ok x y → 1 ≤ x → y ≤ 1000000 → TreeIn (fun k => ¬ (O' k ∨ k = l)) w' c u → TreeIn (fun k => ¬ (O' k ∨ k = l)) w' c' u' → J O' pre' w' → (∀ k, k = l → k < w'.heap.size) → pre' ++ diffT n u u' ++ rest' = L → 2 * (y - x) ≤ hi - lo →
      Calls Try.prog 103 #[.pointer (some ⟨c, 0, none⟩), .pointer (some ⟨c', 0, none⟩), .func (.yield l) #[] #[]] w' (Passed (fun k => k = l) J Jx O' w' (pre' ++ diffT n u u'))) :
    Calls Try.prog 103 #[.pointer (some ⟨b, 0, none⟩), .pointer (some ⟨b', 0, none⟩), .func (.yield l) #[] #[]] w (Passed (fun k => k = l) J Jx O w (pre ++ (diffT n t.halfL t'.halfL ++ diffT n t.halfR t'.halfR))) := by
  have he := neq_ptr hne ht.plain ht'.plain
  have hm := mid_bd hlt
  have hmid : mid lo hi = lo + (hi - lo) / 2 := rfl
  have hm2 : 2 * (mid lo hi - lo) ≤ hi - lo ∧ 2 * (hi - (mid lo hi + 1)) ≤ hi - lo := by omega
  obtain ⟨a1, a2, _, _⟩ := half_look hok hlt
  obtain ⟨b1, b2, _, _⟩ := half_look hok' hlt
  have hnew : ∀ k, w.heap.size ≤ k → ¬ (O k ∨ k = l) := fun k hk h => h.elim (fun h => by have := hY.lt _ _ _ hJ k h; omega) (fun h => by have := hZ k h; omega)
  have HL := Lib.hid hL
  have HJ := Lib.hid hJ
  have HY := Lib.hid hY
  have HZ := Lib.hid hZ
  have HT := Lib.hid ht
  have HT' := Lib.hid ht'
  have HK := Lib.hid hok
  have HK' := Lib.hid hok'
  have HN := Lib.hid hnew
  have IH := Lib.hid ih
  have HA1 := Lib.hid a1
  have HA2 := Lib.hid a2
  have HB1 := Lib.hid b1
  have HB2 := Lib.hid b2
  clear hL hJ hY hZ ht ht' hok hok' hnew ih a1 a2 b1 b2 hmid
  go_enter Try.func103, Try.ntmps103
  go_upto_region 7 with (first
    | (go_at_call_of 98 (Value.pointer (some (⟨b, 0, none⟩ : Addr))); refine (uniform_node b x _ hx).mono ?_; rintro e w' ⟨rfl, rfl⟩)
    | (go_at_call_of 115 (Value.pointer (some (⟨b, 0, none⟩ : Addr))); refine (halves_in _ b t lo hi _ HT.out HK.out h1 hlt h3).mono ?_; rintro e w1 ⟨bl, br, rfl, ha1, hl1, hr1⟩; have HL1 := Lib.hid hl1; have HR1 := Lib.hid hr1; clear hl1 hr1)
    | (go_at_call_of 115 (Value.pointer (some (⟨b', 0, none⟩ : Addr))); refine (halves_in _ b' t' lo hi _ (HT'.out.later ha1) HK'.out h1 hlt h3).mono ?_; rintro e w2 ⟨bl', br', rfl, ha2, hl2, hr2⟩; have HL2 := Lib.hid hl2; have HR2 := Lib.hid hr2; clear hl2 hr2))
  have hw2 : Adds w w2 := ha1.trans ha2
  have hs1 := ha1.size
  have T1 : Hid (TreeIn (fun k => ¬ (O k ∨ k = l)) w2 bl t.halfL) := Lib.hid ((HL1.out.later ha2).mono (fun k h => h.elim id (HN.out k)))
  have T2 : Hid (TreeIn (fun k => ¬ (O k ∨ k = l)) w2 br t.halfR) := Lib.hid ((HR1.out.later ha2).mono (fun k h => h.elim id (HN.out k)))
  have T3 : Hid (TreeIn (fun k => ¬ (O k ∨ k = l)) w2 bl' t'.halfL) := Lib.hid (HL2.out.mono (fun k h => h.elim id (fun h => HN.out k (Nat.le_trans hs1 h))))
  have T4 : Hid (TreeIn (fun k => ¬ (O k ∨ k = l)) w2 br' t'.halfR) := Lib.hid (HR2.out.mono (fun k h => h.elim id (fun h => HN.out k (Nat.le_trans hs1 h))))
  clear HL1 HR1 HL2 HR2 he
  go_wp2_with fail
  refine (IH.out t.halfL t'.halfL bl bl' lo (mid lo hi) _ O pre (diffT n t.halfR t'.halfR ++ rest) (by omega) HA1.out HB1.out (by omega) (by omega) T1.out T3.out (by exact HY.out.st _ _ _ _ HJ.out hw2) (by exact fun k hk => Nat.lt_of_lt_of_le (HZ.out k hk) hw2.size) (by rw [← HL.out]; simp) (by omega)).mono ?_
  rintro e w3 ⟨v, O', rfl, htch, hy1, hy2⟩
  cases v
  · obtain ⟨pr, rs, e1, e2⟩ := hy2 rfl
    have E1 := Lib.hid e1
    have E2 := Lib.hid e2
    have HTC := Lib.hid htch
    clear e1 e2 hy1 hy2 htch
    go_wp2_with fail
    go_ret
    exact ⟨false, O', rfl, HTC.out.before hw2, fun e => Bool.noConfusion e, fun _ => ⟨pr, rs ++ diffT n t.halfR t'.halfR, by rw [← List.append_assoc, E1.out, List.append_assoc], E2.out⟩⟩
  · obtain ⟨hJ3, hg3⟩ := hy1 rfl
    have HJ3 := Lib.hid hJ3
    have HG3 := Lib.hid hg3
    have HTC := Lib.hid htch
    have T5 := Lib.hid (T2.out.grow htch hg3.2)
    have T6 := Lib.hid (T4.out.grow htch hg3.2)
    have hs3 := htch.size
    clear hJ3 hg3 hy1 hy2 htch
    go_wp2_with fail
    refine (IH.out t.halfR t'.halfR br br' (mid lo hi + 1) hi _ O' (pre ++ diffT n t.halfL t'.halfL) rest (by omega) HA2.out HB2.out (by omega) (by omega) T5.out T6.out (by exact HJ3.out) (by exact fun k hk => Nat.lt_of_lt_of_le (HZ.out k hk) (Nat.le_trans hw2.size hs3)) (by rw [← HL.out]; simp) (by omega)).mono ?_
    rintro e w4 ⟨v2, O2, rfl, ht2, hy3, hy4⟩
    have HY3 := Lib.hid hy3
    have HY4 := Lib.hid hy4
    have HT2 := Lib.hid ht2
    clear hy3 hy4 ht2
    go_wp2_with fail
    go_ret
    refine ⟨v2, O2, rfl, (HTC.out.trans HG3.out.2 HT2.out).before hw2, fun e => ⟨by have := (HY3.out e).1; rwa [List.append_assoc] at this, ((HG3.out.trans (HY3.out e).2)).before hw2⟩, fun e => ?_⟩
    obtain ⟨pr, rs, e1, e2⟩ := HY4.out e
    exact ⟨pr, rs, by rw [e1, List.append_assoc], e2⟩

set_option maxRecDepth 100000 in
set_option maxHeartbeats 2000000 in
theorem cmp_split_leaf (n b b' : Nat) (t t' : Tree) (lo hi : Int) (w : World) (hY : YieldsL l L J Jx) (O : Nat → Prop) (pre rest : List (Int × Int))
    (hL : pre ++ (diffT n t.halfL t'.halfL ++ diffT n t.halfR t'.halfR) ++ rest = L) (hJ : J O pre w) (hZ : ∀ k, k = l → k < w.heap.size) (hne : b ≠ b')
    (ht : TreeIn (fun k => ¬ (O k ∨ k = l)) w b t) (ht' : TreeIn (fun k => ¬ (O k ∨ k = l)) w b' t') (hok : t.ok lo hi) (hok' : t'.ok lo hi) (hlt : lo < hi) (h1 : 1 ≤ lo) (h3 : hi ≤ 1000000) (x : Nat) (hx : w.cell? ⟨b, 6, none⟩ = some (.pointer none)) (hx2 : w.cell? ⟨b', 6, none⟩ = some (.pointer (some ⟨x, 0, none⟩)))
    (ih : ∀ (u u' : Tree) (c c' : Nat) (x y : Int) (w' : World) (O' : Nat → Prop) (pre' rest' : List (Int × Int)), y - x < hi - lo → u.ok x y → u'.ok x y → 1 ≤ x → y ≤ 1000000 → TreeIn (fun k => ¬ (O' k ∨ k = l)) w' c u → TreeIn (fun k => ¬ (O' k ∨ k = l)) w' c' u' → J O' pre' w' → (∀ k, k = l → k < w'.heap.size) → pre' ++ diffT n u u' ++ rest' = L → 2 * (y - x) ≤ hi - lo →
      Calls Try.prog 103 #[.pointer (some ⟨c, 0, none⟩), .pointer (some ⟨c', 0, none⟩), .func (.yield l) #[] #[]] w' (Passed (fun k => k = l) J Jx O' w' (pre' ++ diffT n u u'))) :
    Calls Try.prog 103 #[.pointer (some ⟨b, 0, none⟩), .pointer (some ⟨b', 0, none⟩), .func (.yield l) #[] #[]] w (Passed (fun k => k = l) J Jx O w (pre ++ (diffT n t.halfL t'.halfL ++ diffT n t.halfR t'.halfR))) := by
  have he := neq_ptr hne ht.plain ht'.plain
  have hm := mid_bd hlt
  have hmid : mid lo hi = lo + (hi - lo) / 2 := rfl
  have hm2 : 2 * (mid lo hi - lo) ≤ hi - lo ∧ 2 * (hi - (mid lo hi + 1)) ≤ hi - lo := by omega
  obtain ⟨a1, a2, _, _⟩ := half_look hok hlt
  obtain ⟨b1, b2, _, _⟩ := half_look hok' hlt
  have hnew : ∀ k, w.heap.size ≤ k → ¬ (O k ∨ k = l) := fun k hk h => h.elim (fun h => by have := hY.lt _ _ _ hJ k h; omega) (fun h => by have := hZ k h; omega)
  have HL := Lib.hid hL
  have HJ := Lib.hid hJ
  have HY := Lib.hid hY
  have HZ := Lib.hid hZ
  have HT := Lib.hid ht
  have HT' := Lib.hid ht'
  have HK := Lib.hid hok
  have HK' := Lib.hid hok'
  have HN := Lib.hid hnew
  have IH := Lib.hid ih
  have HA1 := Lib.hid a1
  have HA2 := Lib.hid a2
  have HB1 := Lib.hid b1
  have HB2 := Lib.hid b2
  clear hL hJ hY hZ ht ht' hok hok' hnew ih a1 a2 b1 b2 hmid
  go_enter Try.func103, Try.ntmps103
  go_upto_region 7 with (first
    | (go_at_call_of 98 (Value.pointer (some (⟨b, 0, none⟩ : Addr))); refine (uniform_leaf b _ hx).mono ?_; rintro e w' ⟨rfl, rfl⟩)
    | (go_at_call_of 98 (Value.pointer (some (⟨b', 0, none⟩ : Addr))); refine (uniform_node b' x _ hx2).mono ?_; rintro e w' ⟨rfl, rfl⟩)
    | (go_at_call_of 115 (Value.pointer (some (⟨b, 0, none⟩ : Addr))); refine (halves_in _ b t lo hi _ HT.out HK.out h1 hlt h3).mono ?_; rintro e w1 ⟨bl, br, rfl, ha1, hl1, hr1⟩; have HL1 := Lib.hid hl1; have HR1 := Lib.hid hr1; clear hl1 hr1)
    | (go_at_call_of 115 (Value.pointer (some (⟨b', 0, none⟩ : Addr))); refine (halves_in _ b' t' lo hi _ (HT'.out.later ha1) HK'.out h1 hlt h3).mono ?_; rintro e w2 ⟨bl', br', rfl, ha2, hl2, hr2⟩; have HL2 := Lib.hid hl2; have HR2 := Lib.hid hr2; clear hl2 hr2))
  have hw2 : Adds w w2 := ha1.trans ha2
  have hs1 := ha1.size
  have T1 : Hid (TreeIn (fun k => ¬ (O k ∨ k = l)) w2 bl t.halfL) := Lib.hid ((HL1.out.later ha2).mono (fun k h => h.elim id (HN.out k)))
  have T2 : Hid (TreeIn (fun k => ¬ (O k ∨ k = l)) w2 br t.halfR) := Lib.hid ((HR1.out.later ha2).mono (fun k h => h.elim id (HN.out k)))
  have T3 : Hid (TreeIn (fun k => ¬ (O k ∨ k = l)) w2 bl' t'.halfL) := Lib.hid (HL2.out.mono (fun k h => h.elim id (fun h => HN.out k (Nat.le_trans hs1 h))))
  have T4 : Hid (TreeIn (fun k => ¬ (O k ∨ k = l)) w2 br' t'.halfR) := Lib.hid (HR2.out.mono (fun k h => h.elim id (fun h => HN.out k (Nat.le_trans hs1 h))))
  clear HL1 HR1 HL2 HR2 he
  go_wp2_with fail
  refine (IH.out t.halfL t'.halfL bl bl' lo (mid lo hi) _ O pre (diffT n t.halfR t'.halfR ++ rest) (by omega) HA1.out HB1.out (by omega) (by omega) T1.out T3.out (by exact HY.out.st _ _ _ _ HJ.out hw2) (by exact fun k hk => Nat.lt_of_lt_of_le (HZ.out k hk) hw2.size) (by rw [← HL.out]; simp) (by omega)).mono ?_
  rintro e w3 ⟨v, O', rfl, htch, hy1, hy2⟩
  cases v
  · obtain ⟨pr, rs, e1, e2⟩ := hy2 rfl
    have E1 := Lib.hid e1
    have E2 := Lib.hid e2
    have HTC := Lib.hid htch
    clear e1 e2 hy1 hy2 htch
    go_wp2_with fail
    go_ret
    exact ⟨false, O', rfl, HTC.out.before hw2, fun e => Bool.noConfusion e, fun _ => ⟨pr, rs ++ diffT n t.halfR t'.halfR, by rw [← List.append_assoc, E1.out, List.append_assoc], E2.out⟩⟩
  · obtain ⟨hJ3, hg3⟩ := hy1 rfl
    have HJ3 := Lib.hid hJ3
    have HG3 := Lib.hid hg3
    have HTC := Lib.hid htch
    have T5 := Lib.hid (T2.out.grow htch hg3.2)
    have T6 := Lib.hid (T4.out.grow htch hg3.2)
    have hs3 := htch.size
    clear hJ3 hg3 hy1 hy2 htch
    go_wp2_with fail
    refine (IH.out t.halfR t'.halfR br br' (mid lo hi + 1) hi _ O' (pre ++ diffT n t.halfL t'.halfL) rest (by omega) HA2.out HB2.out (by omega) (by omega) T5.out T6.out (by exact HJ3.out) (by exact fun k hk => Nat.lt_of_lt_of_le (HZ.out k hk) (Nat.le_trans hw2.size hs3)) (by rw [← HL.out]; simp) (by omega)).mono ?_
    rintro e w4 ⟨v2, O2, rfl, ht2, hy3, hy4⟩
    have HY3 := Lib.hid hy3
    have HY4 := Lib.hid hy4
    have HT2 := Lib.hid ht2
    clear hy3 hy4 ht2
    go_wp2_with fail
    go_ret
    refine ⟨v2, O2, rfl, (HTC.out.trans HG3.out.2 HT2.out).before hw2, fun e => ⟨by have := (HY3.out e).1; rwa [List.append_assoc] at this, ((HG3.out.trans (HY3.out e).2)).before hw2⟩, fun e => ?_⟩
    obtain ⟨pr, rs, e1, e2⟩ := HY4.out e
    exact ⟨pr, rs, by rw [e1, List.append_assoc], e2⟩

/-- The pieces in which two trees differ are handed on, one after the other. -/
theorem cmp_any (hY : YieldsL l L J Jx) : ∀ (n : Nat) (t t' : Tree) (b b' : Nat) (lo hi : Int) (w : World) (O : Nat → Prop) (pre rest : List (Int × Int)), hi - lo < n → t.ok lo hi → t'.ok lo hi → 1 ≤ lo → hi ≤ 1000000 →
    TreeIn (fun k => ¬ (O k ∨ k = l)) w b t → TreeIn (fun k => ¬ (O k ∨ k = l)) w b' t' → J O pre w → (∀ k, k = l → k < w.heap.size) → pre ++ diffT n t t' ++ rest = L →
      Calls Try.prog 103 #[.pointer (some ⟨b, 0, none⟩), .pointer (some ⟨b', 0, none⟩), .func (.yield l) #[] #[]] w (Passed (fun k => k = l) J Jx O w (pre ++ diffT n t t')) := by
  intro n
  induction n with
  | zero => intro t t' b b' lo hi w O pre rest h1 hok; have := Tree.ok_le hok; omega
  | succ n ih =>
    intro t t' b b' lo hi w O pre rest hk hok hok' h1 h3 ht ht' hJ hZ hL
    have hle := Tree.ok_le hok
    by_cases hb : b = b'
    · subst hb
      have e := ht.tree.one ht'.tree
      subst e
      refine (cmp_same b _ w).mono ?_
      rintro e w' ⟨rfl, rfl⟩
      rw [diffT_self, List.append_nil]
      exact ⟨true, O, rfl, .of_adds (Adds.refl _) _, fun _ => ⟨hJ, .refl O _⟩, fun e => Bool.noConfusion e⟩
    · have hih : ∀ (u u' : Tree) (c c' : Nat) (x y : Int) (w' : World) (O' : Nat → Prop) (pre' rest' : List (Int × Int)), y - x < hi - lo → u.ok x y → u'.ok x y → 1 ≤ x → y ≤ 1000000 → TreeIn (fun k => ¬ (O' k ∨ k = l)) w' c u → TreeIn (fun k => ¬ (O' k ∨ k = l)) w' c' u' → J O' pre' w' → (∀ k, k = l → k < w'.heap.size) → pre' ++ diffT n u u' ++ rest' = L → 2 * (y - x) ≤ hi - lo →
          Calls Try.prog 103 #[.pointer (some ⟨c, 0, none⟩), .pointer (some ⟨c', 0, none⟩), .func (.yield l) #[] #[]] w' (Passed (fun k => k = l) J Jx O' w' (pre' ++ diffT n u u')) :=
        fun u u' c c' x y w' O' pre' rest' k1 k2 k3 k4 k5 k6 k7 k8 k9 k10 _ => ih u u' c c' x y w' O' pre' rest' (by omega) k2 k3 k4 k5 k6 k7 k8 k9 k10
      cases t with
      | leaf x y p =>
        cases t' with
        | leaf x' y' q =>
          obtain ⟨rfl, rfl, _⟩ := hok
          obtain ⟨rfl, rfl, _⟩ := hok'
          by_cases hpq : p = q
          · subst hpq
            refine (cmp_alike b b' _ p _ _ _ _ w hb ht.2 ht'.2).mono ?_
            rintro e w' ⟨rfl, hadd⟩
            rw [show diffT (n + 1) (.leaf x' y' p) (.leaf x' y' p) = [] from diffT_self _ _, List.append_nil]
            exact ⟨true, O, rfl, .of_adds hadd _, fun _ => ⟨hY.st _ _ _ _ hJ hadd, .of_adds hadd O⟩, fun e => Bool.noConfusion e⟩
          · have hd : diffT (n + 1) (.leaf x' y' p) (.leaf x' y' q) = [(x', y')] := by simp only [diffT]; rw [if_neg hpq]
            rw [hd] at hL ⊢
            refine (cmp_yield b b' p q _ _ _ _ w hY O pre rest (by rw [← hL]; simp) hJ hb hpq ht.2 ht'.2 ht.1 ht'.1).mono ?_
            rintro e w' ⟨v, O', he, htch, hy1, hy2⟩
            exact ⟨v, O', he, htch, hy1, fun e => ⟨_, [], List.append_nil _, hy2 e⟩⟩
        | node x' y' q l r =>
          have hlt : lo < hi := by obtain ⟨_, _, h, _⟩ := hok'; exact h
          have hd : diffT (n + 1) (.leaf x y p) (.node x' y' q l r) = diffT n (Tree.halfL (.leaf x y p)) (Tree.halfL (.node x' y' q l r)) ++ diffT n (Tree.halfR (.leaf x y p)) (Tree.halfR (.node x' y' q l r)) := by simp only [diffT]
          rw [hd] at hL ⊢
          have h6 := ht.2.2.2.2.2.2.2.1
          obtain ⟨_, bl, br, hn, _⟩ := id ht'
          exact cmp_split_leaf n b b' _ _ lo hi w hY O pre rest hL hJ hZ hb ht ht' hok hok' hlt h1 h3 bl h6 hn.2.2.2.2.2.2.1 hih
      | node x y p l r =>
        have hlt : lo < hi := by obtain ⟨_, _, h, _⟩ := hok; exact h
        have hd : diffT (n + 1) (.node x y p l r) t' = diffT n (Tree.halfL (.node x y p l r)) t'.halfL ++ diffT n (Tree.halfR (.node x y p l r)) t'.halfR := by simp only [diffT]
        rw [hd] at hL ⊢
        obtain ⟨_, bl, br, hn, _⟩ := id ht
        exact cmp_split_node n b b' _ _ lo hi w hY O pre rest hL hJ hZ hb ht ht' hok hok' hlt h1 h3 bl hn.2.2.2.2.2.2.1 hih

end

end Go.Proofs.Ytofaioabjkcaiaa
