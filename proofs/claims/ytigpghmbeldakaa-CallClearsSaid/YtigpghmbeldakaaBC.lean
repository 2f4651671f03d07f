/- symMerge in general, and the stable sort of at most 40 numbers. -/
import Derived.Test.YtigpghmbeldakaaBB
namespace Go.Proofs.Ytigpghmbeldakaa
open Go.RowKit

/-- The search of a merge under way. -/
def SymCut (key : Nat → Int) (ns : List Int) (mid m s0 r0 s r : Nat) : Prop :=
  (s = s0 ∨ ∃ x y : Nat, ns[s - 1]? = some (x : Int) ∧ ns[mid + m - s]? = some (y : Int) ∧ ¬ key y < key x) ∧ (r = r0 ∨ ∃ x y : Nat, ns[r]? = some (x : Int) ∧ ns[mid + m - 1 - r]? = some (y : Int) ∧ key y < key x)

theorem SymCut.done {key : Nat → Int} {A L R B ns : List Int} {a m b mid s s0 r0 : Nat} (h : SymCut key ns mid m s0 r0 s s) (hns : ns = A ++ (L ++ (R ++ B))) (ha : a = A.length) (hm : m = a + L.length) (hb : b = m + R.length) (hmid : mid = (a + b) / 2)
    (hL : L.Pairwise (lexLt key)) (hR : R.Pairwise (lexLt key)) (hLR : ∀ x ∈ L, ∀ y ∈ R, x < y) (h0 : (mid < m ∧ s0 = mid + m - b ∧ r0 = mid) ∨ (m ≤ mid ∧ s0 = a ∧ r0 = m)) (hs0 : s0 ≤ s) (hs1 : s ≤ r0) (hLn : 0 < L.length) (hRn : 0 < R.length) :
    ∃ L1 L2 R1 R2, L = L1 ++ L2 ∧ R = R1 ++ R2 ∧ s = a + L1.length ∧ mid = s + R1.length ∧ mid + m - s = mid + L2.length ∧ b = mid + m - s + R2.length ∧ (∀ x ∈ L1, ∀ y ∈ R2, lexLt key x y) ∧ (∀ x ∈ R1, ∀ y ∈ L2, lexLt key x y) := by
  have := sym_split hns ha hm hb hmid hL hR hLR h0 hs0 hs1 hLn hRn (by
    rcases h.1 with h1 | ⟨x, y, h1, h2, h3⟩
    · exact Or.inl h1
    · exact Or.inr ⟨x, y, h1, h2, by simpa using h3⟩) (by
    rcases h.2 with h1 | ⟨x, y, h1, h2, h3⟩
    · exact Or.inl h1
    · exact Or.inr ⟨x, y, h1, h2, by simpa using h3⟩)
  refine ⟨L.take (s - a), L.drop (s - a), R.take (mid + m - s - m), R.drop (mid + m - s - m), (List.take_append_drop _ _).symm, (List.take_append_drop _ _).symm, ?_, ?_, ?_, ?_, this.1, this.2⟩ <;> simp only [List.length_take, List.length_drop] <;> omega

section
variable {g cap gc : Nat} {cb : Array Value} {N : Nat} {key : Nat → Int} {A L1 L2 R1 R2 B M1 : List Int} {a m b len s mid e : Nat} {w w1 : World}

theorem SymIn.left (h : SymIn g cap gc cb N key A (L1 ++ L2) (R1 ++ R2) B a m b len w) (ht : Touch (fun k => k = g) w w1) (hr : RowI 3 .i64 w1 g cap (A ++ (L1 ++ (R1 ++ (L2 ++ (R2 ++ B)))))) (l1 : 0 < L1.length) (r1 : 0 < R1.length) (hs : s = a + L1.length) (hm : mid = s + R1.length) :
    SymIn g cap gc cb N key A L1 R1 (L2 ++ (R2 ++ B)) a s mid len w1 where
  ea := h.ea
  em := hs
  eb := hm
  elen := by rw [h.elen]; simp only [List.length_append]; omega
  bnd := h.bnd
  inN x hx := h.inN x (by simp only [List.mem_append] at hx ⊢; rcases hx with h | h | h | h | h | h <;> simp [h])
  sl := (pairwise_split h.sl).1
  sr := (pairwise_split h.sr).1
  lr x hx y hy := h.lr x (List.mem_append_left _ hx) y (List.mem_append_left _ hy)
  row := hr
  cmp := h.cmp.touch ht
  l0 := l1
  r0 := r1

theorem SymIn.right (h : SymIn g cap gc cb N key A (L1 ++ L2) (R1 ++ R2) B a m b len w) (ht : Touch (fun k => k = g) w w1) (hp : M1.Perm (L1 ++ R1)) (hr : RowI 3 .i64 w1 g cap (A ++ (M1 ++ (L2 ++ (R2 ++ B))))) (l2 : 0 < L2.length) (r2 : 0 < R2.length)
    (hm : mid = a + L1.length + R1.length) (he : e = mid + L2.length) : SymIn g cap gc cb N key (A ++ M1) L2 R2 B mid e b len w1 where
  ea := by have h1 := h.ea; have h2 := hp.length_eq; simp only [List.length_append] at h2 ⊢; omega
  em := he
  eb := by have h1 := h.em; have h2 := h.eb; simp only [List.length_append] at h1 h2; omega
  elen := by rw [h.elen]; have h2 := hp.length_eq; simp only [List.length_append] at h2 ⊢; omega
  bnd := h.bnd
  inN x hx := h.inN x (by have := hp.mem_iff (a := x); simp only [List.mem_append] at hx this ⊢; rw [this] at hx; rcases hx with (h | h | h) | h | h | h <;> simp [h])
  sl := (pairwise_split h.sl).2.1
  sr := (pairwise_split h.sr).2.1
  lr x hx y hy := h.lr x (List.mem_append_right _ hx) y (List.mem_append_right _ hy)
  row := by rw [List.append_assoc]; exact hr
  cmp := h.cmp.touch ht
  l0 := l2
  r0 := r2
end

/-- Merges of at most n numbers. -/
def SymAt (n : Nat) : Prop := ∀ (g cap gc : Nat) (cb : Array Value) (N : Nat) (key : Nat → Int) (A L R B : List Int) (a m b len : Nat) (w : World), L.length + R.length ≤ n → SymIn g cap gc cb N key A L R B a m b len w →
  Calls Try.prog 104 #[.slice (some ⟨g, 0, none⟩) len cap, .int .i64 a, .int .i64 m, .int .i64 b, .func (.func gc) #[] cb] w (MergeGot g cap key A L R B w)

set_option maxRecDepth 100000 in
set_option maxHeartbeats 8000000 in
theorem sym_rec (n : Nat) (ih : SymAt n) (g cap gc : Nat) (cb : Array Value) (N : Nat) (key : Nat → Int) (A L R B : List Int) (a m b len : Nat) (w : World) (hn : L.length + R.length ≤ n + 1) (hm1 : a + 1 < m) (hb1 : m + 1 < b) (hs : SymIn g cap gc cb N key A L R B a m b len w) :
    Calls Try.prog 104 #[.slice (some ⟨g, 0, none⟩) len cap, .int .i64 a, .int .i64 m, .int .i64 b, .func (.func gc) #[] cb] w (MergeGot g cap key A L R B w) := by
  have HS := Lib.hid hs
  have HIH := Lib.hid ih
  have HNN := Lib.hid hn
  have hbl : b ≤ len := by have h1 := hs.ea; have h2 := hs.em; have h3 := hs.eb; rw [hs.elen]; simp only [List.length_append]; omega
  have hbnd := hs.bnd
  have t1 : ((m : Int) - (a : Int) == 1) = false := beq_eq_false_iff_ne.2 (by omega)
  have t2 : ((b : Int) - (m : Int) == 1) = false := beq_eq_false_iff_ne.2 (by omega)
  have eg := hs.cmp.enter
  obtain ⟨mid, hmid⟩ : ∃ mid, mid = (a + b) / 2 := ⟨_, rfl⟩
  have hmi : ((a : Int) + (b : Int)) / 2 = (mid : Int) := by omega
  obtain ⟨nn, hnn⟩ : ∃ nn, nn = mid + m := ⟨_, rfl⟩
  have hni : (mid : Int) + (m : Int) = (nn : Int) := by omega
  obtain ⟨pp, hpp⟩ : ∃ pp, pp = nn - 1 := ⟨_, rfl⟩
  have hpi : (nn : Int) - 1 = (pp : Int) := by omega
  have HMID := Lib.hid hmid
  have HNE := Lib.hid hnn
  have HPE := Lib.hid hpp
  have hma : mid ≤ len := by omega
  clear hs ih hn hmid hnn hpp
  go_enter Try.func104, Try.ntmps104
  go_upto_if 140 with fail
  clear t1 t2
  go_cut [20, 21] (fun s20 s21 wc => ∃ s0 r0 : Nat, s20 = .int .i64 s0 ∧ s21 = .int .i64 r0 ∧ s0 ≤ r0 ∧ r0 ≤ m ∧ r0 ≤ mid ∧ Hid ((mid < m ∧ s0 = mid + m - b ∧ r0 = mid) ∨ (m ≤ mid ∧ s0 = a ∧ r0 = m)) ∧ w = wc)
  case first => as_aux_lemma =>
    by_cases hc : mid < m
    · have hci : (mid : Int) < (m : Int) := by omega
      obtain ⟨s0, hs0⟩ : ∃ s0, s0 = mid + m - b := ⟨_, rfl⟩
      have hsi : (nn : Int) - (b : Int) = (s0 : Int) := by have := HNE.out; have := HMID.out; omega
      have HS0 := Lib.hid hs0
      clear hs0
      go_wp2_with fail
      go_meet
      exact ⟨s0, mid, rfl, rfl, by have := HS0.out; have := HMID.out; omega, by omega, Nat.le_refl _, Lib.hid (Or.inl ⟨hc, HS0.out, rfl⟩), rfl⟩
    · have hci : ¬ (mid : Int) < (m : Int) := by omega
      go_wp2_with fail
      go_meet
      exact ⟨a, m, rfl, rfl, by omega, Nat.le_refl _, by omega, Lib.hid (Or.inr ⟨by omega, rfl, rfl⟩), rfl⟩
  case rest =>
    obtain ⟨s0, r0, rfl, rfl, hsr, hrm, hrmid, HC0, rfl⟩ := hcut
    go_wp2_with fail
    go_loopw [20, 21] (fun v20 v21 wr => ∃ (s r : Nat), v20 = .int .i64 s ∧ v21 = .int .i64 r ∧ s0 ≤ s ∧ s ≤ r ∧ r ≤ r0 ∧ Hid (SymCut key (A ++ (L ++ (R ++ B))) mid m s0 r0 s r) ∧ Hid (RowI 3 .i64 wr g cap (A ++ (L ++ (R ++ B)))) ∧ Hid (Touch (fun z => z = g) w wr)) (fun v20 v21 _ => (intOf v21).toNat - (intOf v20).toNat)
    case atStart => exact ⟨s0, r0, rfl, rfl, Nat.le_refl _, hsr, Nat.le_refl _, Lib.hid ⟨Or.inl rfl, Or.inl rfl⟩, Lib.hid HS.out.row, Lib.hid (Touch.refl _ _)⟩
    case round =>
      obtain ⟨s, r, rfl, rfl, hi, hij, hj, hb2, hrow, ht⟩ := hrel
      by_cases hlt : s < r
      · obtain ⟨c, hc⟩ : ∃ c, c = (s + r) / 2 := ⟨_, rfl⟩
        have hhi : ((s : Int) + (r : Int)) / 2 = (c : Int) := by omega
        have hih : s ≤ c := by omega
        have hhj : c < r := by omega
        obtain ⟨d, hd⟩ : ∃ d, d = pp - c := ⟨_, rfl⟩
        have hdm : d + 1 + c = mid + m := by have := HPE.out; have := HNE.out; omega
        have hdi : (pp : Int) - (c : Int) = (d : Int) := by have := HPE.out; have := HNE.out; omega
        have hdb : d < b := by
          have h1 := HC0.out; have h2 := HMID.out
          omega
        clear hc hd
        have hlen := HS.out.elen
        obtain ⟨x, hx, hxN⟩ := at_nat HS.out.inN (show c < (A ++ (L ++ (R ++ B))).length by omega)
        obtain ⟨y, hy, hyN⟩ := at_nat HS.out.inN (show d < (A ++ (L ++ (R ++ B))).length by omega)
        have ck := hrow.out.cell hx
        have ca := hrow.out.cell hy
        have hcal : ∀ q, Calls Try.prog gc (#[.int .i64 (y : Int), .int .i64 (x : Int)] ++ cb) (wr.drewN q) fun e w' => e = .returned (.int .i64 (cmpT (key y) (key x))) ∧ ∃ n, w' = (wr.drewN q).drewN n := fun q => HS.out.cmp.call y x hyN hxN _ (ht.out.drewN q)
        obtain ⟨cc, hcc⟩ : ∃ cc, cc = cmpT (key y) (key x) := ⟨_, rfl⟩
        rw [← hcc] at hcal
        have hct : decide (cc < 0) = decide (key y < key x) := by rw [hcc]; exact cmp_test _ _
        have HX := Lib.hid hx
        have HY := Lib.hid hy
        have hhb : (c : Int) < (len : Int) := by omega
        have hdb2 : (d : Int) < (len : Int) := by omega
        have hmes : r - (c + 1) < r - s := by omega
        have hmes2 : c - s < r - s := by omega
        clear hx hy hcc hlen
        by_cases hkey : key y < key x
        · have hct' : decide (cc < 0) = true := by rw [hct]; exact decide_eq_true hkey
          have hc0 : cc < 0 := of_decide_eq_true hct'
          have hnot : (!decide (cc < 0)) = false := by rw [hct']; rfl
          have HK := Lib.hid hkey
          clear hct hct' hkey
          go_wp2_with fail
          go_quiet ((go_at_fn gc; exact Calls.quiet_of (hcal _)))
          go_wp2
          go_roundw
          case rel => exact ⟨s, c, rfl, rfl, hi, hih, by omega, Lib.hid ⟨hb2.out.1, Or.inr ⟨x, y, HX.out, by rw [show mid + m - 1 - c = d by omega]; exact HY.out, HK.out⟩⟩, Lib.hid (hrow.out.drewN _), Lib.hid (ht.out.drewN _)⟩
          case measure => simp [intOf]; omega
        · have hct' : decide (cc < 0) = false := by rw [hct]; exact decide_eq_false hkey
          have hc0 : ¬ cc < 0 := of_decide_eq_false hct'
          have hc1 : 0 ≤ cc := by omega
          have hnot : (!decide (cc < 0)) = true := by rw [hct']; rfl
          have HK := Lib.hid hkey
          clear hct hct' hkey hc0
          go_wp2_with fail
          go_quiet ((go_at_fn gc; exact Calls.quiet_of (hcal _)))
          go_wp2
          go_roundw
          case rel => exact ⟨c + 1, r, by go_num, rfl, by omega, by omega, hj, Lib.hid ⟨Or.inr ⟨x, y, by rw [Nat.add_sub_cancel]; exact HX.out, by rw [show mid + m - (c + 1) = d by omega]; exact HY.out, by have := HK.out; omega⟩, hb2.out.2⟩, Lib.hid (hrow.out.drewN _), Lib.hid (ht.out.drewN _)⟩
          case measure => simp [intOf]; omega
      · have hije : s = r := by omega
        subst hije
        obtain ⟨L1, L2, R1, R2, rfl, rfl, hs1, hs2, hs3, hs4, hlt1, hlt2⟩ := hb2.out.done rfl HS.out.ea HS.out.em HS.out.eb HMID.out HS.out.sl HS.out.sr HS.out.lr HC0.out hi hj HS.out.l0 HS.out.r0
        obtain ⟨e, he⟩ : ∃ e, e = mid + m - s := ⟨_, rfl⟩
        rw [← he] at hs3 hs4
        have hei : (nn : Int) - (s : Int) = (e : Int) := by have := HNE.out; omega
        have HLT1 := Lib.hid hlt1
        have HLT2 := Lib.hid hlt2
        have HS1 := Lib.hid hs1
        have HS2 := Lib.hid hs2
        have HS3 := Lib.hid hs3
        have HS4 := Lib.hid hs4
        have HE := Lib.hid he
        have hes1 : s ≤ m := by omega
        have hes2 : a ≤ s := by omega
        have hes3 : e ≤ b := by omega
        have hes4 : mid ≤ e := by omega
        have hes5 : m ≤ e := by have := HS.out.em; simp only [List.length_append] at this; omega
        clear hlt1 hlt2 hs1 hs2 hs3 hs4 he hb2
        go_upto_region 39 with fail
        go_cut [185] (fun s185 wc => s185 = .bool (decide (s < m ∧ m < e)) ∧ wr = wc)
        case first => as_aux_lemma =>
          by_cases c1 : s < m
          · by_cases c2 : m < e
            · have HD := Lib.hid (decide_eq_true (p := s < m ∧ m < e) ⟨c1, c2⟩)
              go_wp2_with fail
              go_meet
              exact ⟨by rw [HD.out], rfl⟩
            · have HD := Lib.hid (decide_eq_false (p := s < m ∧ m < e) (fun h => c2 h.2))
              go_wp2_with fail
              go_meet
              exact ⟨by rw [HD.out], rfl⟩
          · have HD := Lib.hid (decide_eq_false (p := s < m ∧ m < e) (fun h => c1 h.1))
            go_wp2_with fail
            go_meet
            exact ⟨by rw [HD.out], rfl⟩
        case rest => as_aux_lemma =>
          obtain ⟨rfl, rfl⟩ := hcut
          go_upto_if 185 with fail
          go_cut [] (fun wc => Hid (RowI 3 .i64 wc g cap (A ++ (L1 ++ (R1 ++ (L2 ++ (R2 ++ B)))))) ∧ Hid (Touch (fun z => z = g) w wc))
          case first => as_aux_lemma =>
            by_cases hc : s < m ∧ m < e
            · have hrot := rotate_any g cap (A ++ L1) L2 R1 (R2 ++ B) s m e len (.func (.func gc) #[] cb) wr
                (by have h1 := HS1.out; have h2 := HS2.out; have h3 := HS3.out; have h5 := HE.out; omega) (by have h1 := HS1.out; have h2 := HS2.out; have h3 := HS3.out; have h5 := HE.out; omega)
                (by rw [List.length_append, ← HS.out.ea]; exact HS1.out) (by have h1 := HS1.out; have h2 := HS2.out; have h3 := HS3.out; have h5 := HE.out; omega) (by have h1 := HS1.out; have h2 := HS2.out; have h3 := HS3.out; have h5 := HE.out; omega)
                (by rw [HS.out.elen]; simp only [List.length_append]; omega) hbnd (by have := hrow.out; simpa only [List.append_assoc] using this)
              have HROT := Lib.hid hrot
              have hd : decide (s < m ∧ m < e) = true := decide_eq_true hc
              rw [hd]
              clear hd hc hrot
              go_wp2_with (go_at_call 115; refine HROT.out.mono ?_; rintro e w1 ⟨rfl, hr1, ht1⟩; have HR1 := Lib.hid hr1; have HT1 := Lib.hid ht1; clear hr1 ht1)
              go_meet
              exact ⟨Lib.hid (by have := HR1.out; simpa only [List.append_assoc] using this), Lib.hid (ht.out.trans HT1.out)⟩
            · have HC := Lib.hid hc
              have hd : decide (s < m ∧ m < e) = false := decide_eq_false hc
              rw [hd]
              clear hd hc
              go_wp2_with fail
              go_meet
              refine ⟨Lib.hid ?_, Lib.hid ht.out⟩
              have h0 := hrow.out
              have : L2 = [] ∨ R1 = [] := by
                have h1 := HS1.out; have h2 := HS2.out; have h3 := HS3.out; have h4 := HC.out; have h5 := HE.out
                rcases Nat.eq_zero_or_pos L2.length with h6 | h6
                · exact Or.inl (List.length_eq_zero_iff.1 h6)
                · exact Or.inr (List.length_eq_zero_iff.1 (by omega))
              rcases this with rfl | rfl <;> simpa using h0
          case rest => as_aux_lemma =>
            obtain ⟨hrow1, ht1⟩ := hcut
            clear hrow ht
            go_upto_region 41 with fail
            go_cut [199] (fun s199 wd => s199 = .bool (decide (a < s ∧ s < mid)) ∧ wc = wd)
            case first => as_aux_lemma =>
              by_cases c1 : a < s
              · by_cases c2 : s < mid
                · have HD := Lib.hid (decide_eq_true (p := a < s ∧ s < mid) ⟨c1, c2⟩)
                  go_wp2_with fail
                  go_meet
                  exact ⟨by rw [HD.out], rfl⟩
                · have HD := Lib.hid (decide_eq_false (p := a < s ∧ s < mid) (fun h => c2 h.2))
                  go_wp2_with fail
                  go_meet
                  exact ⟨by rw [HD.out], rfl⟩
              · have HD := Lib.hid (decide_eq_false (p := a < s ∧ s < mid) (fun h => c1 h.1))
                go_wp2_with fail
                go_meet
                exact ⟨by rw [HD.out], rfl⟩
            case rest => as_aux_lemma =>
              obtain ⟨rfl, rfl⟩ := hcut
              go_upto_if 199 with fail
              go_cut [] (fun we => ∃ M1 : List Int, Hid (M1.Perm (L1 ++ R1)) ∧ Hid (M1.Pairwise (lexLt key)) ∧ Hid (RowI 3 .i64 we g cap (A ++ (M1 ++ (L2 ++ (R2 ++ B))))) ∧ Hid (Touch (fun z => z = g) w we))
              case first => as_aux_lemma =>
                by_cases hc : a < s ∧ s < mid
                · have hsym := HIH.out g cap gc cb N key A L1 R1 (L2 ++ (R2 ++ B)) a s mid len wc (by have h1 := HS1.out; have h2 := HS2.out; have h3 := HS3.out; have h4 := HS4.out; have h5 := HE.out; have h6 := HNN.out; have h7 := HS.out.em; have h8 := HS.out.eb; simp only [List.length_append] at h6 h7 h8; omega)
                    (HS.out.left ht1.out hrow1.out (by have h1 := HS1.out; have h2 := HS2.out; have h3 := HS3.out; have h4 := HS4.out; have h5 := HE.out; have h6 := HNN.out; have h7 := HS.out.em; have h8 := HS.out.eb; simp only [List.length_append] at h6 h7 h8; omega) (by have h1 := HS1.out; have h2 := HS2.out; have h3 := HS3.out; have h4 := HS4.out; have h5 := HE.out; have h6 := HNN.out; have h7 := HS.out.em; have h8 := HS.out.eb; simp only [List.length_append] at h6 h7 h8; omega) HS1.out HS2.out)
                  have HSYM := Lib.hid hsym
                  have hd : decide (a < s ∧ s < mid) = true := decide_eq_true hc
                  rw [hd]
                  clear hd hc hsym
                  go_wp2_with (go_at_call 104; refine HSYM.out.mono ?_; rintro e w1 ⟨rfl, M1, hp1, hq1, hr1, ht2⟩; have HP1 := Lib.hid hp1; have HQ1 := Lib.hid hq1; have HR1 := Lib.hid hr1; have HT2 := Lib.hid ht2; clear hp1 hq1 hr1 ht2)
                  go_meet
                  exact ⟨M1, HP1, HQ1, HR1, Lib.hid (ht1.out.trans HT2.out)⟩
                · have HC := Lib.hid hc
                  have hd : decide (a < s ∧ s < mid) = false := decide_eq_false hc
                  rw [hd]
                  clear hd hc
                  go_wp2_with fail
                  go_meet
                  refine ⟨L1 ++ R1, Lib.hid (List.Perm.refl _), Lib.hid ?_, Lib.hid (by have := hrow1.out; simpa only [List.append_assoc] using this), ht1⟩
                  have : L1 = [] ∨ R1 = [] := by
                    have h1 := HS1.out; have h2 := HS2.out; have h4 := HC.out
                    rcases Nat.eq_zero_or_pos L1.length with h6 | h6
                    · exact Or.inl (List.length_eq_zero_iff.1 h6)
                    · exact Or.inr (List.length_eq_zero_iff.1 (by omega))
                  rcases this with rfl | rfl
                  · simpa using (pairwise_split HS.out.sr).1
                  · simpa using (pairwise_split HS.out.sl).1
              case rest => as_aux_lemma =>
                obtain ⟨M1, HP1, HQ1, HR1, HT1⟩ := hcut
                clear hrow1 ht1
                rename World => we
                go_upto_region 43 with fail
                go_cut [213] (fun s213 wf => s213 = .bool (decide (mid < e ∧ e < b)) ∧ we = wf)
                case first => as_aux_lemma =>
                  by_cases c1 : mid < e
                  · by_cases c2 : e < b
                    · have HD := Lib.hid (decide_eq_true (p := mid < e ∧ e < b) ⟨c1, c2⟩)
                      go_wp2_with fail
                      go_meet
                      exact ⟨by rw [HD.out], rfl⟩
                    · have HD := Lib.hid (decide_eq_false (p := mid < e ∧ e < b) (fun h => c2 h.2))
                      go_wp2_with fail
                      go_meet
                      exact ⟨by rw [HD.out], rfl⟩
                  · have HD := Lib.hid (decide_eq_false (p := mid < e ∧ e < b) (fun h => c1 h.1))
                    go_wp2_with fail
                    go_meet
                    exact ⟨by rw [HD.out], rfl⟩
                case rest => as_aux_lemma =>
                  obtain ⟨rfl, rfl⟩ := hcut
                  by_cases hc : mid < e ∧ e < b
                  · have hsym := HIH.out g cap gc cb N key (A ++ M1) L2 R2 B mid e b len _ (by have h1 := HS1.out; have h2 := HS2.out; have h3 := HS3.out; have h4 := HS4.out; have h5 := HE.out; have h6 := HNN.out; have h7 := HS.out.em; have h8 := HS.out.eb; simp only [List.length_append] at h6 h7 h8; omega)
                      (HS.out.right HT1.out HP1.out HR1.out (by have h1 := HS1.out; have h2 := HS2.out; have h3 := HS3.out; have h4 := HS4.out; have h5 := HE.out; have h6 := HNN.out; have h7 := HS.out.em; have h8 := HS.out.eb; simp only [List.length_append] at h6 h7 h8; omega) (by have h1 := HS1.out; have h2 := HS2.out; have h3 := HS3.out; have h4 := HS4.out; have h5 := HE.out; have h6 := HNN.out; have h7 := HS.out.em; have h8 := HS.out.eb; simp only [List.length_append] at h6 h7 h8; omega) (by have h1 := HS1.out; have h2 := HS2.out; have h3 := HS3.out; have h4 := HS4.out; have h5 := HE.out; have h6 := HNN.out; have h7 := HS.out.em; have h8 := HS.out.eb; simp only [List.length_append] at h6 h7 h8; omega) HS3.out)
                    have HSYM := Lib.hid hsym
                    have hd : decide (mid < e ∧ e < b) = true := decide_eq_true hc
                    rw [hd]
                    clear hd hc hsym
                    go_wp2_with (go_at_call 104; refine HSYM.out.mono ?_; rintro e w1 ⟨rfl, M2, hp2, hq2, hr2, ht2⟩; have HP2 := Lib.hid hp2; have HQ2 := Lib.hid hq2; have HR2 := Lib.hid hr2; have HT2 := Lib.hid ht2; clear hp2 hq2 hr2 ht2)
                    go_end0
                    have hm := merge_four HS.out.sl HS.out.sr HLT1.out HLT2.out HP1.out HP2.out HQ1.out HQ2.out
                    exact ⟨rfl, M1 ++ M2, hm.1, hm.2, by have := HR2.out; simpa only [List.append_assoc] using this, HT1.out.trans HT2.out⟩
                  · have HC := Lib.hid hc
                    have hd : decide (mid < e ∧ e < b) = false := decide_eq_false hc
                    rw [hd]
                    clear hd hc
                    go_wp2_with fail
                    go_end0
                    have hp : (L2 ++ R2).Pairwise (lexLt key) := by
                      have : L2 = [] ∨ R2 = [] := by
                        have h1 := HS3.out; have h2 := HS4.out; have h4 := HC.out
                        rcases Nat.eq_zero_or_pos L2.length with h6 | h6
                        · exact Or.inl (List.length_eq_zero_iff.1 h6)
                        · exact Or.inr (List.length_eq_zero_iff.1 (by omega))
                      rcases this with rfl | rfl
                      · simpa using (pairwise_split HS.out.sr).2.1
                      · simpa using (pairwise_split HS.out.sl).2.1
                    have hm := merge_four HS.out.sl HS.out.sr HLT1.out HLT2.out HP1.out (List.Perm.refl _) HQ1.out hp
                    exact ⟨rfl, M1 ++ (L2 ++ R2), hm.1, hm.2, by have := HR1.out; simpa only [List.append_assoc] using this, HT1.out⟩

end Go.Proofs.Ytigpghmbeldakaa
