/- StockSamples: the walk. -/
import Derived.Test.YtofaioabjkcaiaaDM
import Derived.Test.YtofaioabjkcaiaaAF
namespace Go.Proofs.Ytofaioabjkcaiaa
open Go.RowKit

/-- What a sample is, for any arguments. -/
def SampOK (x0 n k : Int) (l : List Int) (ec : Int) : Prop :=
  ((k < 0 ∨ n < k ∨ 1000000 < n) ∧ l = [] ∧ ec = 1) ∨ (0 ≤ k ∧ k ≤ n ∧ n ≤ 1000000 ∧ ec = 0 ∧ ∃ x F, Samp n x0 k.toNat x F l)

theorem SampOK.unique {x0 n k : Int} {l l' : List Int} {ec ec' : Int} (h : SampOK x0 n k l ec) (h' : SampOK x0 n k l' ec') : l' = l ∧ ec' = ec := by
  rcases h with ⟨h1, rfl, rfl⟩ | ⟨h1, h2, h3, rfl, x, F, h4⟩ <;> rcases h' with ⟨h1', rfl, rfl⟩ | ⟨h1', h2', h3', rfl, x', F', h4'⟩
  · exact ⟨rfl, rfl⟩
  · exfalso; omega
  · exfalso; omega
  · exact ⟨(h4.unique h4').2.2.symm, rfl⟩

theorem SampOK.nice {x0 n k : Int} {l : List Int} {ec : Int} (h : SampOK x0 n k l ec) : l.Nodup ∧ (∀ a ∈ l, 0 ≤ a ∧ a < n) ∧ l.length ≤ 1000000 := by
  rcases h with ⟨h1, rfl, rfl⟩ | ⟨h1, h2, h3, rfl, x, F, h4⟩
  · exact ⟨List.nodup_nil, by simp, by simp⟩
  · obtain ⟨a1, a2, _⟩ := h4.apart
    exact ⟨a1, a2, by rw [h4.length]; omega⟩

theorem Sample_any (x0 n k : Int) (w : World) (h0 : 0 ≤ x0) (h1 : x0 < 18446744073709551616) :
    Calls Try.prog 39 #[.int .u64 x0, .int .i64 n, .int .i64 k] w fun e w' => ∃ u l ec, e = .returned (.tuple #[u, .int .i64 ec]) ∧ NumsAt w' u l ∧ SampOK x0 n k l ec ∧ Adds w w' := by
  by_cases h : k < 0 ∨ n < k ∨ 1000000 < n
  · refine (Sample_err x0 n k w h).mono ?_
    rintro e w' ⟨rfl, rfl⟩
    exact ⟨_, [], 1, rfl, nums_nil _, Or.inl ⟨h, rfl, rfl⟩, Adds.refl _⟩
  · obtain ⟨nn, rfl⟩ : ∃ a : Nat, n = (a : Int) := ⟨n.toNat, by omega⟩
    obtain ⟨kk, rfl⟩ : ∃ a : Nat, k = (a : Int) := ⟨k.toNat, by omega⟩
    refine (Sample_ok x0 nn kk w h0 h1 (by omega) (by omega)).mono ?_
    rintro e w' ⟨g, x, F, l, rfl, hs, hr, ha⟩
    exact ⟨_, l, 0, rfl, hr.nums hs.length, Or.inr ⟨by omega, by omega, by omega, rfl, x, F, by simpa using hs⟩, ha⟩

theorem RSample_any (x0 n k : Int) (w : World) (h0 : 0 ≤ x0) (h1 : x0 < 18446744073709551616) :
    Calls Try.prog 40 #[.int .u64 x0, .int .i64 n, .int .i64 k] w fun e w' => ∃ u l ec, e = .returned (.tuple #[u, .int .i64 ec]) ∧ NumsAt w' u l ∧ SampOK x0 n k l ec ∧ Adds w w' := by
  by_cases h : k < 0 ∨ n < k ∨ 1000000 < n
  · refine (RSample_err x0 n k w h).mono ?_
    rintro e w' ⟨rfl, rfl⟩
    exact ⟨_, [], 1, rfl, nums_nil _, Or.inl ⟨h, rfl, rfl⟩, Adds.refl _⟩
  · obtain ⟨nn, rfl⟩ : ∃ a : Nat, n = (a : Int) := ⟨n.toNat, by omega⟩
    obtain ⟨kk, rfl⟩ : ∃ a : Nat, k = (a : Int) := ⟨k.toNat, by omega⟩
    refine (RSample_ok x0 nn kk w h0 h1 (by omega) (by omega)).mono ?_
    rintro e w' ⟨u, x, F, l, rfl, hs, hr, ha⟩
    exact ⟨_, l, 0, rfl, hr, Or.inr ⟨by omega, by omega, by omega, rfl, x, F, by simpa using hs⟩, ha⟩

theorem rem_bd (a m : Int) (h : 1 ≤ m) (h2 : m ≤ 40) : 0 ≤ wrap64 ((IntKind.u64.wrap a).tmod m) ∧ wrap64 ((IntKind.u64.wrap a).tmod m) < m := by
  have h3 : 0 ≤ IntKind.u64.wrap a := by rw [u64_w]; omega
  obtain ⟨b, hb⟩ : ∃ b, b = IntKind.u64.wrap a := ⟨_, rfl⟩
  rw [← hb] at h3 ⊢
  clear hb
  rw [Int.tmod_eq_emod_of_nonneg h3]
  have h4 := Int.emod_nonneg b (show m ≠ 0 by omega)
  have h5 := Int.emod_lt_of_pos b (show 0 < m by omega)
  have h6 : wrap64 (b % m) = b % m := by unfold wrap64; omega
  rw [h6]
  exact ⟨h4, h5⟩

theorem nodup_ne {l : List Int} (h : l.Nodup) {x y : Nat} {p q : Int} (hx : l[x]? = some p) (hy : l[y]? = some q) (hlt : y < x) : p ≠ q := by
  obtain ⟨h1, e1⟩ := List.getElem?_eq_some_iff.1 hx
  obtain ⟨h2, e2⟩ := List.getElem?_eq_some_iff.1 hy
  have := (List.pairwise_iff_getElem.1 h) y x h2 h1 hlt
  rw [e1, e2] at this
  exact fun e => this e.symm

set_option maxRecDepth 100000 in
set_option maxHeartbeats 2000000 in
theorem samples_any (x0 n0 k0 : Int) (w : World) (h0 : 0 ≤ x0) (h1 : x0 < 18446744073709551616) :
    Calls Try.prog 11 #[.int .u64 x0, .int .i64 n0, .int .i64 k0] w fun e w' => e = .returned (.bool true) ∧ Adds w w' := by
  go_enter Try.func11, Try.ntmps11
  go_wp2_with fail
  go_loopw [1, 2, 7] (fun v1 v2 v7 wr => ∃ (j : Nat) (n k : Int), j ≤ 2 ∧ v1 = .int .i64 n ∧ v2 = .int .i64 k ∧ v7 = .int .i64 j ∧ Hid (0 < j → 0 ≤ n ∧ n < 40 ∧ 0 ≤ k ∧ k ≤ n) ∧ Hid (Adds w wr)) (fun _ _ v7 _ => 2 - (intOf v7).toNat)
  case atStart => exact ⟨0, n0, k0, by omega, rfl, rfl, rfl, Lib.hid (fun h => by omega), Lib.hid (Adds.refl _)⟩
  case round =>
    obtain ⟨j, n, k, hj, rfl, rfl, rfl, hsm, had⟩ := hrel
    by_cases hj2 : j < 2
    · have hj3 : (j : Int) < 2 := by omega
      go_upto_region 4 with fail
      obtain ⟨c, hc⟩ : ∃ c, c = decide (k ≤ 200 ∨ n < k ∨ 1000000 < n) := ⟨_, rfl⟩
      go_cut [32] from 18 to 101 (fun v32 wx => v32 = .bool c ∧ wr = wx)
      case first =>
        by_cases a1 : k ≤ 200
        · have g1 : decide (k ≤ 200) = true := decide_eq_true a1
          have hct : c = true := by rw [hc]; simp [a1]
          clear hc
          subst hct
          go_wp2_with fail
          go_meet
          exact ⟨rfl, rfl⟩
        · have g1 : decide (k ≤ 200) = false := decide_eq_false a1
          by_cases a2 : n < k
          · have g2 : decide (n < k) = true := decide_eq_true a2
            have hct : c = true := by rw [hc]; simp [a2]
            clear hc
            subst hct
            go_wp2_with fail
            go_meet
            exact ⟨rfl, rfl⟩
          · have g2 : decide (n < k) = false := decide_eq_false a2
            by_cases a3 : 1000000 < n
            · have g3 : decide (1000000 < n) = true := decide_eq_true a3
              have hct : c = true := by rw [hc]; simp [a3]
              clear hc
              subst hct
              go_wp2_with fail
              go_meet
              exact ⟨rfl, rfl⟩
            · have g3 : decide (1000000 < n) = false := decide_eq_false a3
              have hct : c = false := by rw [hc]; simp [a1, a2, a3]
              clear hc
              subst hct
              go_wp2_with fail
              go_meet
              exact ⟨rfl, rfl⟩
      case rest =>
        obtain ⟨rfl, rfl⟩ := hcut
        clear hc
        cases c
        · go_upto_region 18 with fail
          obtain ⟨N, hN⟩ : ∃ N, N = wrap64 ((IntKind.u64.wrap n).tmod 40) := ⟨_, rfl⟩
          have hNb := rem_bd n 40 (by omega) (by omega)
          rw [← hN] at hNb ⊢
          clear hN
          have hq1 : IntKind.u64.wrap (N + 1) = N + 1 := by rw [u64_w]; omega
          have hq2 : (N + 1 = 0) = False := eq_false (by omega)
          have hkb := Lib.hid (rem_bd k (N + 1) (by omega) (by omega))
          go_wp2_with fail
          refine ⟨⟨j + 1, N, wrap64 ((IntKind.u64.wrap k).tmod (N + 1)), by omega, rfl, rfl, by go_num, Lib.hid (fun _ => ⟨hNb.1, hNb.2, hkb.out.1, ?_⟩), Lib.hid (had.out)⟩, by simp [intOf]; omega⟩
          have := hkb.out.2
          omega
        · go_upto_region 7 with (first
            | (go_at_call 39; refine (Sample_any x0 n k _ h0 h1).mono ?_; rintro e w1 ⟨u, l, ec, rfl, hu, hok, ha1⟩; have HU := Lib.hid hu; have HOK := Lib.hid hok; have HA1 := Lib.hid ha1; clear hu hok ha1)
            | (go_at_call 40; refine (RSample_any x0 n k _ h0 h1).mono ?_; rintro e w2 ⟨v, l2, ec2, rfl, hv, hok2, ha2⟩; have HV := Lib.hid hv; have HOK2 := Lib.hid hok2; have HA2 := Lib.hid ha2; clear hv hok2 ha2))
          obtain ⟨e1, e2⟩ := HOK.out.unique HOK2.out
          subst e1
          subst e2
          have hb0 := beq_self_eq_true ec2
          have hnice := Lib.hid HOK.out.nice
          have HI := Lib.hid (ints_any u v l2 w2 (HU.out.later HA2.out) HV.out hnice.out.2.2)
          have HU2 := Lib.hid (HU.out.later HA2.out)
          have HAD2 := Lib.hid ((had.out.trans HA1.out).trans HA2.out)
          clear HU HV HA1 HA2 had HOK HOK2
          obtain ⟨p, cap, hu, hc⟩ := HU2.out
          obtain ⟨L, hL⟩ : ∃ L, L = l2.length := ⟨_, rfl⟩
          rw [← hL] at hu
          have HL := Lib.hid hL
          clear hL HU2
          subst hu
          have HC := Lib.hid hc
          clear hc
          have hLb : L ≤ 1000000 := by rw [HL.out]; exact hnice.out.2.2
          go_upto_region 9 with (go_at_call 41; refine HI.out.mono ?_; rintro e w3 ⟨rfl, ha3⟩; have HA3 := Lib.hid ha3; clear ha3)
          clear HI
          go_wp2_with fail
          go_loopw [12] (fun v12 wx => ∃ x : Nat, x ≤ L ∧ v12 = .int .i64 x ∧ Hid (Adds w2 wx)) (fun v12 _ => L - (intOf v12).toNat)
          case atStart => exact ⟨0, Nat.zero_le _, rfl, HA3⟩
          case round =>
            clear HA3
            obtain ⟨x, hx, rfl, hadx⟩ := hrel
            by_cases hxl : x < L
            · have hxl2 : (x : Int) < (L : Int) := by omega
              go_wp2_with fail
              go_loopw [13] (fun v13 wy => ∃ y : Nat, y ≤ x ∧ v13 = .int .i64 y ∧ Hid (Adds w2 wy)) (fun v13 _ => x - (intOf v13).toNat)
              case atStart => exact ⟨0, Nat.zero_le _, rfl, hadx⟩
              case round =>
                obtain ⟨y, hy, rfl, hady⟩ := hrel
                by_cases hyx : y < x
                · obtain ⟨a, ha⟩ : ∃ a, l2[x]? = some a := ⟨_, List.getElem?_eq_getElem (by have := HL.out; omega)⟩
                  obtain ⟨b, hb⟩ : ∃ b, l2[y]? = some b := ⟨_, List.getElem?_eq_getElem (by have := HL.out; omega)⟩
                  obtain ⟨g, rfl, c0⟩ := HC.out x a ha
                  obtain ⟨g2, hg2, c1⟩ := HC.out y b hb
                  injection hg2 with hg2
                  injection hg2 with hg2
                  subst hg2
                  replace c0 := keep_cell hady.out c0
                  replace c1 := keep_cell hady.out c1
                  have hne : (a == b) = false := beq_eq_false_iff_ne.2 (nodup_ne hnice.out.1 ha hb hyx)
                  obtain ⟨r0, r1⟩ := hnice.out.2.1 a (List.mem_of_getElem? ha)
                  have g4 : decide (a < 0) = false := decide_eq_false (by omega)
                  have g5 : decide (n ≤ a) = false := decide_eq_false (by omega)
                  clear ha hb
                  go_upto_region 15 with fail
                  go_quiet (fail)
                  go_wp2_with fail
                  refine ⟨⟨y + 1, by omega, by go_num, Lib.hid (by first | exact hady.out | exact hady.out.drew | exact hady.out.drewN _)⟩, by simp [intOf]; omega⟩
                · go_wp2_with fail
                  exact ⟨⟨x + 1, by omega, by go_num, hady⟩, by simp [intOf]; omega⟩
            · go_upto_region 18 with fail
              obtain ⟨N, hN⟩ : ∃ N, N = wrap64 ((IntKind.u64.wrap n).tmod 40) := ⟨_, rfl⟩
              have hNb := rem_bd n 40 (by omega) (by omega)
              rw [← hN] at hNb ⊢
              clear hN
              have hq1 : IntKind.u64.wrap (N + 1) = N + 1 := by rw [u64_w]; omega
              have hq2 : (N + 1 = 0) = False := eq_false (by omega)
              have hkb := Lib.hid (rem_bd k (N + 1) (by omega) (by omega))
              go_wp2_with fail
              refine ⟨⟨j + 1, N, wrap64 ((IntKind.u64.wrap k).tmod (N + 1)), by omega, rfl, rfl, by go_num, Lib.hid (fun _ => ⟨hNb.1, hNb.2, hkb.out.1, ?_⟩), Lib.hid ((HAD2.out.trans hadx.out))⟩, by simp [intOf]; omega⟩
              have := hkb.out.2
              omega
    · have hje : j = 2 := by omega
      subst hje
      obtain ⟨n1, n2, k1, k2⟩ := hsm.out (by omega)
      obtain ⟨nn, rfl⟩ : ∃ a : Nat, n = (a : Int) := ⟨n.toNat, by omega⟩
      obtain ⟨kk, rfl⟩ : ∃ a : Nat, k = (a : Int) := ⟨k.toNat, by omega⟩
      have hkn : kk ≤ nn := by omega
      have hn40 : nn ≤ 40 := by omega
      clear hsm n1 n2 k1 k2
      have hc1 : ∀ W, Calls Try.prog 39 #[.int .u64 x0, .int .i64 nn, .int .i64 nn] W fun e w' => ∃ g x F l, e = .returned (.tuple #[.slice (some ⟨g, 0, none⟩) nn nn, .int .i64 0]) ∧ Samp nn x0 nn x F l ∧ RowI 3 .i64 w' g nn l ∧ Adds W w' := fun W => Sample_ok x0 nn nn W h0 h1 (Nat.le_refl _) (by omega)
      have hc2 : ∀ W, Calls Try.prog 39 #[.int .u64 x0, .int .i64 nn, .int .i64 kk] W fun e w' => ∃ g x F l, e = .returned (.tuple #[.slice (some ⟨g, 0, none⟩) kk kk, .int .i64 0]) ∧ Samp nn x0 kk x F l ∧ RowI 3 .i64 w' g kk l ∧ Adds W w' := fun W => Sample_ok x0 nn kk W h0 h1 hkn (by omega)
      have HC1 := Lib.hid hc1
      have HC2 := Lib.hid hc2
      clear hc1 hc2
      go_upto_region 20 with (go_at_call 39; refine (HC1.out _).mono ?_; rintro e w1 ⟨g, x, F, l, rfl, hs, hr, ha1⟩; have HS := Lib.hid hs; have HR := Lib.hid hr; have HA1 := Lib.hid ha1; clear hs hr ha1)
      go_upto_region 21 with (go_at_call 39; refine (HC2.out _).mono ?_; rintro e w2 ⟨g2, x2, F2, l2, rfl, hs2, hr2, ha2⟩; have HS2 := Lib.hid hs2; have HR2 := Lib.hid hr2; have HA2 := Lib.hid ha2; clear hs2 hr2 ha2)
      have hpre : l2 = l.take kk := by
        obtain ⟨x3, F3, h3⟩ := HS.out.upto kk hkn
        exact (HS2.out.unique h3).2.2
      have hN1 : NumsAt w2 (.slice (some ⟨g, 0, none⟩) kk nn) l2 := by
        refine ⟨some ⟨g, 0, none⟩, nn, by rw [HS2.out.length], fun i y hy => ⟨g, rfl, ?_⟩⟩
        rw [hpre, List.getElem?_take] at hy
        split at hy
        · exact (HR.out.later HA2.out).cell hy
        · cases hy
      have hN2 : NumsAt w2 (.slice (some ⟨g2, 0, none⟩) kk kk) l2 := HR2.out.nums HS2.out.length
      have HI := Lib.hid (ints_any _ _ l2 w2 hN2 hN1 (by rw [HS2.out.length]; omega))
      have HAD := Lib.hid ((had.out.trans HA1.out).trans HA2.out)
      clear hpre hN1 hN2 HC1 HC2 HS HS2 HR HR2 HA1 HA2 had
      have hb0 := beq_self_eq_true (nn : Int)
      go_wp2_with (first
        | (go_at_call 41; refine HI.out.mono ?_; rintro e w3 ⟨rfl, ha3⟩; have HA3 := Lib.hid ha3; clear ha3)
        | (go_at_call 19; refine (awake_any _).mono ?_; rintro e w4 ⟨rfl, ha4⟩; have HA4 := Lib.hid ha4; clear ha4))
      go_ret
      exact ⟨rfl, (HAD.out.trans HA3.out).trans HA4.out⟩

end Go.Proofs.Ytofaioabjkcaiaa
