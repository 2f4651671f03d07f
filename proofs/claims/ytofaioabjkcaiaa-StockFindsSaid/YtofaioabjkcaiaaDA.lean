/- Find of the reference. -/
import Derived.Test.YtofaioabjkcaiaaCJ
import Derived.Test.YtofaioabjkcaiaaBQ
import Derived.Test.YtofaioabjkcaiaaBV
import Derived.Test.YtofaioabjkcaiaaBU
import Derived.Deep.QuietTactic
import Derived.OwnWalk
namespace Go.Proofs.Ytofaioabjkcaiaa
open Go.RowKit

/-- One run more: what of it is taken. -/
def stepF (q : Pk) (s : List (Int × Int) × Int) (x : Piece) : List (Int × Int) × Int :=
  if s.2 ≤ 0 then s else if x.2.2 = q then (s.1 ++ [(x.1, x.1 + min s.2 (x.2.1 - x.1 + 1) - 1)], s.2 - min s.2 (x.2.1 - x.1 + 1)) else s

/-- The first n pockets of a state, as spans, and how many are missing. -/
def findF (q : Pk) (n : Int) (l : List Piece) : List (Int × Int) × Int := l.foldl (stepF q) ([], n)

theorem findF_stop {q : Pk} : ∀ {l : List Piece} {s : List (Int × Int) × Int}, s.2 ≤ 0 → l.foldl (stepF q) s = s
  | [], _, _ => rfl
  | x :: l, s, h => by
    rw [List.foldl_cons, show stepF q s x = s by unfold stepF; rw [if_pos h]]
    exact findF_stop h

theorem findF_filter {q : Pk} (hq : q.st ≠ 0) : ∀ {l : List Piece} {s : List (Int × Int) × Int}, (l.filter fun x => decide (x.2.2.st ≠ 0)).foldl (stepF q) s = l.foldl (stepF q) s
  | [], _ => rfl
  | x :: l, s => by
    by_cases hs : x.2.2.st = 0
    · have e : stepF q s x = s := by
        unfold stepF
        split
        · rfl
        · rw [if_neg (fun h => hq (by rw [← h]; exact hs))]
      rw [List.filter_cons_of_neg (by simp [hs]), List.foldl_cons, e]
      exact findF_filter hq
    · rw [List.filter_cons_of_pos (by simp [hs]), List.foldl_cons, List.foldl_cons]
      exact findF_filter hq

theorem findF_len {q : Pk} : ∀ {l : List Piece} {s : List (Int × Int) × Int}, (l.foldl (stepF q) s).1.length ≤ s.1.length + l.length
  | [], _ => by simp
  | x :: l, s => by
    rw [List.foldl_cons]
    have := findF_len (q := q) (l := l) (s := stepF q s x)
    have h2 : (stepF q s x).1.length ≤ s.1.length + 1 := by
      unfold stepF
      split
      · omega
      · split
        · simp
        · omega
    simp only [List.length_cons]
    omega

theorem foldF_next {q : Pk} {L : List Piece} {k : Nat} {x : Piece} {s : List (Int × Int) × Int} (h : L[k]? = some x) : (L.take (k + 1)).foldl (stepF q) s = stepF q ((L.take k).foldl (stepF q) s) x := by
  rw [take_next h, List.foldl_append]; rfl

theorem foldF_end {q : Pk} {L : List Piece} {k : Nat} {s r : List (Int × Int) × Int} (h : (L.take k).foldl (stepF q) s = r) (he : L.length ≤ k ∨ r.2 ≤ 0) : L.foldl (stepF q) s = r := by
  rcases he with he | he
  · rw [← h, List.take_of_length_le he]
  · rw [← List.take_append_drop k L, List.foldl_append, h, findF_stop he]

theorem stepF_yes {q : Pk} {s : List (Int × Int) × Int} {x : Piece} (hn : 0 < s.2) (hx : x.2.2 = q) : stepF q s x = (s.1 ++ [(x.1, x.1 + min s.2 (x.2.1 - x.1 + 1) - 1)], s.2 - min s.2 (x.2.1 - x.1 + 1)) := by
  unfold stepF; rw [if_neg (by omega), if_pos hx]

theorem stepF_no {q : Pk} {s : List (Int × Int) × Int} {x : Piece} (hx : x.2.2 ≠ q) : stepF q s x = s := by
  unfold stepF
  split
  · rfl
  · simp only [if_neg hx]

/-- Spans that can be read. -/
def SpansAt (w : World) (v : Value) (l : List (Int × Int)) : Prop :=
  ∃ p cap, v = .slice p l.length cap ∧ ∀ (i : Nat) (x : Int × Int), l[i]? = some x → ∃ g, p = some ⟨g, 0, none⟩ ∧ w.cell? ⟨g, i * 2, none⟩ = some (.int .i64 x.1) ∧ w.cell? ⟨g, i * 2 + 1, none⟩ = some (.int .i64 (x.2 - x.1 + 1))

/-- What Find returns, in a register or its reference. -/
def FindGot (ok : Bool) (r : List (Int × Int) × Int) (w : World) (e : Ending) (w' : World) : Prop :=
  ((ok = false ∧ e = .returned (.tuple #[.slice none 0 0, .int .i64 1])) ∨ (ok = true ∧ 0 < r.2 ∧ e = .returned (.tuple #[.slice none 0 0, .int .i64 4])) ∨
    (ok = true ∧ r.2 ≤ 0 ∧ ∃ base hv, e = .returned (.tuple #[hv, .int .i64 0]) ∧ w'.ownsRow base 32 2 hv r.1.length (r.1.flatMap spanCells))) ∧ Adds w w'

theorem span_row {w : World} {base : Nat} {hv : Value} {acc : List (Int × Int)} {n : Nat} {xa k : Int} (h : w.ownsRow base 32 2 hv n (acc.flatMap spanCells ++ [.int .i64 xa, .int .i64 k])) (hn : n = acc.length + 1) :
    w.ownsRow base 32 2 hv (acc ++ [(xa, xa + k - 1)]).length ((acc ++ [(xa, xa + k - 1)]).flatMap spanCells) := by
  subst hn
  rw [List.flatMap_append, show (acc ++ [(xa, xa + k - 1)]).length = acc.length + 1 by simp]
  have e : [(xa, xa + k - 1)].flatMap spanCells = [.int .i64 xa, .int .i64 k] := by
    simp [spanCells]
    omega
  rw [e]
  exact h

set_option maxRecDepth 100000 in
set_option maxHeartbeats 4000000 in
theorem RFind_any (x : Value) (Ls : List (List Piece)) (ow lt n : Int) (w : World) (hR : RefAt w x Ls) (hlen : (Ls.getLastD []).length ≤ 1000000) (hb : ∀ y ∈ Ls.getLastD [], 1 ≤ y.1 ∧ y.1 ≤ y.2.1 ∧ y.2.1 ≤ 1000000) :
    Calls Try.prog 26 #[x, .int .i64 ow, .int .i64 lt, .int .i64 n] w (FindGot ((inB 1000 ow && inB 1000000 lt) && inB 1000000 n) (findF ⟨1, lt, ow, 0⟩ n (Ls.getLastD [])) w) := by
  have HR := Lib.hid hR
  obtain ⟨px, pc, vs, hx, _⟩ := hR
  obtain ⟨m, hm⟩ : ∃ m, m = vs.length := ⟨_, rfl⟩
  rw [← hm] at hx
  subst hx
  clear hm
  obtain ⟨L, hLL⟩ : ∃ L, L = Ls.getLastD [] := ⟨_, rfl⟩
  rw [← hLL] at hlen hb ⊢
  have HLL := Lib.hid hLL
  have HB := Lib.hid hb
  clear hLL hb
  obtain ⟨q, hq⟩ : ∃ q : Pk, q = ⟨1, lt, ow, 0⟩ := ⟨_, rfl⟩
  rw [← hq]
  have HQ := Lib.hid hq
  clear hq
  have A1 : Adds w (w.alloc (.cells #[.slice px m pc] 27)) := (Adds.refl w).alloc _
  have HA1 := Lib.hid A1
  clear A1
  by_cases h1 : inB 1000 ow = true
  · by_cases h2 : inB 1000000 lt = true
    · by_cases h3 : inB 1000000 n = true
      · have hn1 : 1 ≤ n ∧ n ≤ 1000000 := by simpa [inB] using h3
        obtain ⟨hn1, hn2⟩ := hn1
        obtain ⟨j0, hj, hj0, hj1, hj2⟩ := info_parts info32
        have HJ := Lib.hid hj
        have HJ0 := Lib.hid hj0
        have HJ1 := Lib.hid hj1
        have HJ2 := Lib.hid hj2
        clear hj hj0 hj1 hj2
        rw [h1, h2, h3]
        go_enter Try.func26, Try.ntmps26
        go_upto_region 5 with (first
          | (go_at_call 68; refine (Rmember_any ow _).mono ?_; rintro e w' ⟨rfl, rfl⟩; simp only [h1])
          | (go_at_call 69; refine (Rlot_any lt _).mono ?_; rintro e w' ⟨rfl, rfl⟩; simp only [h2])
          | (go_at_call 18; refine (RLast_any _ Ls _ (HR.out.later HA1.out)).mono ?_; rintro e w2 ⟨lv, rfl, hlv, hb2⟩; rw [← HLL.out] at hlv; have HLV := Lib.hid hlv; have HA2 := Lib.hid (HA1.out.trans hb2); clear hlv hb2))
        obtain ⟨p, cap, rfl, hc⟩ := HLV.out
        obtain ⟨N, hN⟩ : ∃ N, N = L.length := ⟨_, rfl⟩
        rw [← hN] at hlen HLV ⊢
        have HN := Lib.hid hN
        have HC := Lib.hid hc
        clear hN hc HLV h1 h2 h3
        go_wp2_with fail
        go_loopw [3, 10, 12] (fun v3 v10 v12 wr => ∃ (k : Nat) (z : Int) (u : Value) (acc : List (Int × Int)), k ≤ N ∧ 0 ≤ z ∧ z ≤ n ∧ v3 = .int .i64 z ∧ v12 = .int .i64 k ∧ u = v10 ∧ Hid ((L.take k).foldl (stepF q) ([], n) = (acc, z)) ∧ Hid (wr.ownsRow w2.heap.size 32 2 u acc.length (acc.flatMap spanCells)) ∧ Hid (Adds w2 wr)) (fun _ _ v12 _ => N - (intOf v12).toNat)
        case atStart => exact ⟨0, n, _, [], by omega, by omega, by omega, rfl, rfl, rfl, Lib.hid rfl, Lib.hid (World.ownsRow_nil _ _ _ _), Lib.hid (Adds.refl _)⟩
        case round =>
          obtain ⟨k, z, u, acc, hk, hz0, hzn, rfl, rfl, rfl, hfo, hrow, hadd⟩ := hrel
          have hal : Hid (acc.length ≤ 1000000) := Lib.hid (by
            have h := findF_len (q := q) (l := L.take k) (s := ([], n))
            rw [hfo.out] at h
            have := List.length_take_le k L
            have := HN.out
            simp at h
            omega)
          have hww : w2.heap.size ≤ wr.heap.size := hadd.out.size
          by_cases hlt : k < N
          · by_cases hz : 0 < z
            · obtain ⟨x, hx⟩ : ∃ x, L[k]? = some x := ⟨_, List.getElem?_eq_getElem (by have := HN.out; omega)⟩
              obtain ⟨g, rfl, c0, c1, c2, c3, c4, c5⟩ := HC.out k x hx
              obtain ⟨hx1, hx2, hx3⟩ := HB.out x (List.mem_of_getElem? hx)
              have hnx := Lib.hid (foldF_next (q := q) (s := ([], n)) hx)
              clear hx
              replace c0 := keep_cell hadd.out c0
              replace c1 := keep_cell hadd.out c1
              replace c2 := keep_cell hadd.out c2
              replace c3 := keep_cell hadd.out c3
              replace c4 := keep_cell hadd.out c4
              replace c5 := keep_cell hadd.out c5
              obtain ⟨xa, xc, xs, xl, xo, xh⟩ := x
              simp only at c0 c1 c2 c3 c4 c5 hx1 hx2 hx3
              by_cases hp : (⟨xs, xl, xo, xh⟩ : Pk) = ⟨1, lt, ow, 0⟩
              · have HPQ : Hid ((⟨xs, xl, xo, xh⟩ : Pk) = q) := Lib.hid (by rw [HQ.out]; exact hp)
                simp only [Pk.mk.injEq] at hp
                obtain ⟨rfl, rfl, rfl, rfl⟩ := hp
                have s1 := beq_self_eq_true xl
                have s2 := beq_self_eq_true xo
                obtain ⟨ct, hct⟩ : ∃ c, c = xc - xa + 1 := ⟨_, rfl⟩
                have e1 : IntKind.i64.wrap (xc - xa) = xc - xa := by rw [i64_w']; exact w64_in' _ ⟨by omega, by omega⟩
                have e2 : IntKind.i64.wrap (xc - xa + 1) = ct := by rw [i64_w', hct]; exact w64_in' _ ⟨by omega, by omega⟩
                have e3 : wrap64 (xc - xa) = xc - xa := w64_in' _ ⟨by omega, by omega⟩
                have e4 : wrap64 (xc - xa + 1) = ct := by rw [hct]; exact w64_in' _ ⟨by omega, by omega⟩
                have hc1 : 1 ≤ ct := by omega
                have hc2 : ct ≤ 1000000 := by omega
                have HCT := Lib.hid hct
                clear hct
                by_cases hm : z ≤ ct
                · have hm1 : ¬ (ct < z) := by omega
                  have hm2 : (ct < z) = False := eq_false hm1
                  go_upto_region 9 with fail
                  go_quiet (fail)
                  go_wp2_with (at_builtin; ((refine wpList_append_lies _ rfl _ _ 55 rfl w2.heap.size 32 j0 (.agg #[.int .i64 0, .int .i64 0]) 2 16 Try.underlying55 HJ.out HJ0.out HJ1.out HJ2.out rfl (by decide) u acc.length (acc.flatMap spanCells) rfl (ownsRow_same hrow.out (fun g hg => (((Adds.refl wr).drewN _).alloc _).block g (hrow.out.lt g hg).2)) ⟨wr.heap.size, 0, none⟩ 1 1 [.int .i64 xa, .int .i64 z] rfl rfl (World.news_of_block (new_at (by simp))) (by simp [Value.oneCell']) (by omega) (by have := hal.out; unfold maxLen; omega) (by have := hal.out; omega) (by simp; omega) _ rfl ?_); intro g9 c9 Vc hown hgrow hgat hglt; have HOWN := Lib.hid hown; have HAD2 := Lib.hid (adds_touch2 hadd.out (row_grow (n := acc.length + 1) (cap := c9) (((Adds.refl wr).drewN _).alloc _) hgrow hgat).1 (fun k hk => (hrow.out.lt k hk).1)); clear hown hgrow hgat))
                  refine ⟨⟨k + 1, z - z, _, acc ++ [(xa, xa + z - 1)], by omega, by omega, by omega, by go_num, by go_num, rfl, Lib.hid ?_, Lib.hid (span_row HOWN.out rfl), HAD2⟩, by simp [intOf]; omega⟩
                  rw [hnx.out, hfo.out, stepF_yes (by exact hz) HPQ.out]
                  simp only
                  rw [← HCT.out, Int.min_eq_left hm]
                · have hm1 : ct < z := by omega
                  have hm2 : (ct < z) = True := eq_true hm1
                  go_upto_region 9 with fail
                  go_quiet (fail)
                  go_wp2_with (at_builtin; ((refine wpList_append_lies _ rfl _ _ 55 rfl w2.heap.size 32 j0 (.agg #[.int .i64 0, .int .i64 0]) 2 16 Try.underlying55 HJ.out HJ0.out HJ1.out HJ2.out rfl (by decide) u acc.length (acc.flatMap spanCells) rfl (ownsRow_same hrow.out (fun g hg => (((Adds.refl wr).drewN _).alloc _).block g (hrow.out.lt g hg).2)) ⟨wr.heap.size, 0, none⟩ 1 1 [.int .i64 xa, .int .i64 ct] rfl rfl (World.news_of_block (new_at (by simp))) (by simp [Value.oneCell']) (by omega) (by have := hal.out; unfold maxLen; omega) (by have := hal.out; omega) (by simp; omega) _ rfl ?_); intro g9 c9 Vc hown hgrow hgat hglt; have HOWN := Lib.hid hown; have HAD2 := Lib.hid (adds_touch2 hadd.out (row_grow (n := acc.length + 1) (cap := c9) (((Adds.refl wr).drewN _).alloc _) hgrow hgat).1 (fun k hk => (hrow.out.lt k hk).1)); clear hown hgrow hgat))
                  refine ⟨⟨k + 1, z - ct, _, acc ++ [(xa, xa + ct - 1)], by omega, by omega, by omega, by go_num, by go_num, rfl, Lib.hid ?_, Lib.hid (span_row HOWN.out rfl), HAD2⟩, by simp [intOf]; omega⟩
                  rw [hnx.out, hfo.out, stepF_yes (by exact hz) HPQ.out]
                  simp only
                  rw [← HCT.out, Int.min_eq_right (by omega)]
              · have HPQ : Hid ((⟨xs, xl, xo, xh⟩ : Pk) ≠ q) := Lib.hid (by rw [HQ.out]; exact hp)
                rcases pk_split ⟨xs, xl, xo, xh⟩ ⟨1, lt, ow, 0⟩ with hs | hs | hs | hs | hs
                · exact (hp hs).elim
                all_goals
                  clear hp
                  simp only at hs
                  go_wp2_with fail
                  exact ⟨⟨k + 1, z, u, acc, by omega, hz0, hzn, rfl, by go_num, rfl, Lib.hid (by rw [hnx.out, hfo.out]; exact stepF_no HPQ.out), hrow, hadd⟩, by simp [intOf]; omega⟩
            · have HEND := Lib.hid (foldF_end hfo.out (Or.inr (by simp only; omega)))
              go_wp2_with fail
              go_ret2
              refine ⟨Or.inr (Or.inr ⟨rfl, ?_, w2.heap.size, u, rfl, ?_⟩), HA2.out.trans hadd.out⟩
              · unfold findF; rw [HEND.out]; simp only; omega
              · unfold findF; rw [HEND.out]; exact hrow.out
          · have HEND := Lib.hid (foldF_end hfo.out (Or.inl (by have := HN.out; omega)))
            by_cases hz : 0 < z
            · go_wp2_with fail
              go_ret2
              exact ⟨Or.inr (Or.inl ⟨rfl, by unfold findF; rw [HEND.out]; exact hz, rfl⟩), HA2.out.trans hadd.out⟩
            · go_wp2_with fail
              go_ret2
              refine ⟨Or.inr (Or.inr ⟨rfl, ?_, w2.heap.size, u, rfl, ?_⟩), HA2.out.trans hadd.out⟩
              · unfold findF; rw [HEND.out]; simp only; omega
              · unfold findF; rw [HEND.out]; exact hrow.out
      · have h3' : inB 1000000 n = false := by simpa using h3
        have hn : n < 1 ∨ 1000000 < n := by
          have : ¬ (1 ≤ n ∧ n ≤ 1000000) := by simpa [inB] using h3
          omega
        rw [h1, h2, h3']
        rcases hn with hn | hn
        all_goals
          go_enter Try.func26, Try.ntmps26
          go_wp2_with (first
            | (go_at_call 68; refine (Rmember_any ow _).mono ?_; rintro e w' ⟨rfl, rfl⟩; simp only [h1])
            | (go_at_call 69; refine (Rlot_any lt _).mono ?_; rintro e w' ⟨rfl, rfl⟩; simp only [h2]))
          all_goals
            go_ret2
            exact ⟨Or.inl ⟨rfl, rfl⟩, HA1.out⟩
    · have h2' : inB 1000000 lt = false := by simpa using h2
      rw [h1, h2']
      go_enter Try.func26, Try.ntmps26
      go_wp2_with (first
        | (go_at_call 68; refine (Rmember_any ow _).mono ?_; rintro e w' ⟨rfl, rfl⟩; simp only [h1])
        | (go_at_call 69; refine (Rlot_any lt _).mono ?_; rintro e w' ⟨rfl, rfl⟩; simp only [h2']))
      go_ret2
      exact ⟨Or.inl ⟨rfl, rfl⟩, HA1.out⟩
  · have h1' : inB 1000 ow = false := by simpa using h1
    rw [h1']
    go_enter Try.func26, Try.ntmps26
    go_wp2_with (go_at_call 68; refine (Rmember_any ow _).mono ?_; rintro e w' ⟨rfl, rfl⟩; simp only [h1'])
    go_ret2
    exact ⟨Or.inl ⟨rfl, rfl⟩, HA1.out⟩

end Go.Proofs.Ytofaioabjkcaiaa
