/- change of the reference. -/
import Derived.Test.YtofaioabjkcaiaaBT
import Derived.Deep.RegionHeld3
namespace Go.Proofs.Ytofaioabjkcaiaa
open Go.RowKit

/-- Ends that are small. -/
def okR (l : List Piece) : Prop := ∀ x ∈ l, -10000000 ≤ x.2.1 ∧ x.2.1 ≤ 10000000

theorem okR_add {l : List Piece} {r : Piece} (h : okR l) (h1 : -10000000 ≤ r.2.1) (h2 : r.2.1 ≤ 10000000) : okR (addR l r) := by
  intro x hx
  unfold addR at hx
  split at hx
  · exact h x hx
  · split at hx
    · rcases List.mem_append.1 hx with hx | hx
      · exact h x hx
      · rw [List.mem_singleton.1 hx]; exact ⟨h1, h2⟩
    · split at hx
      · rcases List.mem_append.1 hx with hx | hx
        · exact h x ((List.dropLast_sublist l).subset hx)
        · rw [List.mem_singleton.1 hx]; exact ⟨h1, h2⟩
      · rcases List.mem_append.1 hx with hx | hx
        · exact h x hx
        · rw [List.mem_singleton.1 hx]; exact ⟨h1, h2⟩

/-- Within a round: the list so far, and the two boxes. -/
structure CS (W3 : World) (lb b6 : Nat) (xs ts : Array Value) (V : Value) (O : List Piece) (n : Nat) (Wq : World) : Prop where
  row : RunRow Wq W3.heap.size V O
  r : Box Wq lb xs 63
  t : Box Wq b6 ts 61
  nr : ¬ V.ownBlock = some lb
  nt : ¬ V.ownBlock = some b6
  adds : Adds W3 Wq
  len : O.length ≤ n
  ok : okR O

theorem grow_box {O O' : Nat → Prop} {a b : World} (g : Grow O a O' b) {B : Nat} {vs : Array Value} {t : TypeId} (h : Box a B vs t) (hn : ¬ O B) : Box b B vs t ∧ ¬ O' B :=
  ⟨h.same (g.1.same _ h.lt hn), fun h' => (g.2 _ h').elim hn (fun h2 => by have := h.lt; omega)⟩

theorem grow_own {W3 a b : World} {V V' : Value} (hA : Adds W3 a) (hO : ∀ k, V.ownBlock = some k → W3.heap.size ≤ k) (g : Grow (fun k => V.ownBlock = some k) a (fun k => V'.ownBlock = some k) b) : Adds W3 b :=
  ⟨g.1.os.trans hA.os, g.1.tape.trans hA.tape, g.1.output.trans hA.output, Nat.le_trans hA.size g.1.size, fun k hk => (g.1.same k (Nat.lt_of_lt_of_le hk hA.size) (fun ho => by have := hO k ho; omega)).trans (hA.block k hk)⟩

theorem CS.later {W3 : World} {lb b6 : Nat} {xs ts : Array Value} {V : Value} {O : List Piece} {n : Nat} {Wq W' : World} (h : CS W3 lb b6 xs ts V O n Wq) (hA : Adds Wq W') : CS W3 lb b6 xs ts V O n W' :=
  ⟨h.row.later hA, h.r.later hA, h.t.later hA, h.nr, h.nt, h.adds.trans hA, h.len, h.ok⟩

theorem CS.call {W3 : World} {lb b6 : Nat} {xs ts : Array Value} {V : Value} {O : List Piece} {n : Nat} {Wq : World} (h : CS W3 lb b6 xs ts V O n Wq) (r : Piece) (hn : n ≤ 5000000) (h1 : -10000000 ≤ r.2.1) (h2 : r.2.1 ≤ 10000000) :
    Calls Try.prog 112 #[V, runVal r] Wq fun e w' => ∃ V1, e = .returned V1 ∧ CS W3 lb b6 xs ts V1 (addR O r) (n + 1) w' :=
  (add_any W3.heap.size V O r Wq h.row h.adds.size (by have := h.len; omega) h.ok).mono fun e w' ⟨V1, he, hr, hg⟩ => by
    obtain ⟨b1, n1⟩ := grow_box hg h.r h.nr
    obtain ⟨b2, n2⟩ := grow_box hg h.t h.nt
    refine ⟨V1, he, hr, b1, b2, n1, n2, grow_own h.adds (fun k hk => (h.row.lt k hk).1) hg, ?_, okR_add h.ok h1 h2⟩
    have := addR_len O r
    have := h.len
    omega

theorem chg_in {a b what : Int} {t : Pk} {r : Piece} {rs out : List Piece} {ent : Bool} (h : what = 0 ∧ ent = false ∧ b < r.1) :
    chgGo a b t what (r :: rs) out ent = chgGo a b t what rs (threeR (addR out (a, b, t)) r a b (whatF r.2.2 t what)) true := by
  rw [chgGo, if_pos h]
theorem chg_out {a b what : Int} {t : Pk} {r : Piece} {rs out : List Piece} {ent : Bool} (h : ¬ (what = 0 ∧ ent = false ∧ b < r.1)) :
    chgGo a b t what (r :: rs) out ent = chgGo a b t what rs (threeR out r a b (whatF r.2.2 t what)) ent := by
  rw [chgGo, if_neg h]

theorem box6 {w : World} {b : Nat} {x0 x1 x2 x3 x4 x5 : Value} {t : TypeId} (h : Box w b #[x0, x1, x2, x3, x4, x5] t) :
    w.cell? ⟨b, 0, none⟩ = some x0 ∧ w.cell? ⟨b, 1, none⟩ = some x1 ∧ w.cell? ⟨b, 2, none⟩ = some x2 ∧ w.cell? ⟨b, 3, none⟩ = some x3 ∧ w.cell? ⟨b, 4, none⟩ = some x4 ∧ w.cell? ⟨b, 5, none⟩ = some x5 :=
  ⟨h.cell 0, h.cell 1, h.cell 2, h.cell 3, h.cell 4, h.cell 5⟩
theorem box4 {w : World} {b : Nat} {x0 x1 x2 x3 : Value} {t : TypeId} (h : Box w b #[x0, x1, x2, x3] t) :
    w.cell? ⟨b, 0, none⟩ = some x0 ∧ w.cell? ⟨b, 1, none⟩ = some x1 ∧ w.cell? ⟨b, 2, none⟩ = some x2 ∧ w.cell? ⟨b, 3, none⟩ = some x3 :=
  ⟨h.cell 0, h.cell 1, h.cell 2, h.cell 3⟩

theorem chg_nil_in {a b what : Int} {t : Pk} {out : List Piece} {ent : Bool} (h : what = 0 ∧ ent = false) : chgGo a b t what [] out ent = addR out (a, b, t) := by
  rw [chgGo, if_pos h]
theorem chg_nil_out {a b what : Int} {t : Pk} {out : List Piece} {ent : Bool} (h : ¬ (what = 0 ∧ ent = false)) : chgGo a b t what [] out ent = out := by
  rw [chgGo, if_neg h]

/-- What change returns. -/
def RunsGot (l : List Piece) (w : World) (e : Ending) (w' : World) : Prop := ∃ v, e = .returned v ∧ RunsAt w' v l ∧ Adds w w'

set_option maxRecDepth 100000 in
set_option maxHeartbeats 8000000 in
theorem change_R (v : Value) (L : List Piece) (a n what : Int) (t : Pk) (w : World) (hL : RunsAt w v L) (hok : ∀ x ∈ L, 1 ≤ x.1 ∧ x.1 ≤ x.2.1 ∧ x.2.1 ≤ 1000000) (hlen : L.length ≤ 1000000) (ha : 1 ≤ a) (ha2 : a ≤ 1000000) (hn : 1 ≤ n) (hn2 : n ≤ 1000000) (hw : 0 ≤ what) (hw2 : what ≤ 5) :
    Calls Try.prog 95 #[v, .agg #[.int .i64 a, .int .i64 n], t.val, .int .i64 what] w (RunsGot (chgGo a (a + n - 1) t what L [] false) w) := by
  obtain ⟨ts, tl, tt, th⟩ := t
  obtain ⟨p, cap, rfl, hc⟩ := hL
  unfold Pk.val
  dsimp only
  have HC := Lib.hid hc
  have HOK := Lib.hid hok
  obtain ⟨N, hN⟩ : ∃ N, N = L.length := ⟨_, rfl⟩
  rw [← hN] at hlen ⊢
  have HN := Lib.hid hN
  obtain ⟨b, hb⟩ : ∃ b, b = a + n - 1 := ⟨_, rfl⟩
  rw [← hb]
  have hb1 : 1 ≤ b := by omega
  have hb2 : b ≤ 2000000 := by omega
  obtain ⟨RES, hRES⟩ : ∃ R, R = chgGo a b ⟨ts, tl, tt, th⟩ what L [] false := ⟨_, rfl⟩
  rw [← hRES]
  have HRES := Lib.hid hRES
  have hcq : Hid (∀ q W, Calls Try.prog 113 #[q.val, .agg #[.int .i64 ts, .int .i64 tl, .int .i64 tt, .int .i64 th], .int .i64 what] W fun e w' => e = .returned (whatF q ⟨ts, tl, tt, th⟩ what).val ∧ Adds W w') := Lib.hid (fun q W => changed_pk q ⟨ts, tl, tt, th⟩ what W hw hw2)
  have HB := Lib.hid hb
  clear hc hok hN hRES hb
  go_enter Try.func95, Try.ntmps95
  go_upto_region 1 with fail
  go_quiet (fail)
  rw [← HB.out]
  obtain ⟨b6, hb6⟩ : ∃ k, k = w.heap.size + 1 := ⟨_, rfl⟩
  obtain ⟨W3, hW3⟩ : ∃ V, V = ((w.alloc (.cells #[.int .i64 a, .int .i64 n] 32)).alloc (.cells #[.int .i64 ts, .int .i64 tl, .int .i64 tt, .int .i64 th] 61)).drewN nq := ⟨_, rfl⟩
  have A3 : Adds w W3 := by rw [hW3]; exact (((Adds.refl w).alloc _).alloc _).drewN _
  have X6 : Box W3 b6 #[.int .i64 ts, .int .i64 tl, .int .i64 tt, .int .i64 th] 61 := by rw [hW3, hb6]; exact Box.later (new_at (w := w.alloc (.cells #[.int .i64 a, .int .i64 n] 32)) (by simp)) ((Adds.refl _).drewN nq)
  rw [← hW3, ← hb6]
  have HA3 := Lib.hid A3
  have HX6 := Lib.hid X6
  clear hW3 hb6 A3 X6 HB
  go_wp2_with fail
  go_loopw [11, 12, 13] (fun v11 v12 v13 wr => ∃ (k : Nat) (out : List Piece) (ent : Bool), k ≤ N ∧ v13 = .int .i64 k ∧ v12 = .bool ent ∧ Hid (RunRow wr W3.heap.size v11 out) ∧ Hid (out.length ≤ 4 * k) ∧ Hid (okR out) ∧ Hid (chgGo a b ⟨ts, tl, tt, th⟩ what (L.drop k) out ent = RES) ∧ Hid (Adds W3 wr)) (fun _ _ v13 _ => N - (intOf v13).toNat)
  case atStart => exact ⟨0, [], false, by omega, rfl, rfl, Lib.hid (World.ownsRow_nil _ _ _ _), Lib.hid (by simp), Lib.hid (fun x hx => by simp at hx), Lib.hid HRES.out.symm, Lib.hid (Adds.refl _)⟩
  case round =>
    obtain ⟨k, out, ent, hk, rfl, rfl, hrow, hlo, hoko, hres, hadd⟩ := hrel
    by_cases hlt : k < N
    · obtain ⟨⟨xa, xc, xs, xl, xo, xh⟩, hx⟩ : ∃ x, L[k]? = some x := ⟨_, List.getElem?_eq_getElem (by have := HN.out; omega)⟩
      obtain ⟨g, rfl, c0, c1, c2, c3, c4, c5⟩ := HC.out k _ hx
      have hxk := HOK.out _ (List.mem_of_getElem? hx)
      simp only at c0 c1 c2 c3 c4 c5 hxk
      have hdrop : L.drop k = (xa, xc, ⟨xs, xl, xo, xh⟩) :: L.drop (k + 1) := by
        have hk' : k < L.length := (List.getElem?_eq_some_iff.1 hx).1
        rw [List.drop_eq_getElem_cons hk']
        congr 1
        exact (List.getElem?_eq_some_iff.1 hx).2
      rw [hdrop] at hres
      have AA := HA3.out.trans hadd.out
      replace c0 := keep_cell AA c0
      replace c1 := keep_cell AA c1
      replace c2 := keep_cell AA c2
      replace c3 := keep_cell AA c3
      replace c4 := keep_cell AA c4
      replace c5 := keep_cell AA c5
      have hq := hcq.out ⟨xs, xl, xo, xh⟩
      obtain ⟨⟨qs, ql, qo, qh⟩, hqe⟩ : ∃ q, q = whatF ⟨xs, xl, xo, xh⟩ ⟨ts, tl, tt, th⟩ what := ⟨_, rfl⟩
      rw [← hqe] at hq
      have HQE := Lib.hid hqe
      have HQ := Lib.hid hq
      have HX6r := Lib.hid (HX6.out.later hadd.out)
      obtain ⟨hx1, hx2, hx3⟩ := hxk
      clear hx hdrop AA hqe hq
      go_upto_region 8 with fail
      obtain ⟨lb, hlb⟩ : ∃ k, k = wr.heap.size := ⟨_, rfl⟩
      obtain ⟨Wr, hWr⟩ : ∃ V, V = wr.alloc (.cells #[.int .i64 xa, .int .i64 xc, .int .i64 xs, .int .i64 xl, .int .i64 xo, .int .i64 xh] 63) := ⟨_, rfl⟩
      have hcs : CS W3 lb b6 #[.int .i64 xa, .int .i64 xc, .int .i64 xs, .int .i64 xl, .int .i64 xo, .int .i64 xh] #[.int .i64 ts, .int .i64 tl, .int .i64 tt, .int .i64 th] u11 out (4 * k) Wr := by
        rw [hWr, hlb]
        have A := (Adds.refl wr).alloc (.cells #[.int .i64 xa, .int .i64 xc, .int .i64 xs, .int .i64 xl, .int .i64 xo, .int .i64 xh] 63)
        refine ⟨hrow.out.later A, Box.new _ _ _, HX6r.out.later A, fun h => ?_, fun h => ?_, hadd.out.trans A, hlo.out, hoko.out⟩
        · have := (hrow.out.lt _ h).2; omega
        · have := (hrow.out.lt _ h).1; have := HX6.out.lt; omega
      rw [← hWr, ← hlb]
      have HCS := Lib.hid hcs
      clear hcs c0 c1 c2 c3 c4 c5 hWr hlb HX6r hrow hlo hoko
      obtain ⟨d0, d1, d2, d3, d4, d5⟩ := box6 HCS.out.r
      obtain ⟨e0, e1, e2, e3⟩ := box4 HCS.out.t
      obtain ⟨bb, hbb⟩ : ∃ bb : Bool, bb = (decide (what = 0) && !ent && decide (b < xa)) := ⟨_, rfl⟩
      have HBB := Lib.hid hbb
      clear hbb
      go_cut [44] (fun s wc => s = .bool bb ∧ Wr = wc)
      case first => as_aux_lemma =>
        have hbb := HBB.out
        by_cases hw0 : what = 0
        · have hw0' : (what == 0) = true := beq_iff_eq.2 hw0
          cases ent with
          | true =>
            have e : bb = false := by rw [hbb]; simp
            subst e
            clear hbb HBB hw0
            go_wp2
            go_meet
            exact ⟨rfl, rfl⟩
          | false =>
            by_cases hlx : b < xa
            · have e : bb = true := by rw [hbb]; simp [hw0, hlx]
              subst e
              clear hbb HBB hw0
              go_wp2
              go_meet
              exact ⟨rfl, rfl⟩
            · have e : bb = false := by rw [hbb]; simp [hlx]
              subst e
              clear hbb HBB hw0
              go_wp2
              go_meet
              exact ⟨rfl, rfl⟩
        · have hw0' : (what == 0) = false := beq_eq_false_iff_ne.2 hw0
          have e : bb = false := by rw [hbb]; simp [hw0]
          subst e
          clear hbb HBB hw0
          go_wp2
          go_meet
          exact ⟨rfl, rfl⟩
      case rest =>
      obtain ⟨rfl, rfl⟩ := hcut
      clear d0 d1 d2 d3 d4 d5 e0 e1 e2 e3
      cases hb5 : bb with
      | true =>
        have hbb := HBB.out
        rw [hb5] at hbb
        have h3 := hbb.symm
        simp only [Bool.and_eq_true, Bool.not_eq_true', decide_eq_true_eq] at h3
        have HIN := Lib.hid (show what = 0 ∧ ent = false ∧ b < (xa, xc, (⟨xs, xl, xo, xh⟩ : Pk)).1 from ⟨h3.1.1, h3.1.2, h3.2⟩)
        subst hb5
        clear hbb h3 HBB
        obtain ⟨e0, e1, e2, e3⟩ := box4 HCS.out.t
        go_upto_region 11 with (go_at_call 112; refine (CS.call HCS.out (a, b, ⟨ts, tl, tt, th⟩) (by omega) (by simp only; omega) (by simp only; omega)).mono ?_; rintro e w0 ⟨v0, rfl, hcs⟩; have HC0 := Lib.hid hcs; clear hcs)
        clear e0 e1 e2 e3
        obtain ⟨d0, d1, d2, d3, d4, d5⟩ := box6 HC0.out.r
        obtain ⟨e0, e1, e2, e3⟩ := box4 HC0.out.t
        go_upto_region 11 with fail
        obtain ⟨R1, hR1⟩ : ∃ R : Value → World → Prop, R = fun v wc => Hid (CS W3 lb b6 #[.int .i64 xa, .int .i64 xc, .int .i64 xs, .int .i64 xl, .int .i64 xo, .int .i64 xh] #[.int .i64 ts, .int .i64 tl, .int .i64 tt, .int .i64 th] v ((addR (addR out (a, b, ⟨ts, tl, tt, th⟩)) (xa, min xc (a - 1), ⟨xs, xl, xo, xh⟩))) (4 * k + 1 + 1) wc) := ⟨_, rfl⟩
        have HR1 := Lib.hid hR1
        clear hR1
        go_cut [11] (fun v wc => R1 v wc)
        case first =>
          by_cases hm : xc ≤ a - 1
          · have hm1 : min xc (a - 1) = xc := by omega
            have HM1 := Lib.hid hm1
            clear hm1
            go_wp2_with (go_at_call 112; refine (CS.call HC0.out (xa, xc, ⟨xs, xl, xo, xh⟩) (by omega) (by simp only; omega) (by simp only; omega)).mono ?_; rintro e w1 ⟨v1, rfl, hcs⟩; have HC1 := Lib.hid hcs; clear hcs)
            have hR : R1 v1 w1 := by rw [HR1.out]; show Hid (CS W3 lb b6 #[.int .i64 xa, .int .i64 xc, .int .i64 xs, .int .i64 xl, .int .i64 xo, .int .i64 xh] #[.int .i64 ts, .int .i64 tl, .int .i64 tt, .int .i64 th] v1 ((addR (addR out (a, b, ⟨ts, tl, tt, th⟩)) (xa, min xc (a - 1), ⟨xs, xl, xo, xh⟩))) (4 * k + 1 + 1) w1); rw [HM1.out]; exact HC1
            go_meet
            exact hR
          · have hm' : a - 1 < xc := by omega
            have hm1 : min xc (a - 1) = a - 1 := by omega
            have HM1 := Lib.hid hm1
            clear hm1
            go_wp2_with (go_at_call 112; refine (CS.call HC0.out (xa, a - 1, ⟨xs, xl, xo, xh⟩) (by omega) (by simp only; omega) (by simp only; omega)).mono ?_; rintro e w1 ⟨v1, rfl, hcs⟩; have HC1 := Lib.hid hcs; clear hcs)
            have hR : R1 v1 w1 := by rw [HR1.out]; show Hid (CS W3 lb b6 #[.int .i64 xa, .int .i64 xc, .int .i64 xs, .int .i64 xl, .int .i64 xo, .int .i64 xh] #[.int .i64 ts, .int .i64 tl, .int .i64 tt, .int .i64 th] v1 ((addR (addR out (a, b, ⟨ts, tl, tt, th⟩)) (xa, min xc (a - 1), ⟨xs, xl, xo, xh⟩))) (4 * k + 1 + 1) w1); rw [HM1.out]; exact HC1
            go_meet
            exact hR
        case rest =>
        rename World => w1
        rename Value => v1
        rw [HR1.out] at hcut
        have HC1 := hcut
        clear hcut HR1 d0 d1 d2 d3 d4 d5 e0 e1 e2 e3
        go_upto_region 12 with fail
        obtain ⟨d0, d1, d2, d3, d4, d5⟩ := box6 HC1.out.r
        obtain ⟨e0, e1, e2, e3⟩ := box4 HC1.out.t
        obtain ⟨R2, hR2⟩ : ∃ R : Value → World → Prop, R = fun v wc => Hid (CS W3 lb b6 #[.int .i64 xa, .int .i64 xc, .int .i64 xs, .int .i64 xl, .int .i64 xo, .int .i64 xh] #[.int .i64 ts, .int .i64 tl, .int .i64 tt, .int .i64 th] v ((addR (addR (addR out (a, b, ⟨ts, tl, tt, th⟩)) (xa, min xc (a - 1), ⟨xs, xl, xo, xh⟩)) (max xa a, min xc b, ⟨qs, ql, qo, qh⟩))) (4 * k + 1 + 1 + 1) wc) := ⟨_, rfl⟩
        have HR2 := Lib.hid hR2
        clear hR2
        go_cut [11] (fun v wc => R2 v wc)
        case first =>
          rcases Int.lt_or_le xa a with q1 | q1 <;> rcases Int.lt_or_le b xc with q2 | q2
          · have HM1 := Lib.hid (show max xa a = a by omega)
            have HM2 := Lib.hid (show min xc b = b by omega)
            refine wp_region_held_drew (S := (fun w' => w'.cell? ⟨lb, 0, none⟩ = some (.int .i64 xa) ∧ w'.cell? ⟨lb, 1, none⟩ = some (.int .i64 xc) ∧ w'.cell? ⟨lb, 2, none⟩ = some (.int .i64 xs) ∧ w'.cell? ⟨lb, 3, none⟩ = some (.int .i64 xl) ∧ w'.cell? ⟨lb, 4, none⟩ = some (.int .i64 xo) ∧ w'.cell? ⟨lb, 5, none⟩ = some (.int .i64 xh) ∧ w'.cell? ⟨b6, 0, none⟩ = some (.int .i64 ts) ∧ w'.cell? ⟨b6, 1, none⟩ = some (.int .i64 tl) ∧ w'.cell? ⟨b6, 2, none⟩ = some (.int .i64 tt) ∧ w'.cell? ⟨b6, 3, none⟩ = some (.int .i64 th))) (by kernel_rfl) ⟨d0, d1, d2, d3, d4, d5, e0, e1, e2, e3⟩ (fun hHeld => ?_)
            refine wpAnyH_take (i := 0) (oi := ⟨some 63, _, _, _, _, _⟩) (v := ?v1) rfl (by kernel_rfl) (by kernel_rfl) (by kernel_rfl) (fun _ _ _ h => h) (Or.inl ⟨by rfl, ?hy1⟩) (by assumption) ?rest1
            case hy1 => (intro w hSw; (try dsimp only at hSw); go_simp; try with_reducible rfl)
            try simp only [Act.put, List.setIfInBounds_toArray, List.set_cons_zero, List.set_cons_succ]
            refine wpAnyH_take (i := 1) (oi := ⟨some 64, _, _, _, _, _⟩) (v := ?v2) rfl (by kernel_rfl) (by kernel_rfl) (by kernel_rfl) (fun _ _ _ h => h) (Or.inl ⟨by rfl, ?hy2⟩) (by assumption) ?rest2
            case hy2 => (intro w hSw; (try dsimp only at hSw); go_simp; try with_reducible rfl)
            try simp only [Act.put, List.setIfInBounds_toArray, List.set_cons_zero, List.set_cons_succ]
            refine wpAnyH_take (i := 2) (oi := ⟨some 65, _, _, _, _, _⟩) (v := ?v3) rfl (by kernel_rfl) (by kernel_rfl) (by kernel_rfl) (fun _ _ _ h => h) (Or.inl ⟨by rfl, ?hy3⟩) (by assumption) ?rest3
            case hy3 => (intro w hSw; (try dsimp only at hSw); go_simp; try with_reducible rfl)
            try simp only [Act.put, List.setIfInBounds_toArray, List.set_cons_zero, List.set_cons_succ]
            refine wpAnyH_take (i := 3) (oi := ⟨some 66, _, _, _, _, _⟩) (v := ?v4) rfl (by kernel_rfl) (by kernel_rfl) (by kernel_rfl) (fun _ _ _ h => h) (Or.inl ⟨by rfl, ?hy4⟩) (by assumption) ?rest4
            case hy4 => (intro w hSw; (try dsimp only at hSw); go_simp; try with_reducible rfl)
            try simp only [Act.put, List.setIfInBounds_toArray, List.set_cons_zero, List.set_cons_succ]
            refine wpAnyH_take (i := 4) (oi := ⟨some 67, _, _, _, _, _⟩) (v := ?v5) rfl (by kernel_rfl) (by kernel_rfl) (by kernel_rfl) (fun _ _ _ h => h) (Or.inl ⟨by rfl, ?hy5⟩) (by assumption) ?rest5
            case hy5 => (intro w hSw; (try dsimp only at hSw); go_simp; try with_reducible rfl)
            try simp only [Act.put, List.setIfInBounds_toArray, List.set_cons_zero, List.set_cons_succ]
            refine wpAnyH_take (i := 5) (oi := ⟨some 68, _, _, _, _, _⟩) (v := ?v6) rfl (by kernel_rfl) (by kernel_rfl) (by kernel_rfl) (fun _ _ _ h => h) (Or.inl ⟨by rfl, ?hy6⟩) (by assumption) ?rest6
            case hy6 => (intro w hSw; (try dsimp only at hSw); go_simp; try with_reducible rfl)
            try simp only [Act.put, List.setIfInBounds_toArray, List.set_cons_zero, List.set_cons_succ]
            refine wpAnyH_take (i := 6) (oi := ⟨some 69, _, _, _, _, _⟩) (v := ?v7) rfl (by kernel_rfl) (by kernel_rfl) (by kernel_rfl) (fun _ _ _ h => h) (Or.inl ⟨by rfl, ?hy7⟩) (by assumption) ?rest7
            case hy7 => (intro w hSw; (try dsimp only at hSw); go_simp; try with_reducible rfl)
            try simp only [Act.put, List.setIfInBounds_toArray, List.set_cons_zero, List.set_cons_succ]
            refine wpAnyH_take (i := 7) (oi := ⟨some 70, _, _, _, _, _⟩) (v := ?v8) rfl (by kernel_rfl) (by kernel_rfl) (by kernel_rfl) (fun _ _ _ h => h) (Or.inl ⟨by rfl, ?hy8⟩) (by assumption) ?rest8
            case hy8 => (intro w hSw; (try dsimp only at hSw); go_simp; try with_reducible rfl)
            try simp only [Act.put, List.setIfInBounds_toArray, List.set_cons_zero, List.set_cons_succ]
            refine wpAnyH_take (i := 8) (oi := ⟨some 71, _, _, _, _, _⟩) (v := ?v9) rfl (by kernel_rfl) (by kernel_rfl) (by kernel_rfl) (fun _ _ _ h => h) (Or.inl ⟨by rfl, ?hy9⟩) (by assumption) ?rest9
            case hy9 => (intro w hSw; (try dsimp only at hSw); go_simp; try with_reducible rfl)
            try simp only [Act.put, List.setIfInBounds_toArray, List.set_cons_zero, List.set_cons_succ]
            refine wpAnyH_take (i := 9) (oi := ⟨some 72, _, _, _, _, _⟩) (v := ?v10) rfl (by kernel_rfl) (by kernel_rfl) (by kernel_rfl) (fun _ _ _ h => h) (Or.inl ⟨by rfl, ?hy10⟩) (by assumption) ?rest10
            case hy10 => (intro w hSw; (try dsimp only at hSw); go_simp; try with_reducible rfl)
            try simp only [Act.put, List.setIfInBounds_toArray, List.set_cons_zero, List.set_cons_succ]
            refine wpAnyH_take (i := 10) (oi := ⟨some 73, _, _, _, _, _⟩) (v := ?v11) rfl (by kernel_rfl) (by kernel_rfl) (by kernel_rfl) (fun _ _ _ h => h) (Or.inl ⟨by rfl, ?hy11⟩) (by assumption) ?rest11
            case hy11 => (intro w hSw; (try dsimp only at hSw); go_simp; try with_reducible rfl)
            try simp only [Act.put, List.setIfInBounds_toArray, List.set_cons_zero, List.set_cons_succ]
            refine wpAnyH_take (i := 11) (oi := ⟨some 74, _, _, _, _, _⟩) (v := ?v12) rfl (by kernel_rfl) (by kernel_rfl) (by kernel_rfl) (fun _ _ _ h => h) (Or.inl ⟨by rfl, ?hy12⟩) (by assumption) ?rest12
            case hy12 => (intro w hSw; (try dsimp only at hSw); go_simp; try with_reducible rfl)
            try simp only [Act.put, List.setIfInBounds_toArray, List.set_cons_zero, List.set_cons_succ]
            refine wpAnyH_take (i := 12) (oi := ⟨some 75, _, _, _, _, _⟩) (v := ?v13) rfl (by kernel_rfl) (by kernel_rfl) (by kernel_rfl) (fun _ _ _ h => h) (Or.inl ⟨by rfl, ?hy13⟩) (by assumption) ?rest13
            case hy13 => (intro w hSw; (try dsimp only at hSw); go_simp; try with_reducible rfl)
            try simp only [Act.put, List.setIfInBounds_toArray, List.set_cons_zero, List.set_cons_succ]
            refine wpAnyH_ready (rs := [13]) (by kernel_rfl) (by simp) ?_
            refine AllReadyH.cons (o := ⟨some 76, _, _, _, _, _⟩) rfl (fun K hK => ?_) AllReadyH.nil
            go_simp
            refine (HQ.out _).mono ?_
            rintro e wm ⟨rfl, hbm⟩
            have Y2 : Hid (Adds w1 wm) := Lib.hid (((Adds.refl w1).drew).trans hbm)
            refine hK.out _ _ ⟨keep_cell Y2.out d0, keep_cell Y2.out d1, keep_cell Y2.out d2, keep_cell Y2.out d3, keep_cell Y2.out d4, keep_cell Y2.out d5, keep_cell Y2.out e0, keep_cell Y2.out e1, keep_cell Y2.out e2, keep_cell Y2.out e3⟩ (fun hHeld => ?_)
            clear hK K
            try simp only [Act.put, List.setIfInBounds_toArray, List.set_cons_zero, List.set_cons_succ]
            refine wpAnyH_take (i := 14) (oi := ⟨some 77, _, _, _, _, _⟩) (v := ?v14) rfl (by kernel_rfl) (by kernel_rfl) (by kernel_rfl) (fun _ _ _ h => h) (Or.inl ⟨by rfl, ?hy14⟩) (by assumption) ?rest14
            case hy14 => (intro w hSw; (try dsimp only at hSw); go_simp; try with_reducible rfl)
            try simp only [Act.put, List.setIfInBounds_toArray, List.set_cons_zero, List.set_cons_succ]
            refine wpAnyH_ready (rs := [15]) (by kernel_rfl) (by simp) ?_
            refine AllReadyH.cons (o := ⟨some 78, _, _, _, _, _⟩) rfl (fun K hK => ?_) AllReadyH.nil
            go_simp
            refine (CS.call (HC1.out.later Y2.out) (a, b, ⟨qs, ql, qo, qh⟩) (by omega) (by simp only; omega) (by simp only; omega)).mono ?_
            rintro e w2 ⟨v2, rfl, hcs⟩
            have HC2 := Lib.hid hcs
            obtain ⟨f0, f1, f2, f3, f4, f5⟩ := box6 hcs.r
            obtain ⟨k0, k1, k2, k3⟩ := box4 hcs.t
            clear hcs
            refine hK.out _ _ ⟨f0, f1, f2, f3, f4, f5, k0, k1, k2, k3⟩ (fun hHeld => ?_)
            clear hK K
            try simp only [Act.put, List.setIfInBounds_toArray, List.set_cons_zero, List.set_cons_succ]
            refine wpAnyH_take (i := 16) (oi := ⟨some 11, _, _, _, _, _⟩) (v := ?v15) rfl (by kernel_rfl) (by kernel_rfl) (by kernel_rfl) (fun _ _ _ h => h) (Or.inl ⟨by rfl, ?hy15⟩) (by assumption) ?rest15
            case hy15 => (intro w hSw; (try dsimp only at hSw); go_simp; try with_reducible rfl)
            try simp only [Act.put, List.setIfInBounds_toArray, List.set_cons_zero, List.set_cons_succ]
            refine wpAnyH_done (by kernel_rfl) ?_ _
            have hR : R2 v2 w2 := by rw [HR2.out]; show Hid (CS W3 lb b6 #[.int .i64 xa, .int .i64 xc, .int .i64 xs, .int .i64 xl, .int .i64 xo, .int .i64 xh] #[.int .i64 ts, .int .i64 tl, .int .i64 tt, .int .i64 th] v2 ((addR (addR (addR out (a, b, ⟨ts, tl, tt, th⟩)) (xa, min xc (a - 1), ⟨xs, xl, xo, xh⟩)) (max xa a, min xc b, ⟨qs, ql, qo, qh⟩))) (4 * k + 1 + 1 + 1) w2); rw [HM1.out, HM2.out]; exact HC2
            go_wp2_with fail
            go_meet
            exact hR
          · have HM1 := Lib.hid (show max xa a = a by omega)
            have HM2 := Lib.hid (show min xc b = xc by omega)
            have q4 : (b < xc) = False := eq_false (by omega)
            refine wp_region_held_drew (S := (fun w' => w'.cell? ⟨lb, 0, none⟩ = some (.int .i64 xa) ∧ w'.cell? ⟨lb, 1, none⟩ = some (.int .i64 xc) ∧ w'.cell? ⟨lb, 2, none⟩ = some (.int .i64 xs) ∧ w'.cell? ⟨lb, 3, none⟩ = some (.int .i64 xl) ∧ w'.cell? ⟨lb, 4, none⟩ = some (.int .i64 xo) ∧ w'.cell? ⟨lb, 5, none⟩ = some (.int .i64 xh) ∧ w'.cell? ⟨b6, 0, none⟩ = some (.int .i64 ts) ∧ w'.cell? ⟨b6, 1, none⟩ = some (.int .i64 tl) ∧ w'.cell? ⟨b6, 2, none⟩ = some (.int .i64 tt) ∧ w'.cell? ⟨b6, 3, none⟩ = some (.int .i64 th))) (by kernel_rfl) ⟨d0, d1, d2, d3, d4, d5, e0, e1, e2, e3⟩ (fun hHeld => ?_)
            refine wpAnyH_take (i := 0) (oi := ⟨some 63, _, _, _, _, _⟩) (v := ?v16) rfl (by kernel_rfl) (by kernel_rfl) (by kernel_rfl) (fun _ _ _ h => h) (Or.inl ⟨by rfl, ?hy16⟩) (by assumption) ?rest16
            case hy16 => (intro w hSw; (try dsimp only at hSw); go_simp; try with_reducible rfl)
            try simp only [Act.put, List.setIfInBounds_toArray, List.set_cons_zero, List.set_cons_succ]
            refine wpAnyH_take (i := 1) (oi := ⟨some 64, _, _, _, _, _⟩) (v := ?v17) rfl (by kernel_rfl) (by kernel_rfl) (by kernel_rfl) (fun _ _ _ h => h) (Or.inl ⟨by rfl, ?hy17⟩) (by assumption) ?rest17
            case hy17 => (intro w hSw; (try dsimp only at hSw); go_simp; try with_reducible rfl)
            try simp only [Act.put, List.setIfInBounds_toArray, List.set_cons_zero, List.set_cons_succ]
            refine wpAnyH_take (i := 2) (oi := ⟨some 65, _, _, _, _, _⟩) (v := ?v18) rfl (by kernel_rfl) (by kernel_rfl) (by kernel_rfl) (fun _ _ _ h => h) (Or.inl ⟨by rfl, ?hy18⟩) (by assumption) ?rest18
            case hy18 => (intro w hSw; (try dsimp only at hSw); go_simp; try with_reducible rfl)
            try simp only [Act.put, List.setIfInBounds_toArray, List.set_cons_zero, List.set_cons_succ]
            refine wpAnyH_take (i := 3) (oi := ⟨some 66, _, _, _, _, _⟩) (v := ?v19) rfl (by kernel_rfl) (by kernel_rfl) (by kernel_rfl) (fun _ _ _ h => h) (Or.inl ⟨by rfl, ?hy19⟩) (by assumption) ?rest19
            case hy19 => (intro w hSw; (try dsimp only at hSw); go_simp; try with_reducible rfl)
            try simp only [Act.put, List.setIfInBounds_toArray, List.set_cons_zero, List.set_cons_succ]
            refine wpAnyH_take (i := 4) (oi := ⟨some 67, _, _, _, _, _⟩) (v := ?v20) rfl (by kernel_rfl) (by kernel_rfl) (by kernel_rfl) (fun _ _ _ h => h) (Or.inl ⟨by rfl, ?hy20⟩) (by assumption) ?rest20
            case hy20 => (intro w hSw; (try dsimp only at hSw); go_simp; try with_reducible rfl)
            try simp only [Act.put, List.setIfInBounds_toArray, List.set_cons_zero, List.set_cons_succ]
            refine wpAnyH_take (i := 5) (oi := ⟨some 68, _, _, _, _, _⟩) (v := ?v21) rfl (by kernel_rfl) (by kernel_rfl) (by kernel_rfl) (fun _ _ _ h => h) (Or.inl ⟨by rfl, ?hy21⟩) (by assumption) ?rest21
            case hy21 => (intro w hSw; (try dsimp only at hSw); go_simp; try with_reducible rfl)
            try simp only [Act.put, List.setIfInBounds_toArray, List.set_cons_zero, List.set_cons_succ]
            refine wpAnyH_take (i := 6) (oi := ⟨some 69, _, _, _, _, _⟩) (v := ?v22) rfl (by kernel_rfl) (by kernel_rfl) (by kernel_rfl) (fun _ _ _ h => h) (Or.inl ⟨by rfl, ?hy22⟩) (by assumption) ?rest22
            case hy22 => (intro w hSw; (try dsimp only at hSw); go_simp; try with_reducible rfl)
            try simp only [Act.put, List.setIfInBounds_toArray, List.set_cons_zero, List.set_cons_succ]
            refine wpAnyH_take (i := 7) (oi := ⟨some 70, _, _, _, _, _⟩) (v := ?v23) rfl (by kernel_rfl) (by kernel_rfl) (by kernel_rfl) (fun _ _ _ h => h) (Or.inl ⟨by rfl, ?hy23⟩) (by assumption) ?rest23
            case hy23 => (intro w hSw; (try dsimp only at hSw); go_simp; try with_reducible rfl)
            try simp only [Act.put, List.setIfInBounds_toArray, List.set_cons_zero, List.set_cons_succ]
            refine wpAnyH_take (i := 8) (oi := ⟨some 71, _, _, _, _, _⟩) (v := ?v24) rfl (by kernel_rfl) (by kernel_rfl) (by kernel_rfl) (fun _ _ _ h => h) (Or.inl ⟨by rfl, ?hy24⟩) (by assumption) ?rest24
            case hy24 => (intro w hSw; (try dsimp only at hSw); go_simp; try with_reducible rfl)
            try simp only [Act.put, List.setIfInBounds_toArray, List.set_cons_zero, List.set_cons_succ]
            refine wpAnyH_take (i := 9) (oi := ⟨some 72, _, _, _, _, _⟩) (v := ?v25) rfl (by kernel_rfl) (by kernel_rfl) (by kernel_rfl) (fun _ _ _ h => h) (Or.inl ⟨by rfl, ?hy25⟩) (by assumption) ?rest25
            case hy25 => (intro w hSw; (try dsimp only at hSw); go_simp; try with_reducible rfl)
            try simp only [Act.put, List.setIfInBounds_toArray, List.set_cons_zero, List.set_cons_succ]
            refine wpAnyH_take (i := 10) (oi := ⟨some 73, _, _, _, _, _⟩) (v := ?v26) rfl (by kernel_rfl) (by kernel_rfl) (by kernel_rfl) (fun _ _ _ h => h) (Or.inl ⟨by rfl, ?hy26⟩) (by assumption) ?rest26
            case hy26 => (intro w hSw; (try dsimp only at hSw); go_simp; try with_reducible rfl)
            try simp only [Act.put, List.setIfInBounds_toArray, List.set_cons_zero, List.set_cons_succ]
            refine wpAnyH_take (i := 11) (oi := ⟨some 74, _, _, _, _, _⟩) (v := ?v27) rfl (by kernel_rfl) (by kernel_rfl) (by kernel_rfl) (fun _ _ _ h => h) (Or.inl ⟨by rfl, ?hy27⟩) (by assumption) ?rest27
            case hy27 => (intro w hSw; (try dsimp only at hSw); go_simp; try with_reducible rfl)
            try simp only [Act.put, List.setIfInBounds_toArray, List.set_cons_zero, List.set_cons_succ]
            refine wpAnyH_take (i := 12) (oi := ⟨some 75, _, _, _, _, _⟩) (v := ?v28) rfl (by kernel_rfl) (by kernel_rfl) (by kernel_rfl) (fun _ _ _ h => h) (Or.inl ⟨by rfl, ?hy28⟩) (by assumption) ?rest28
            case hy28 => (intro w hSw; (try dsimp only at hSw); go_simp; try with_reducible rfl)
            try simp only [Act.put, List.setIfInBounds_toArray, List.set_cons_zero, List.set_cons_succ]
            refine wpAnyH_ready (rs := [13]) (by kernel_rfl) (by simp) ?_
            refine AllReadyH.cons (o := ⟨some 76, _, _, _, _, _⟩) rfl (fun K hK => ?_) AllReadyH.nil
            go_simp
            refine (HQ.out _).mono ?_
            rintro e wm ⟨rfl, hbm⟩
            have Y2 : Hid (Adds w1 wm) := Lib.hid (((Adds.refl w1).drew).trans hbm)
            refine hK.out _ _ ⟨keep_cell Y2.out d0, keep_cell Y2.out d1, keep_cell Y2.out d2, keep_cell Y2.out d3, keep_cell Y2.out d4, keep_cell Y2.out d5, keep_cell Y2.out e0, keep_cell Y2.out e1, keep_cell Y2.out e2, keep_cell Y2.out e3⟩ (fun hHeld => ?_)
            clear hK K
            try simp only [Act.put, List.setIfInBounds_toArray, List.set_cons_zero, List.set_cons_succ]
            refine wpAnyH_take (i := 14) (oi := ⟨some 77, _, _, _, _, _⟩) (v := ?v29) rfl (by kernel_rfl) (by kernel_rfl) (by kernel_rfl) (fun _ _ _ h => h) (Or.inl ⟨by rfl, ?hy29⟩) (by assumption) ?rest29
            case hy29 => (intro w hSw; (try dsimp only at hSw); go_simp; try with_reducible rfl)
            try simp only [Act.put, List.setIfInBounds_toArray, List.set_cons_zero, List.set_cons_succ]
            refine wpAnyH_ready (rs := [15]) (by kernel_rfl) (by simp) ?_
            refine AllReadyH.cons (o := ⟨some 78, _, _, _, _, _⟩) rfl (fun K hK => ?_) AllReadyH.nil
            go_simp
            refine (CS.call (HC1.out.later Y2.out) (a, xc, ⟨qs, ql, qo, qh⟩) (by omega) (by simp only; omega) (by simp only; omega)).mono ?_
            rintro e w2 ⟨v2, rfl, hcs⟩
            have HC2 := Lib.hid hcs
            obtain ⟨f0, f1, f2, f3, f4, f5⟩ := box6 hcs.r
            obtain ⟨k0, k1, k2, k3⟩ := box4 hcs.t
            clear hcs
            refine hK.out _ _ ⟨f0, f1, f2, f3, f4, f5, k0, k1, k2, k3⟩ (fun hHeld => ?_)
            clear hK K
            try simp only [Act.put, List.setIfInBounds_toArray, List.set_cons_zero, List.set_cons_succ]
            refine wpAnyH_take (i := 16) (oi := ⟨some 11, _, _, _, _, _⟩) (v := ?v30) rfl (by kernel_rfl) (by kernel_rfl) (by kernel_rfl) (fun _ _ _ h => h) (Or.inl ⟨by rfl, ?hy30⟩) (by assumption) ?rest30
            case hy30 => (intro w hSw; (try dsimp only at hSw); go_simp; try with_reducible rfl)
            try simp only [Act.put, List.setIfInBounds_toArray, List.set_cons_zero, List.set_cons_succ]
            refine wpAnyH_done (by kernel_rfl) ?_ _
            have hR : R2 v2 w2 := by rw [HR2.out]; show Hid (CS W3 lb b6 #[.int .i64 xa, .int .i64 xc, .int .i64 xs, .int .i64 xl, .int .i64 xo, .int .i64 xh] #[.int .i64 ts, .int .i64 tl, .int .i64 tt, .int .i64 th] v2 ((addR (addR (addR out (a, b, ⟨ts, tl, tt, th⟩)) (xa, min xc (a - 1), ⟨xs, xl, xo, xh⟩)) (max xa a, min xc b, ⟨qs, ql, qo, qh⟩))) (4 * k + 1 + 1 + 1) w2); rw [HM1.out, HM2.out]; exact HC2
            go_wp2_with fail
            go_meet
            exact hR
          · have HM1 := Lib.hid (show max xa a = xa by omega)
            have HM2 := Lib.hid (show min xc b = b by omega)
            have q3 : (xa < a) = False := eq_false (by omega)
            have q5 : (a > xa) = False := eq_false (by omega)
            refine wp_region_held_drew (S := (fun w' => w'.cell? ⟨lb, 0, none⟩ = some (.int .i64 xa) ∧ w'.cell? ⟨lb, 1, none⟩ = some (.int .i64 xc) ∧ w'.cell? ⟨lb, 2, none⟩ = some (.int .i64 xs) ∧ w'.cell? ⟨lb, 3, none⟩ = some (.int .i64 xl) ∧ w'.cell? ⟨lb, 4, none⟩ = some (.int .i64 xo) ∧ w'.cell? ⟨lb, 5, none⟩ = some (.int .i64 xh) ∧ w'.cell? ⟨b6, 0, none⟩ = some (.int .i64 ts) ∧ w'.cell? ⟨b6, 1, none⟩ = some (.int .i64 tl) ∧ w'.cell? ⟨b6, 2, none⟩ = some (.int .i64 tt) ∧ w'.cell? ⟨b6, 3, none⟩ = some (.int .i64 th))) (by kernel_rfl) ⟨d0, d1, d2, d3, d4, d5, e0, e1, e2, e3⟩ (fun hHeld => ?_)
            refine wpAnyH_take (i := 0) (oi := ⟨some 63, _, _, _, _, _⟩) (v := ?v31) rfl (by kernel_rfl) (by kernel_rfl) (by kernel_rfl) (fun _ _ _ h => h) (Or.inl ⟨by rfl, ?hy31⟩) (by assumption) ?rest31
            case hy31 => (intro w hSw; (try dsimp only at hSw); go_simp; try with_reducible rfl)
            try simp only [Act.put, List.setIfInBounds_toArray, List.set_cons_zero, List.set_cons_succ]
            refine wpAnyH_take (i := 1) (oi := ⟨some 64, _, _, _, _, _⟩) (v := ?v32) rfl (by kernel_rfl) (by kernel_rfl) (by kernel_rfl) (fun _ _ _ h => h) (Or.inl ⟨by rfl, ?hy32⟩) (by assumption) ?rest32
            case hy32 => (intro w hSw; (try dsimp only at hSw); go_simp; try with_reducible rfl)
            try simp only [Act.put, List.setIfInBounds_toArray, List.set_cons_zero, List.set_cons_succ]
            refine wpAnyH_take (i := 2) (oi := ⟨some 65, _, _, _, _, _⟩) (v := ?v33) rfl (by kernel_rfl) (by kernel_rfl) (by kernel_rfl) (fun _ _ _ h => h) (Or.inl ⟨by rfl, ?hy33⟩) (by assumption) ?rest33
            case hy33 => (intro w hSw; (try dsimp only at hSw); go_simp; try with_reducible rfl)
            try simp only [Act.put, List.setIfInBounds_toArray, List.set_cons_zero, List.set_cons_succ]
            refine wpAnyH_take (i := 3) (oi := ⟨some 66, _, _, _, _, _⟩) (v := ?v34) rfl (by kernel_rfl) (by kernel_rfl) (by kernel_rfl) (fun _ _ _ h => h) (Or.inl ⟨by rfl, ?hy34⟩) (by assumption) ?rest34
            case hy34 => (intro w hSw; (try dsimp only at hSw); go_simp; try with_reducible rfl)
            try simp only [Act.put, List.setIfInBounds_toArray, List.set_cons_zero, List.set_cons_succ]
            refine wpAnyH_take (i := 4) (oi := ⟨some 67, _, _, _, _, _⟩) (v := ?v35) rfl (by kernel_rfl) (by kernel_rfl) (by kernel_rfl) (fun _ _ _ h => h) (Or.inl ⟨by rfl, ?hy35⟩) (by assumption) ?rest35
            case hy35 => (intro w hSw; (try dsimp only at hSw); go_simp; try with_reducible rfl)
            try simp only [Act.put, List.setIfInBounds_toArray, List.set_cons_zero, List.set_cons_succ]
            refine wpAnyH_take (i := 5) (oi := ⟨some 68, _, _, _, _, _⟩) (v := ?v36) rfl (by kernel_rfl) (by kernel_rfl) (by kernel_rfl) (fun _ _ _ h => h) (Or.inl ⟨by rfl, ?hy36⟩) (by assumption) ?rest36
            case hy36 => (intro w hSw; (try dsimp only at hSw); go_simp; try with_reducible rfl)
            try simp only [Act.put, List.setIfInBounds_toArray, List.set_cons_zero, List.set_cons_succ]
            refine wpAnyH_take (i := 6) (oi := ⟨some 69, _, _, _, _, _⟩) (v := ?v37) rfl (by kernel_rfl) (by kernel_rfl) (by kernel_rfl) (fun _ _ _ h => h) (Or.inl ⟨by rfl, ?hy37⟩) (by assumption) ?rest37
            case hy37 => (intro w hSw; (try dsimp only at hSw); go_simp; try with_reducible rfl)
            try simp only [Act.put, List.setIfInBounds_toArray, List.set_cons_zero, List.set_cons_succ]
            refine wpAnyH_take (i := 7) (oi := ⟨some 70, _, _, _, _, _⟩) (v := ?v38) rfl (by kernel_rfl) (by kernel_rfl) (by kernel_rfl) (fun _ _ _ h => h) (Or.inl ⟨by rfl, ?hy38⟩) (by assumption) ?rest38
            case hy38 => (intro w hSw; (try dsimp only at hSw); go_simp; try with_reducible rfl)
            try simp only [Act.put, List.setIfInBounds_toArray, List.set_cons_zero, List.set_cons_succ]
            refine wpAnyH_take (i := 8) (oi := ⟨some 71, _, _, _, _, _⟩) (v := ?v39) rfl (by kernel_rfl) (by kernel_rfl) (by kernel_rfl) (fun _ _ _ h => h) (Or.inl ⟨by rfl, ?hy39⟩) (by assumption) ?rest39
            case hy39 => (intro w hSw; (try dsimp only at hSw); go_simp; try with_reducible rfl)
            try simp only [Act.put, List.setIfInBounds_toArray, List.set_cons_zero, List.set_cons_succ]
            refine wpAnyH_take (i := 9) (oi := ⟨some 72, _, _, _, _, _⟩) (v := ?v40) rfl (by kernel_rfl) (by kernel_rfl) (by kernel_rfl) (fun _ _ _ h => h) (Or.inl ⟨by rfl, ?hy40⟩) (by assumption) ?rest40
            case hy40 => (intro w hSw; (try dsimp only at hSw); go_simp; try with_reducible rfl)
            try simp only [Act.put, List.setIfInBounds_toArray, List.set_cons_zero, List.set_cons_succ]
            refine wpAnyH_take (i := 10) (oi := ⟨some 73, _, _, _, _, _⟩) (v := ?v41) rfl (by kernel_rfl) (by kernel_rfl) (by kernel_rfl) (fun _ _ _ h => h) (Or.inl ⟨by rfl, ?hy41⟩) (by assumption) ?rest41
            case hy41 => (intro w hSw; (try dsimp only at hSw); go_simp; try with_reducible rfl)
            try simp only [Act.put, List.setIfInBounds_toArray, List.set_cons_zero, List.set_cons_succ]
            refine wpAnyH_take (i := 11) (oi := ⟨some 74, _, _, _, _, _⟩) (v := ?v42) rfl (by kernel_rfl) (by kernel_rfl) (by kernel_rfl) (fun _ _ _ h => h) (Or.inl ⟨by rfl, ?hy42⟩) (by assumption) ?rest42
            case hy42 => (intro w hSw; (try dsimp only at hSw); go_simp; try with_reducible rfl)
            try simp only [Act.put, List.setIfInBounds_toArray, List.set_cons_zero, List.set_cons_succ]
            refine wpAnyH_take (i := 12) (oi := ⟨some 75, _, _, _, _, _⟩) (v := ?v43) rfl (by kernel_rfl) (by kernel_rfl) (by kernel_rfl) (fun _ _ _ h => h) (Or.inl ⟨by rfl, ?hy43⟩) (by assumption) ?rest43
            case hy43 => (intro w hSw; (try dsimp only at hSw); go_simp; try with_reducible rfl)
            try simp only [Act.put, List.setIfInBounds_toArray, List.set_cons_zero, List.set_cons_succ]
            refine wpAnyH_ready (rs := [13]) (by kernel_rfl) (by simp) ?_
            refine AllReadyH.cons (o := ⟨some 76, _, _, _, _, _⟩) rfl (fun K hK => ?_) AllReadyH.nil
            go_simp
            refine (HQ.out _).mono ?_
            rintro e wm ⟨rfl, hbm⟩
            have Y2 : Hid (Adds w1 wm) := Lib.hid (((Adds.refl w1).drew).trans hbm)
            refine hK.out _ _ ⟨keep_cell Y2.out d0, keep_cell Y2.out d1, keep_cell Y2.out d2, keep_cell Y2.out d3, keep_cell Y2.out d4, keep_cell Y2.out d5, keep_cell Y2.out e0, keep_cell Y2.out e1, keep_cell Y2.out e2, keep_cell Y2.out e3⟩ (fun hHeld => ?_)
            clear hK K
            try simp only [Act.put, List.setIfInBounds_toArray, List.set_cons_zero, List.set_cons_succ]
            refine wpAnyH_take (i := 14) (oi := ⟨some 77, _, _, _, _, _⟩) (v := ?v44) rfl (by kernel_rfl) (by kernel_rfl) (by kernel_rfl) (fun _ _ _ h => h) (Or.inl ⟨by rfl, ?hy44⟩) (by assumption) ?rest44
            case hy44 => (intro w hSw; (try dsimp only at hSw); go_simp; try with_reducible rfl)
            try simp only [Act.put, List.setIfInBounds_toArray, List.set_cons_zero, List.set_cons_succ]
            refine wpAnyH_ready (rs := [15]) (by kernel_rfl) (by simp) ?_
            refine AllReadyH.cons (o := ⟨some 78, _, _, _, _, _⟩) rfl (fun K hK => ?_) AllReadyH.nil
            go_simp
            refine (CS.call (HC1.out.later Y2.out) (xa, b, ⟨qs, ql, qo, qh⟩) (by omega) (by simp only; omega) (by simp only; omega)).mono ?_
            rintro e w2 ⟨v2, rfl, hcs⟩
            have HC2 := Lib.hid hcs
            obtain ⟨f0, f1, f2, f3, f4, f5⟩ := box6 hcs.r
            obtain ⟨k0, k1, k2, k3⟩ := box4 hcs.t
            clear hcs
            refine hK.out _ _ ⟨f0, f1, f2, f3, f4, f5, k0, k1, k2, k3⟩ (fun hHeld => ?_)
            clear hK K
            try simp only [Act.put, List.setIfInBounds_toArray, List.set_cons_zero, List.set_cons_succ]
            refine wpAnyH_take (i := 16) (oi := ⟨some 11, _, _, _, _, _⟩) (v := ?v45) rfl (by kernel_rfl) (by kernel_rfl) (by kernel_rfl) (fun _ _ _ h => h) (Or.inl ⟨by rfl, ?hy45⟩) (by assumption) ?rest45
            case hy45 => (intro w hSw; (try dsimp only at hSw); go_simp; try with_reducible rfl)
            try simp only [Act.put, List.setIfInBounds_toArray, List.set_cons_zero, List.set_cons_succ]
            refine wpAnyH_done (by kernel_rfl) ?_ _
            have hR : R2 v2 w2 := by rw [HR2.out]; show Hid (CS W3 lb b6 #[.int .i64 xa, .int .i64 xc, .int .i64 xs, .int .i64 xl, .int .i64 xo, .int .i64 xh] #[.int .i64 ts, .int .i64 tl, .int .i64 tt, .int .i64 th] v2 ((addR (addR (addR out (a, b, ⟨ts, tl, tt, th⟩)) (xa, min xc (a - 1), ⟨xs, xl, xo, xh⟩)) (max xa a, min xc b, ⟨qs, ql, qo, qh⟩))) (4 * k + 1 + 1 + 1) w2); rw [HM1.out, HM2.out]; exact HC2
            go_wp2_with fail
            go_meet
            exact hR
          · have HM1 := Lib.hid (show max xa a = xa by omega)
            have HM2 := Lib.hid (show min xc b = xc by omega)
            have q3 : (xa < a) = False := eq_false (by omega)
            have q5 : (a > xa) = False := eq_false (by omega)
            have q4 : (b < xc) = False := eq_false (by omega)
            refine wp_region_held_drew (S := (fun w' => w'.cell? ⟨lb, 0, none⟩ = some (.int .i64 xa) ∧ w'.cell? ⟨lb, 1, none⟩ = some (.int .i64 xc) ∧ w'.cell? ⟨lb, 2, none⟩ = some (.int .i64 xs) ∧ w'.cell? ⟨lb, 3, none⟩ = some (.int .i64 xl) ∧ w'.cell? ⟨lb, 4, none⟩ = some (.int .i64 xo) ∧ w'.cell? ⟨lb, 5, none⟩ = some (.int .i64 xh) ∧ w'.cell? ⟨b6, 0, none⟩ = some (.int .i64 ts) ∧ w'.cell? ⟨b6, 1, none⟩ = some (.int .i64 tl) ∧ w'.cell? ⟨b6, 2, none⟩ = some (.int .i64 tt) ∧ w'.cell? ⟨b6, 3, none⟩ = some (.int .i64 th))) (by kernel_rfl) ⟨d0, d1, d2, d3, d4, d5, e0, e1, e2, e3⟩ (fun hHeld => ?_)
            refine wpAnyH_take (i := 0) (oi := ⟨some 63, _, _, _, _, _⟩) (v := ?v46) rfl (by kernel_rfl) (by kernel_rfl) (by kernel_rfl) (fun _ _ _ h => h) (Or.inl ⟨by rfl, ?hy46⟩) (by assumption) ?rest46
            case hy46 => (intro w hSw; (try dsimp only at hSw); go_simp; try with_reducible rfl)
            try simp only [Act.put, List.setIfInBounds_toArray, List.set_cons_zero, List.set_cons_succ]
            refine wpAnyH_take (i := 1) (oi := ⟨some 64, _, _, _, _, _⟩) (v := ?v47) rfl (by kernel_rfl) (by kernel_rfl) (by kernel_rfl) (fun _ _ _ h => h) (Or.inl ⟨by rfl, ?hy47⟩) (by assumption) ?rest47
            case hy47 => (intro w hSw; (try dsimp only at hSw); go_simp; try with_reducible rfl)
            try simp only [Act.put, List.setIfInBounds_toArray, List.set_cons_zero, List.set_cons_succ]
            refine wpAnyH_take (i := 2) (oi := ⟨some 65, _, _, _, _, _⟩) (v := ?v48) rfl (by kernel_rfl) (by kernel_rfl) (by kernel_rfl) (fun _ _ _ h => h) (Or.inl ⟨by rfl, ?hy48⟩) (by assumption) ?rest48
            case hy48 => (intro w hSw; (try dsimp only at hSw); go_simp; try with_reducible rfl)
            try simp only [Act.put, List.setIfInBounds_toArray, List.set_cons_zero, List.set_cons_succ]
            refine wpAnyH_take (i := 3) (oi := ⟨some 66, _, _, _, _, _⟩) (v := ?v49) rfl (by kernel_rfl) (by kernel_rfl) (by kernel_rfl) (fun _ _ _ h => h) (Or.inl ⟨by rfl, ?hy49⟩) (by assumption) ?rest49
            case hy49 => (intro w hSw; (try dsimp only at hSw); go_simp; try with_reducible rfl)
            try simp only [Act.put, List.setIfInBounds_toArray, List.set_cons_zero, List.set_cons_succ]
            refine wpAnyH_take (i := 4) (oi := ⟨some 67, _, _, _, _, _⟩) (v := ?v50) rfl (by kernel_rfl) (by kernel_rfl) (by kernel_rfl) (fun _ _ _ h => h) (Or.inl ⟨by rfl, ?hy50⟩) (by assumption) ?rest50
            case hy50 => (intro w hSw; (try dsimp only at hSw); go_simp; try with_reducible rfl)
            try simp only [Act.put, List.setIfInBounds_toArray, List.set_cons_zero, List.set_cons_succ]
            refine wpAnyH_take (i := 5) (oi := ⟨some 68, _, _, _, _, _⟩) (v := ?v51) rfl (by kernel_rfl) (by kernel_rfl) (by kernel_rfl) (fun _ _ _ h => h) (Or.inl ⟨by rfl, ?hy51⟩) (by assumption) ?rest51
            case hy51 => (intro w hSw; (try dsimp only at hSw); go_simp; try with_reducible rfl)
            try simp only [Act.put, List.setIfInBounds_toArray, List.set_cons_zero, List.set_cons_succ]
            refine wpAnyH_take (i := 6) (oi := ⟨some 69, _, _, _, _, _⟩) (v := ?v52) rfl (by kernel_rfl) (by kernel_rfl) (by kernel_rfl) (fun _ _ _ h => h) (Or.inl ⟨by rfl, ?hy52⟩) (by assumption) ?rest52
            case hy52 => (intro w hSw; (try dsimp only at hSw); go_simp; try with_reducible rfl)
            try simp only [Act.put, List.setIfInBounds_toArray, List.set_cons_zero, List.set_cons_succ]
            refine wpAnyH_take (i := 7) (oi := ⟨some 70, _, _, _, _, _⟩) (v := ?v53) rfl (by kernel_rfl) (by kernel_rfl) (by kernel_rfl) (fun _ _ _ h => h) (Or.inl ⟨by rfl, ?hy53⟩) (by assumption) ?rest53
            case hy53 => (intro w hSw; (try dsimp only at hSw); go_simp; try with_reducible rfl)
            try simp only [Act.put, List.setIfInBounds_toArray, List.set_cons_zero, List.set_cons_succ]
            refine wpAnyH_take (i := 8) (oi := ⟨some 71, _, _, _, _, _⟩) (v := ?v54) rfl (by kernel_rfl) (by kernel_rfl) (by kernel_rfl) (fun _ _ _ h => h) (Or.inl ⟨by rfl, ?hy54⟩) (by assumption) ?rest54
            case hy54 => (intro w hSw; (try dsimp only at hSw); go_simp; try with_reducible rfl)
            try simp only [Act.put, List.setIfInBounds_toArray, List.set_cons_zero, List.set_cons_succ]
            refine wpAnyH_take (i := 9) (oi := ⟨some 72, _, _, _, _, _⟩) (v := ?v55) rfl (by kernel_rfl) (by kernel_rfl) (by kernel_rfl) (fun _ _ _ h => h) (Or.inl ⟨by rfl, ?hy55⟩) (by assumption) ?rest55
            case hy55 => (intro w hSw; (try dsimp only at hSw); go_simp; try with_reducible rfl)
            try simp only [Act.put, List.setIfInBounds_toArray, List.set_cons_zero, List.set_cons_succ]
            refine wpAnyH_take (i := 10) (oi := ⟨some 73, _, _, _, _, _⟩) (v := ?v56) rfl (by kernel_rfl) (by kernel_rfl) (by kernel_rfl) (fun _ _ _ h => h) (Or.inl ⟨by rfl, ?hy56⟩) (by assumption) ?rest56
            case hy56 => (intro w hSw; (try dsimp only at hSw); go_simp; try with_reducible rfl)
            try simp only [Act.put, List.setIfInBounds_toArray, List.set_cons_zero, List.set_cons_succ]
            refine wpAnyH_take (i := 11) (oi := ⟨some 74, _, _, _, _, _⟩) (v := ?v57) rfl (by kernel_rfl) (by kernel_rfl) (by kernel_rfl) (fun _ _ _ h => h) (Or.inl ⟨by rfl, ?hy57⟩) (by assumption) ?rest57
            case hy57 => (intro w hSw; (try dsimp only at hSw); go_simp; try with_reducible rfl)
            try simp only [Act.put, List.setIfInBounds_toArray, List.set_cons_zero, List.set_cons_succ]
            refine wpAnyH_take (i := 12) (oi := ⟨some 75, _, _, _, _, _⟩) (v := ?v58) rfl (by kernel_rfl) (by kernel_rfl) (by kernel_rfl) (fun _ _ _ h => h) (Or.inl ⟨by rfl, ?hy58⟩) (by assumption) ?rest58
            case hy58 => (intro w hSw; (try dsimp only at hSw); go_simp; try with_reducible rfl)
            try simp only [Act.put, List.setIfInBounds_toArray, List.set_cons_zero, List.set_cons_succ]
            refine wpAnyH_ready (rs := [13]) (by kernel_rfl) (by simp) ?_
            refine AllReadyH.cons (o := ⟨some 76, _, _, _, _, _⟩) rfl (fun K hK => ?_) AllReadyH.nil
            go_simp
            refine (HQ.out _).mono ?_
            rintro e wm ⟨rfl, hbm⟩
            have Y2 : Hid (Adds w1 wm) := Lib.hid (((Adds.refl w1).drew).trans hbm)
            refine hK.out _ _ ⟨keep_cell Y2.out d0, keep_cell Y2.out d1, keep_cell Y2.out d2, keep_cell Y2.out d3, keep_cell Y2.out d4, keep_cell Y2.out d5, keep_cell Y2.out e0, keep_cell Y2.out e1, keep_cell Y2.out e2, keep_cell Y2.out e3⟩ (fun hHeld => ?_)
            clear hK K
            try simp only [Act.put, List.setIfInBounds_toArray, List.set_cons_zero, List.set_cons_succ]
            refine wpAnyH_take (i := 14) (oi := ⟨some 77, _, _, _, _, _⟩) (v := ?v59) rfl (by kernel_rfl) (by kernel_rfl) (by kernel_rfl) (fun _ _ _ h => h) (Or.inl ⟨by rfl, ?hy59⟩) (by assumption) ?rest59
            case hy59 => (intro w hSw; (try dsimp only at hSw); go_simp; try with_reducible rfl)
            try simp only [Act.put, List.setIfInBounds_toArray, List.set_cons_zero, List.set_cons_succ]
            refine wpAnyH_ready (rs := [15]) (by kernel_rfl) (by simp) ?_
            refine AllReadyH.cons (o := ⟨some 78, _, _, _, _, _⟩) rfl (fun K hK => ?_) AllReadyH.nil
            go_simp
            refine (CS.call (HC1.out.later Y2.out) (xa, xc, ⟨qs, ql, qo, qh⟩) (by omega) (by simp only; omega) (by simp only; omega)).mono ?_
            rintro e w2 ⟨v2, rfl, hcs⟩
            have HC2 := Lib.hid hcs
            obtain ⟨f0, f1, f2, f3, f4, f5⟩ := box6 hcs.r
            obtain ⟨k0, k1, k2, k3⟩ := box4 hcs.t
            clear hcs
            refine hK.out _ _ ⟨f0, f1, f2, f3, f4, f5, k0, k1, k2, k3⟩ (fun hHeld => ?_)
            clear hK K
            try simp only [Act.put, List.setIfInBounds_toArray, List.set_cons_zero, List.set_cons_succ]
            refine wpAnyH_take (i := 16) (oi := ⟨some 11, _, _, _, _, _⟩) (v := ?v60) rfl (by kernel_rfl) (by kernel_rfl) (by kernel_rfl) (fun _ _ _ h => h) (Or.inl ⟨by rfl, ?hy60⟩) (by assumption) ?rest60
            case hy60 => (intro w hSw; (try dsimp only at hSw); go_simp; try with_reducible rfl)
            try simp only [Act.put, List.setIfInBounds_toArray, List.set_cons_zero, List.set_cons_succ]
            refine wpAnyH_done (by kernel_rfl) ?_ _
            have hR : R2 v2 w2 := by rw [HR2.out]; show Hid (CS W3 lb b6 #[.int .i64 xa, .int .i64 xc, .int .i64 xs, .int .i64 xl, .int .i64 xo, .int .i64 xh] #[.int .i64 ts, .int .i64 tl, .int .i64 tt, .int .i64 th] v2 ((addR (addR (addR out (a, b, ⟨ts, tl, tt, th⟩)) (xa, min xc (a - 1), ⟨xs, xl, xo, xh⟩)) (max xa a, min xc b, ⟨qs, ql, qo, qh⟩))) (4 * k + 1 + 1 + 1) w2); rw [HM1.out, HM2.out]; exact HC2
            go_wp2_with fail
            go_meet
            exact hR
        case rest =>
        rename World => w2
        rename Value => v2
        rw [HR2.out] at hcut
        have HC2 := hcut
        clear hcut HR2 d0 d1 d2 d3 d4 d5 e0 e1 e2 e3
        obtain ⟨d0, d1, d2, d3, d4, d5⟩ := box6 HC2.out.r
        obtain ⟨e0, e1, e2, e3⟩ := box4 HC2.out.t
        clear e0 e1 e2 e3
        have hb0 : 0 ≤ b + 1 := by omega
        rcases Int.lt_or_le xa (b + 1) with q1 | q1
        · have HM1 := Lib.hid (show max xa (b + 1) = b + 1 by omega)
          go_wp2_with (go_at_call 112; refine (CS.call HC2.out (b + 1, xc, ⟨xs, xl, xo, xh⟩) (by omega) (by simp only; omega) (by simp only; omega)).mono ?_; rintro e w3 ⟨v3, rfl, hcs⟩; have HC3 := Lib.hid hcs; clear hcs)
          refine ⟨⟨k + 1, _, true, by omega, by go_num, rfl, Lib.hid HC3.out.row, Lib.hid (by have := HC3.out.len; omega), Lib.hid HC3.out.ok, Lib.hid ?_, Lib.hid HC3.out.adds⟩, by simp [intOf]; omega⟩
          have h := hres.out
          rw [chg_in HIN.out] at h
          have e : threeR (addR out (a, b, ⟨ts, tl, tt, th⟩)) (xa, xc, ⟨xs, xl, xo, xh⟩) a b (whatF ⟨xs, xl, xo, xh⟩ ⟨ts, tl, tt, th⟩ what) = addR (addR (addR (addR out (a, b, ⟨ts, tl, tt, th⟩)) (xa, min xc (a - 1), ⟨xs, xl, xo, xh⟩)) (max xa a, min xc b, ⟨qs, ql, qo, qh⟩)) (b + 1, xc, ⟨xs, xl, xo, xh⟩) := by rw [← HQE.out]; unfold threeR; simp only; rw [HM1.out]
          have h2 : chgGo a b ⟨ts, tl, tt, th⟩ what (L.drop (k + 1)) (threeR (addR out (a, b, ⟨ts, tl, tt, th⟩)) (xa, xc, ⟨xs, xl, xo, xh⟩) a b (whatF ⟨xs, xl, xo, xh⟩ ⟨ts, tl, tt, th⟩ what)) true = RES := h
          rw [e] at h2
          exact h2
        · have HM1 := Lib.hid (show max xa (b + 1) = xa by omega)
          go_wp2_with (go_at_call 112; refine (CS.call HC2.out (xa, xc, ⟨xs, xl, xo, xh⟩) (by omega) (by simp only; omega) (by simp only; omega)).mono ?_; rintro e w3 ⟨v3, rfl, hcs⟩; have HC3 := Lib.hid hcs; clear hcs)
          refine ⟨⟨k + 1, _, true, by omega, by go_num, rfl, Lib.hid HC3.out.row, Lib.hid (by have := HC3.out.len; omega), Lib.hid HC3.out.ok, Lib.hid ?_, Lib.hid HC3.out.adds⟩, by simp [intOf]; omega⟩
          have h := hres.out
          rw [chg_in HIN.out] at h
          have e : threeR (addR out (a, b, ⟨ts, tl, tt, th⟩)) (xa, xc, ⟨xs, xl, xo, xh⟩) a b (whatF ⟨xs, xl, xo, xh⟩ ⟨ts, tl, tt, th⟩ what) = addR (addR (addR (addR out (a, b, ⟨ts, tl, tt, th⟩)) (xa, min xc (a - 1), ⟨xs, xl, xo, xh⟩)) (max xa a, min xc b, ⟨qs, ql, qo, qh⟩)) (xa, xc, ⟨xs, xl, xo, xh⟩) := by rw [← HQE.out]; unfold threeR; simp only; rw [HM1.out]
          have h2 : chgGo a b ⟨ts, tl, tt, th⟩ what (L.drop (k + 1)) (threeR (addR out (a, b, ⟨ts, tl, tt, th⟩)) (xa, xc, ⟨xs, xl, xo, xh⟩) a b (whatF ⟨xs, xl, xo, xh⟩ ⟨ts, tl, tt, th⟩ what)) true = RES := h
          rw [e] at h2
          exact h2
      | false =>
        have hbb := HBB.out
        rw [hb5] at hbb
        have HIN := Lib.hid (show ¬ (what = 0 ∧ ent = false ∧ b < (xa, xc, (⟨xs, xl, xo, xh⟩ : Pk)).1) from fun ⟨h1, h2, h3⟩ => by rw [h2] at hbb; simp only at h3; simp [h1, h3] at hbb)
        subst hb5
        clear hbb HBB
        obtain ⟨d0, d1, d2, d3, d4, d5⟩ := box6 HCS.out.r
        obtain ⟨e0, e1, e2, e3⟩ := box4 HCS.out.t
        go_upto_region 11 with fail
        obtain ⟨R1, hR1⟩ : ∃ R : Value → World → Prop, R = fun v wc => Hid (CS W3 lb b6 #[.int .i64 xa, .int .i64 xc, .int .i64 xs, .int .i64 xl, .int .i64 xo, .int .i64 xh] #[.int .i64 ts, .int .i64 tl, .int .i64 tt, .int .i64 th] v ((addR (out) (xa, min xc (a - 1), ⟨xs, xl, xo, xh⟩))) (4 * k + 1) wc) := ⟨_, rfl⟩
        have HR1 := Lib.hid hR1
        clear hR1
        go_cut [11] (fun v wc => R1 v wc)
        case first =>
          by_cases hm : xc ≤ a - 1
          · have hm1 : min xc (a - 1) = xc := by omega
            have HM1 := Lib.hid hm1
            clear hm1
            go_wp2_with (go_at_call 112; refine (CS.call HCS.out (xa, xc, ⟨xs, xl, xo, xh⟩) (by omega) (by simp only; omega) (by simp only; omega)).mono ?_; rintro e w1 ⟨v1, rfl, hcs⟩; have HC1 := Lib.hid hcs; clear hcs)
            have hR : R1 v1 w1 := by rw [HR1.out]; show Hid (CS W3 lb b6 #[.int .i64 xa, .int .i64 xc, .int .i64 xs, .int .i64 xl, .int .i64 xo, .int .i64 xh] #[.int .i64 ts, .int .i64 tl, .int .i64 tt, .int .i64 th] v1 ((addR (out) (xa, min xc (a - 1), ⟨xs, xl, xo, xh⟩))) (4 * k + 1) w1); rw [HM1.out]; exact HC1
            go_meet
            exact hR
          · have hm' : a - 1 < xc := by omega
            have hm1 : min xc (a - 1) = a - 1 := by omega
            have HM1 := Lib.hid hm1
            clear hm1
            go_wp2_with (go_at_call 112; refine (CS.call HCS.out (xa, a - 1, ⟨xs, xl, xo, xh⟩) (by omega) (by simp only; omega) (by simp only; omega)).mono ?_; rintro e w1 ⟨v1, rfl, hcs⟩; have HC1 := Lib.hid hcs; clear hcs)
            have hR : R1 v1 w1 := by rw [HR1.out]; show Hid (CS W3 lb b6 #[.int .i64 xa, .int .i64 xc, .int .i64 xs, .int .i64 xl, .int .i64 xo, .int .i64 xh] #[.int .i64 ts, .int .i64 tl, .int .i64 tt, .int .i64 th] v1 ((addR (out) (xa, min xc (a - 1), ⟨xs, xl, xo, xh⟩))) (4 * k + 1) w1); rw [HM1.out]; exact HC1
            go_meet
            exact hR
        case rest =>
        rename World => w1
        rename Value => v1
        rw [HR1.out] at hcut
        have HC1 := hcut
        clear hcut HR1 d0 d1 d2 d3 d4 d5 e0 e1 e2 e3
        go_upto_region 12 with fail
        obtain ⟨d0, d1, d2, d3, d4, d5⟩ := box6 HC1.out.r
        obtain ⟨e0, e1, e2, e3⟩ := box4 HC1.out.t
        obtain ⟨R2, hR2⟩ : ∃ R : Value → World → Prop, R = fun v wc => Hid (CS W3 lb b6 #[.int .i64 xa, .int .i64 xc, .int .i64 xs, .int .i64 xl, .int .i64 xo, .int .i64 xh] #[.int .i64 ts, .int .i64 tl, .int .i64 tt, .int .i64 th] v ((addR (addR (out) (xa, min xc (a - 1), ⟨xs, xl, xo, xh⟩)) (max xa a, min xc b, ⟨qs, ql, qo, qh⟩))) (4 * k + 1 + 1) wc) := ⟨_, rfl⟩
        have HR2 := Lib.hid hR2
        clear hR2
        go_cut [11] (fun v wc => R2 v wc)
        case first =>
          rcases Int.lt_or_le xa a with q1 | q1 <;> rcases Int.lt_or_le b xc with q2 | q2
          · have HM1 := Lib.hid (show max xa a = a by omega)
            have HM2 := Lib.hid (show min xc b = b by omega)
            refine wp_region_held_drew (S := (fun w' => w'.cell? ⟨lb, 0, none⟩ = some (.int .i64 xa) ∧ w'.cell? ⟨lb, 1, none⟩ = some (.int .i64 xc) ∧ w'.cell? ⟨lb, 2, none⟩ = some (.int .i64 xs) ∧ w'.cell? ⟨lb, 3, none⟩ = some (.int .i64 xl) ∧ w'.cell? ⟨lb, 4, none⟩ = some (.int .i64 xo) ∧ w'.cell? ⟨lb, 5, none⟩ = some (.int .i64 xh) ∧ w'.cell? ⟨b6, 0, none⟩ = some (.int .i64 ts) ∧ w'.cell? ⟨b6, 1, none⟩ = some (.int .i64 tl) ∧ w'.cell? ⟨b6, 2, none⟩ = some (.int .i64 tt) ∧ w'.cell? ⟨b6, 3, none⟩ = some (.int .i64 th))) (by kernel_rfl) ⟨d0, d1, d2, d3, d4, d5, e0, e1, e2, e3⟩ (fun hHeld => ?_)
            refine wpAnyH_take (i := 0) (oi := ⟨some 63, _, _, _, _, _⟩) (v := ?v61) rfl (by kernel_rfl) (by kernel_rfl) (by kernel_rfl) (fun _ _ _ h => h) (Or.inl ⟨by rfl, ?hy61⟩) (by assumption) ?rest61
            case hy61 => (intro w hSw; (try dsimp only at hSw); go_simp; try with_reducible rfl)
            try simp only [Act.put, List.setIfInBounds_toArray, List.set_cons_zero, List.set_cons_succ]
            refine wpAnyH_take (i := 1) (oi := ⟨some 64, _, _, _, _, _⟩) (v := ?v62) rfl (by kernel_rfl) (by kernel_rfl) (by kernel_rfl) (fun _ _ _ h => h) (Or.inl ⟨by rfl, ?hy62⟩) (by assumption) ?rest62
            case hy62 => (intro w hSw; (try dsimp only at hSw); go_simp; try with_reducible rfl)
            try simp only [Act.put, List.setIfInBounds_toArray, List.set_cons_zero, List.set_cons_succ]
            refine wpAnyH_take (i := 2) (oi := ⟨some 65, _, _, _, _, _⟩) (v := ?v63) rfl (by kernel_rfl) (by kernel_rfl) (by kernel_rfl) (fun _ _ _ h => h) (Or.inl ⟨by rfl, ?hy63⟩) (by assumption) ?rest63
            case hy63 => (intro w hSw; (try dsimp only at hSw); go_simp; try with_reducible rfl)
            try simp only [Act.put, List.setIfInBounds_toArray, List.set_cons_zero, List.set_cons_succ]
            refine wpAnyH_take (i := 3) (oi := ⟨some 66, _, _, _, _, _⟩) (v := ?v64) rfl (by kernel_rfl) (by kernel_rfl) (by kernel_rfl) (fun _ _ _ h => h) (Or.inl ⟨by rfl, ?hy64⟩) (by assumption) ?rest64
            case hy64 => (intro w hSw; (try dsimp only at hSw); go_simp; try with_reducible rfl)
            try simp only [Act.put, List.setIfInBounds_toArray, List.set_cons_zero, List.set_cons_succ]
            refine wpAnyH_take (i := 4) (oi := ⟨some 67, _, _, _, _, _⟩) (v := ?v65) rfl (by kernel_rfl) (by kernel_rfl) (by kernel_rfl) (fun _ _ _ h => h) (Or.inl ⟨by rfl, ?hy65⟩) (by assumption) ?rest65
            case hy65 => (intro w hSw; (try dsimp only at hSw); go_simp; try with_reducible rfl)
            try simp only [Act.put, List.setIfInBounds_toArray, List.set_cons_zero, List.set_cons_succ]
            refine wpAnyH_take (i := 5) (oi := ⟨some 68, _, _, _, _, _⟩) (v := ?v66) rfl (by kernel_rfl) (by kernel_rfl) (by kernel_rfl) (fun _ _ _ h => h) (Or.inl ⟨by rfl, ?hy66⟩) (by assumption) ?rest66
            case hy66 => (intro w hSw; (try dsimp only at hSw); go_simp; try with_reducible rfl)
            try simp only [Act.put, List.setIfInBounds_toArray, List.set_cons_zero, List.set_cons_succ]
            refine wpAnyH_take (i := 6) (oi := ⟨some 69, _, _, _, _, _⟩) (v := ?v67) rfl (by kernel_rfl) (by kernel_rfl) (by kernel_rfl) (fun _ _ _ h => h) (Or.inl ⟨by rfl, ?hy67⟩) (by assumption) ?rest67
            case hy67 => (intro w hSw; (try dsimp only at hSw); go_simp; try with_reducible rfl)
            try simp only [Act.put, List.setIfInBounds_toArray, List.set_cons_zero, List.set_cons_succ]
            refine wpAnyH_take (i := 7) (oi := ⟨some 70, _, _, _, _, _⟩) (v := ?v68) rfl (by kernel_rfl) (by kernel_rfl) (by kernel_rfl) (fun _ _ _ h => h) (Or.inl ⟨by rfl, ?hy68⟩) (by assumption) ?rest68
            case hy68 => (intro w hSw; (try dsimp only at hSw); go_simp; try with_reducible rfl)
            try simp only [Act.put, List.setIfInBounds_toArray, List.set_cons_zero, List.set_cons_succ]
            refine wpAnyH_take (i := 8) (oi := ⟨some 71, _, _, _, _, _⟩) (v := ?v69) rfl (by kernel_rfl) (by kernel_rfl) (by kernel_rfl) (fun _ _ _ h => h) (Or.inl ⟨by rfl, ?hy69⟩) (by assumption) ?rest69
            case hy69 => (intro w hSw; (try dsimp only at hSw); go_simp; try with_reducible rfl)
            try simp only [Act.put, List.setIfInBounds_toArray, List.set_cons_zero, List.set_cons_succ]
            refine wpAnyH_take (i := 9) (oi := ⟨some 72, _, _, _, _, _⟩) (v := ?v70) rfl (by kernel_rfl) (by kernel_rfl) (by kernel_rfl) (fun _ _ _ h => h) (Or.inl ⟨by rfl, ?hy70⟩) (by assumption) ?rest70
            case hy70 => (intro w hSw; (try dsimp only at hSw); go_simp; try with_reducible rfl)
            try simp only [Act.put, List.setIfInBounds_toArray, List.set_cons_zero, List.set_cons_succ]
            refine wpAnyH_take (i := 10) (oi := ⟨some 73, _, _, _, _, _⟩) (v := ?v71) rfl (by kernel_rfl) (by kernel_rfl) (by kernel_rfl) (fun _ _ _ h => h) (Or.inl ⟨by rfl, ?hy71⟩) (by assumption) ?rest71
            case hy71 => (intro w hSw; (try dsimp only at hSw); go_simp; try with_reducible rfl)
            try simp only [Act.put, List.setIfInBounds_toArray, List.set_cons_zero, List.set_cons_succ]
            refine wpAnyH_take (i := 11) (oi := ⟨some 74, _, _, _, _, _⟩) (v := ?v72) rfl (by kernel_rfl) (by kernel_rfl) (by kernel_rfl) (fun _ _ _ h => h) (Or.inl ⟨by rfl, ?hy72⟩) (by assumption) ?rest72
            case hy72 => (intro w hSw; (try dsimp only at hSw); go_simp; try with_reducible rfl)
            try simp only [Act.put, List.setIfInBounds_toArray, List.set_cons_zero, List.set_cons_succ]
            refine wpAnyH_take (i := 12) (oi := ⟨some 75, _, _, _, _, _⟩) (v := ?v73) rfl (by kernel_rfl) (by kernel_rfl) (by kernel_rfl) (fun _ _ _ h => h) (Or.inl ⟨by rfl, ?hy73⟩) (by assumption) ?rest73
            case hy73 => (intro w hSw; (try dsimp only at hSw); go_simp; try with_reducible rfl)
            try simp only [Act.put, List.setIfInBounds_toArray, List.set_cons_zero, List.set_cons_succ]
            refine wpAnyH_ready (rs := [13]) (by kernel_rfl) (by simp) ?_
            refine AllReadyH.cons (o := ⟨some 76, _, _, _, _, _⟩) rfl (fun K hK => ?_) AllReadyH.nil
            go_simp
            refine (HQ.out _).mono ?_
            rintro e wm ⟨rfl, hbm⟩
            have Y2 : Hid (Adds w1 wm) := Lib.hid (((Adds.refl w1).drew).trans hbm)
            refine hK.out _ _ ⟨keep_cell Y2.out d0, keep_cell Y2.out d1, keep_cell Y2.out d2, keep_cell Y2.out d3, keep_cell Y2.out d4, keep_cell Y2.out d5, keep_cell Y2.out e0, keep_cell Y2.out e1, keep_cell Y2.out e2, keep_cell Y2.out e3⟩ (fun hHeld => ?_)
            clear hK K
            try simp only [Act.put, List.setIfInBounds_toArray, List.set_cons_zero, List.set_cons_succ]
            refine wpAnyH_take (i := 14) (oi := ⟨some 77, _, _, _, _, _⟩) (v := ?v74) rfl (by kernel_rfl) (by kernel_rfl) (by kernel_rfl) (fun _ _ _ h => h) (Or.inl ⟨by rfl, ?hy74⟩) (by assumption) ?rest74
            case hy74 => (intro w hSw; (try dsimp only at hSw); go_simp; try with_reducible rfl)
            try simp only [Act.put, List.setIfInBounds_toArray, List.set_cons_zero, List.set_cons_succ]
            refine wpAnyH_ready (rs := [15]) (by kernel_rfl) (by simp) ?_
            refine AllReadyH.cons (o := ⟨some 78, _, _, _, _, _⟩) rfl (fun K hK => ?_) AllReadyH.nil
            go_simp
            refine (CS.call (HC1.out.later Y2.out) (a, b, ⟨qs, ql, qo, qh⟩) (by omega) (by simp only; omega) (by simp only; omega)).mono ?_
            rintro e w2 ⟨v2, rfl, hcs⟩
            have HC2 := Lib.hid hcs
            obtain ⟨f0, f1, f2, f3, f4, f5⟩ := box6 hcs.r
            obtain ⟨k0, k1, k2, k3⟩ := box4 hcs.t
            clear hcs
            refine hK.out _ _ ⟨f0, f1, f2, f3, f4, f5, k0, k1, k2, k3⟩ (fun hHeld => ?_)
            clear hK K
            try simp only [Act.put, List.setIfInBounds_toArray, List.set_cons_zero, List.set_cons_succ]
            refine wpAnyH_take (i := 16) (oi := ⟨some 11, _, _, _, _, _⟩) (v := ?v75) rfl (by kernel_rfl) (by kernel_rfl) (by kernel_rfl) (fun _ _ _ h => h) (Or.inl ⟨by rfl, ?hy75⟩) (by assumption) ?rest75
            case hy75 => (intro w hSw; (try dsimp only at hSw); go_simp; try with_reducible rfl)
            try simp only [Act.put, List.setIfInBounds_toArray, List.set_cons_zero, List.set_cons_succ]
            refine wpAnyH_done (by kernel_rfl) ?_ _
            have hR : R2 v2 w2 := by rw [HR2.out]; show Hid (CS W3 lb b6 #[.int .i64 xa, .int .i64 xc, .int .i64 xs, .int .i64 xl, .int .i64 xo, .int .i64 xh] #[.int .i64 ts, .int .i64 tl, .int .i64 tt, .int .i64 th] v2 ((addR (addR (out) (xa, min xc (a - 1), ⟨xs, xl, xo, xh⟩)) (max xa a, min xc b, ⟨qs, ql, qo, qh⟩))) (4 * k + 1 + 1) w2); rw [HM1.out, HM2.out]; exact HC2
            go_wp2_with fail
            go_meet
            exact hR
          · have HM1 := Lib.hid (show max xa a = a by omega)
            have HM2 := Lib.hid (show min xc b = xc by omega)
            have q4 : (b < xc) = False := eq_false (by omega)
            refine wp_region_held_drew (S := (fun w' => w'.cell? ⟨lb, 0, none⟩ = some (.int .i64 xa) ∧ w'.cell? ⟨lb, 1, none⟩ = some (.int .i64 xc) ∧ w'.cell? ⟨lb, 2, none⟩ = some (.int .i64 xs) ∧ w'.cell? ⟨lb, 3, none⟩ = some (.int .i64 xl) ∧ w'.cell? ⟨lb, 4, none⟩ = some (.int .i64 xo) ∧ w'.cell? ⟨lb, 5, none⟩ = some (.int .i64 xh) ∧ w'.cell? ⟨b6, 0, none⟩ = some (.int .i64 ts) ∧ w'.cell? ⟨b6, 1, none⟩ = some (.int .i64 tl) ∧ w'.cell? ⟨b6, 2, none⟩ = some (.int .i64 tt) ∧ w'.cell? ⟨b6, 3, none⟩ = some (.int .i64 th))) (by kernel_rfl) ⟨d0, d1, d2, d3, d4, d5, e0, e1, e2, e3⟩ (fun hHeld => ?_)
            refine wpAnyH_take (i := 0) (oi := ⟨some 63, _, _, _, _, _⟩) (v := ?v76) rfl (by kernel_rfl) (by kernel_rfl) (by kernel_rfl) (fun _ _ _ h => h) (Or.inl ⟨by rfl, ?hy76⟩) (by assumption) ?rest76
            case hy76 => (intro w hSw; (try dsimp only at hSw); go_simp; try with_reducible rfl)
            try simp only [Act.put, List.setIfInBounds_toArray, List.set_cons_zero, List.set_cons_succ]
            refine wpAnyH_take (i := 1) (oi := ⟨some 64, _, _, _, _, _⟩) (v := ?v77) rfl (by kernel_rfl) (by kernel_rfl) (by kernel_rfl) (fun _ _ _ h => h) (Or.inl ⟨by rfl, ?hy77⟩) (by assumption) ?rest77
            case hy77 => (intro w hSw; (try dsimp only at hSw); go_simp; try with_reducible rfl)
            try simp only [Act.put, List.setIfInBounds_toArray, List.set_cons_zero, List.set_cons_succ]
            refine wpAnyH_take (i := 2) (oi := ⟨some 65, _, _, _, _, _⟩) (v := ?v78) rfl (by kernel_rfl) (by kernel_rfl) (by kernel_rfl) (fun _ _ _ h => h) (Or.inl ⟨by rfl, ?hy78⟩) (by assumption) ?rest78
            case hy78 => (intro w hSw; (try dsimp only at hSw); go_simp; try with_reducible rfl)
            try simp only [Act.put, List.setIfInBounds_toArray, List.set_cons_zero, List.set_cons_succ]
            refine wpAnyH_take (i := 3) (oi := ⟨some 66, _, _, _, _, _⟩) (v := ?v79) rfl (by kernel_rfl) (by kernel_rfl) (by kernel_rfl) (fun _ _ _ h => h) (Or.inl ⟨by rfl, ?hy79⟩) (by assumption) ?rest79
            case hy79 => (intro w hSw; (try dsimp only at hSw); go_simp; try with_reducible rfl)
            try simp only [Act.put, List.setIfInBounds_toArray, List.set_cons_zero, List.set_cons_succ]
            refine wpAnyH_take (i := 4) (oi := ⟨some 67, _, _, _, _, _⟩) (v := ?v80) rfl (by kernel_rfl) (by kernel_rfl) (by kernel_rfl) (fun _ _ _ h => h) (Or.inl ⟨by rfl, ?hy80⟩) (by assumption) ?rest80
            case hy80 => (intro w hSw; (try dsimp only at hSw); go_simp; try with_reducible rfl)
            try simp only [Act.put, List.setIfInBounds_toArray, List.set_cons_zero, List.set_cons_succ]
            refine wpAnyH_take (i := 5) (oi := ⟨some 68, _, _, _, _, _⟩) (v := ?v81) rfl (by kernel_rfl) (by kernel_rfl) (by kernel_rfl) (fun _ _ _ h => h) (Or.inl ⟨by rfl, ?hy81⟩) (by assumption) ?rest81
            case hy81 => (intro w hSw; (try dsimp only at hSw); go_simp; try with_reducible rfl)
            try simp only [Act.put, List.setIfInBounds_toArray, List.set_cons_zero, List.set_cons_succ]
            refine wpAnyH_take (i := 6) (oi := ⟨some 69, _, _, _, _, _⟩) (v := ?v82) rfl (by kernel_rfl) (by kernel_rfl) (by kernel_rfl) (fun _ _ _ h => h) (Or.inl ⟨by rfl, ?hy82⟩) (by assumption) ?rest82
            case hy82 => (intro w hSw; (try dsimp only at hSw); go_simp; try with_reducible rfl)
            try simp only [Act.put, List.setIfInBounds_toArray, List.set_cons_zero, List.set_cons_succ]
            refine wpAnyH_take (i := 7) (oi := ⟨some 70, _, _, _, _, _⟩) (v := ?v83) rfl (by kernel_rfl) (by kernel_rfl) (by kernel_rfl) (fun _ _ _ h => h) (Or.inl ⟨by rfl, ?hy83⟩) (by assumption) ?rest83
            case hy83 => (intro w hSw; (try dsimp only at hSw); go_simp; try with_reducible rfl)
            try simp only [Act.put, List.setIfInBounds_toArray, List.set_cons_zero, List.set_cons_succ]
            refine wpAnyH_take (i := 8) (oi := ⟨some 71, _, _, _, _, _⟩) (v := ?v84) rfl (by kernel_rfl) (by kernel_rfl) (by kernel_rfl) (fun _ _ _ h => h) (Or.inl ⟨by rfl, ?hy84⟩) (by assumption) ?rest84
            case hy84 => (intro w hSw; (try dsimp only at hSw); go_simp; try with_reducible rfl)
            try simp only [Act.put, List.setIfInBounds_toArray, List.set_cons_zero, List.set_cons_succ]
            refine wpAnyH_take (i := 9) (oi := ⟨some 72, _, _, _, _, _⟩) (v := ?v85) rfl (by kernel_rfl) (by kernel_rfl) (by kernel_rfl) (fun _ _ _ h => h) (Or.inl ⟨by rfl, ?hy85⟩) (by assumption) ?rest85
            case hy85 => (intro w hSw; (try dsimp only at hSw); go_simp; try with_reducible rfl)
            try simp only [Act.put, List.setIfInBounds_toArray, List.set_cons_zero, List.set_cons_succ]
            refine wpAnyH_take (i := 10) (oi := ⟨some 73, _, _, _, _, _⟩) (v := ?v86) rfl (by kernel_rfl) (by kernel_rfl) (by kernel_rfl) (fun _ _ _ h => h) (Or.inl ⟨by rfl, ?hy86⟩) (by assumption) ?rest86
            case hy86 => (intro w hSw; (try dsimp only at hSw); go_simp; try with_reducible rfl)
            try simp only [Act.put, List.setIfInBounds_toArray, List.set_cons_zero, List.set_cons_succ]
            refine wpAnyH_take (i := 11) (oi := ⟨some 74, _, _, _, _, _⟩) (v := ?v87) rfl (by kernel_rfl) (by kernel_rfl) (by kernel_rfl) (fun _ _ _ h => h) (Or.inl ⟨by rfl, ?hy87⟩) (by assumption) ?rest87
            case hy87 => (intro w hSw; (try dsimp only at hSw); go_simp; try with_reducible rfl)
            try simp only [Act.put, List.setIfInBounds_toArray, List.set_cons_zero, List.set_cons_succ]
            refine wpAnyH_take (i := 12) (oi := ⟨some 75, _, _, _, _, _⟩) (v := ?v88) rfl (by kernel_rfl) (by kernel_rfl) (by kernel_rfl) (fun _ _ _ h => h) (Or.inl ⟨by rfl, ?hy88⟩) (by assumption) ?rest88
            case hy88 => (intro w hSw; (try dsimp only at hSw); go_simp; try with_reducible rfl)
            try simp only [Act.put, List.setIfInBounds_toArray, List.set_cons_zero, List.set_cons_succ]
            refine wpAnyH_ready (rs := [13]) (by kernel_rfl) (by simp) ?_
            refine AllReadyH.cons (o := ⟨some 76, _, _, _, _, _⟩) rfl (fun K hK => ?_) AllReadyH.nil
            go_simp
            refine (HQ.out _).mono ?_
            rintro e wm ⟨rfl, hbm⟩
            have Y2 : Hid (Adds w1 wm) := Lib.hid (((Adds.refl w1).drew).trans hbm)
            refine hK.out _ _ ⟨keep_cell Y2.out d0, keep_cell Y2.out d1, keep_cell Y2.out d2, keep_cell Y2.out d3, keep_cell Y2.out d4, keep_cell Y2.out d5, keep_cell Y2.out e0, keep_cell Y2.out e1, keep_cell Y2.out e2, keep_cell Y2.out e3⟩ (fun hHeld => ?_)
            clear hK K
            try simp only [Act.put, List.setIfInBounds_toArray, List.set_cons_zero, List.set_cons_succ]
            refine wpAnyH_take (i := 14) (oi := ⟨some 77, _, _, _, _, _⟩) (v := ?v89) rfl (by kernel_rfl) (by kernel_rfl) (by kernel_rfl) (fun _ _ _ h => h) (Or.inl ⟨by rfl, ?hy89⟩) (by assumption) ?rest89
            case hy89 => (intro w hSw; (try dsimp only at hSw); go_simp; try with_reducible rfl)
            try simp only [Act.put, List.setIfInBounds_toArray, List.set_cons_zero, List.set_cons_succ]
            refine wpAnyH_ready (rs := [15]) (by kernel_rfl) (by simp) ?_
            refine AllReadyH.cons (o := ⟨some 78, _, _, _, _, _⟩) rfl (fun K hK => ?_) AllReadyH.nil
            go_simp
            refine (CS.call (HC1.out.later Y2.out) (a, xc, ⟨qs, ql, qo, qh⟩) (by omega) (by simp only; omega) (by simp only; omega)).mono ?_
            rintro e w2 ⟨v2, rfl, hcs⟩
            have HC2 := Lib.hid hcs
            obtain ⟨f0, f1, f2, f3, f4, f5⟩ := box6 hcs.r
            obtain ⟨k0, k1, k2, k3⟩ := box4 hcs.t
            clear hcs
            refine hK.out _ _ ⟨f0, f1, f2, f3, f4, f5, k0, k1, k2, k3⟩ (fun hHeld => ?_)
            clear hK K
            try simp only [Act.put, List.setIfInBounds_toArray, List.set_cons_zero, List.set_cons_succ]
            refine wpAnyH_take (i := 16) (oi := ⟨some 11, _, _, _, _, _⟩) (v := ?v90) rfl (by kernel_rfl) (by kernel_rfl) (by kernel_rfl) (fun _ _ _ h => h) (Or.inl ⟨by rfl, ?hy90⟩) (by assumption) ?rest90
            case hy90 => (intro w hSw; (try dsimp only at hSw); go_simp; try with_reducible rfl)
            try simp only [Act.put, List.setIfInBounds_toArray, List.set_cons_zero, List.set_cons_succ]
            refine wpAnyH_done (by kernel_rfl) ?_ _
            have hR : R2 v2 w2 := by rw [HR2.out]; show Hid (CS W3 lb b6 #[.int .i64 xa, .int .i64 xc, .int .i64 xs, .int .i64 xl, .int .i64 xo, .int .i64 xh] #[.int .i64 ts, .int .i64 tl, .int .i64 tt, .int .i64 th] v2 ((addR (addR (out) (xa, min xc (a - 1), ⟨xs, xl, xo, xh⟩)) (max xa a, min xc b, ⟨qs, ql, qo, qh⟩))) (4 * k + 1 + 1) w2); rw [HM1.out, HM2.out]; exact HC2
            go_wp2_with fail
            go_meet
            exact hR
          · have HM1 := Lib.hid (show max xa a = xa by omega)
            have HM2 := Lib.hid (show min xc b = b by omega)
            have q3 : (xa < a) = False := eq_false (by omega)
            have q5 : (a > xa) = False := eq_false (by omega)
            refine wp_region_held_drew (S := (fun w' => w'.cell? ⟨lb, 0, none⟩ = some (.int .i64 xa) ∧ w'.cell? ⟨lb, 1, none⟩ = some (.int .i64 xc) ∧ w'.cell? ⟨lb, 2, none⟩ = some (.int .i64 xs) ∧ w'.cell? ⟨lb, 3, none⟩ = some (.int .i64 xl) ∧ w'.cell? ⟨lb, 4, none⟩ = some (.int .i64 xo) ∧ w'.cell? ⟨lb, 5, none⟩ = some (.int .i64 xh) ∧ w'.cell? ⟨b6, 0, none⟩ = some (.int .i64 ts) ∧ w'.cell? ⟨b6, 1, none⟩ = some (.int .i64 tl) ∧ w'.cell? ⟨b6, 2, none⟩ = some (.int .i64 tt) ∧ w'.cell? ⟨b6, 3, none⟩ = some (.int .i64 th))) (by kernel_rfl) ⟨d0, d1, d2, d3, d4, d5, e0, e1, e2, e3⟩ (fun hHeld => ?_)
            refine wpAnyH_take (i := 0) (oi := ⟨some 63, _, _, _, _, _⟩) (v := ?v91) rfl (by kernel_rfl) (by kernel_rfl) (by kernel_rfl) (fun _ _ _ h => h) (Or.inl ⟨by rfl, ?hy91⟩) (by assumption) ?rest91
            case hy91 => (intro w hSw; (try dsimp only at hSw); go_simp; try with_reducible rfl)
            try simp only [Act.put, List.setIfInBounds_toArray, List.set_cons_zero, List.set_cons_succ]
            refine wpAnyH_take (i := 1) (oi := ⟨some 64, _, _, _, _, _⟩) (v := ?v92) rfl (by kernel_rfl) (by kernel_rfl) (by kernel_rfl) (fun _ _ _ h => h) (Or.inl ⟨by rfl, ?hy92⟩) (by assumption) ?rest92
            case hy92 => (intro w hSw; (try dsimp only at hSw); go_simp; try with_reducible rfl)
            try simp only [Act.put, List.setIfInBounds_toArray, List.set_cons_zero, List.set_cons_succ]
            refine wpAnyH_take (i := 2) (oi := ⟨some 65, _, _, _, _, _⟩) (v := ?v93) rfl (by kernel_rfl) (by kernel_rfl) (by kernel_rfl) (fun _ _ _ h => h) (Or.inl ⟨by rfl, ?hy93⟩) (by assumption) ?rest93
            case hy93 => (intro w hSw; (try dsimp only at hSw); go_simp; try with_reducible rfl)
            try simp only [Act.put, List.setIfInBounds_toArray, List.set_cons_zero, List.set_cons_succ]
            refine wpAnyH_take (i := 3) (oi := ⟨some 66, _, _, _, _, _⟩) (v := ?v94) rfl (by kernel_rfl) (by kernel_rfl) (by kernel_rfl) (fun _ _ _ h => h) (Or.inl ⟨by rfl, ?hy94⟩) (by assumption) ?rest94
            case hy94 => (intro w hSw; (try dsimp only at hSw); go_simp; try with_reducible rfl)
            try simp only [Act.put, List.setIfInBounds_toArray, List.set_cons_zero, List.set_cons_succ]
            refine wpAnyH_take (i := 4) (oi := ⟨some 67, _, _, _, _, _⟩) (v := ?v95) rfl (by kernel_rfl) (by kernel_rfl) (by kernel_rfl) (fun _ _ _ h => h) (Or.inl ⟨by rfl, ?hy95⟩) (by assumption) ?rest95
            case hy95 => (intro w hSw; (try dsimp only at hSw); go_simp; try with_reducible rfl)
            try simp only [Act.put, List.setIfInBounds_toArray, List.set_cons_zero, List.set_cons_succ]
            refine wpAnyH_take (i := 5) (oi := ⟨some 68, _, _, _, _, _⟩) (v := ?v96) rfl (by kernel_rfl) (by kernel_rfl) (by kernel_rfl) (fun _ _ _ h => h) (Or.inl ⟨by rfl, ?hy96⟩) (by assumption) ?rest96
            case hy96 => (intro w hSw; (try dsimp only at hSw); go_simp; try with_reducible rfl)
            try simp only [Act.put, List.setIfInBounds_toArray, List.set_cons_zero, List.set_cons_succ]
            refine wpAnyH_take (i := 6) (oi := ⟨some 69, _, _, _, _, _⟩) (v := ?v97) rfl (by kernel_rfl) (by kernel_rfl) (by kernel_rfl) (fun _ _ _ h => h) (Or.inl ⟨by rfl, ?hy97⟩) (by assumption) ?rest97
            case hy97 => (intro w hSw; (try dsimp only at hSw); go_simp; try with_reducible rfl)
            try simp only [Act.put, List.setIfInBounds_toArray, List.set_cons_zero, List.set_cons_succ]
            refine wpAnyH_take (i := 7) (oi := ⟨some 70, _, _, _, _, _⟩) (v := ?v98) rfl (by kernel_rfl) (by kernel_rfl) (by kernel_rfl) (fun _ _ _ h => h) (Or.inl ⟨by rfl, ?hy98⟩) (by assumption) ?rest98
            case hy98 => (intro w hSw; (try dsimp only at hSw); go_simp; try with_reducible rfl)
            try simp only [Act.put, List.setIfInBounds_toArray, List.set_cons_zero, List.set_cons_succ]
            refine wpAnyH_take (i := 8) (oi := ⟨some 71, _, _, _, _, _⟩) (v := ?v99) rfl (by kernel_rfl) (by kernel_rfl) (by kernel_rfl) (fun _ _ _ h => h) (Or.inl ⟨by rfl, ?hy99⟩) (by assumption) ?rest99
            case hy99 => (intro w hSw; (try dsimp only at hSw); go_simp; try with_reducible rfl)
            try simp only [Act.put, List.setIfInBounds_toArray, List.set_cons_zero, List.set_cons_succ]
            refine wpAnyH_take (i := 9) (oi := ⟨some 72, _, _, _, _, _⟩) (v := ?v100) rfl (by kernel_rfl) (by kernel_rfl) (by kernel_rfl) (fun _ _ _ h => h) (Or.inl ⟨by rfl, ?hy100⟩) (by assumption) ?rest100
            case hy100 => (intro w hSw; (try dsimp only at hSw); go_simp; try with_reducible rfl)
            try simp only [Act.put, List.setIfInBounds_toArray, List.set_cons_zero, List.set_cons_succ]
            refine wpAnyH_take (i := 10) (oi := ⟨some 73, _, _, _, _, _⟩) (v := ?v101) rfl (by kernel_rfl) (by kernel_rfl) (by kernel_rfl) (fun _ _ _ h => h) (Or.inl ⟨by rfl, ?hy101⟩) (by assumption) ?rest101
            case hy101 => (intro w hSw; (try dsimp only at hSw); go_simp; try with_reducible rfl)
            try simp only [Act.put, List.setIfInBounds_toArray, List.set_cons_zero, List.set_cons_succ]
            refine wpAnyH_take (i := 11) (oi := ⟨some 74, _, _, _, _, _⟩) (v := ?v102) rfl (by kernel_rfl) (by kernel_rfl) (by kernel_rfl) (fun _ _ _ h => h) (Or.inl ⟨by rfl, ?hy102⟩) (by assumption) ?rest102
            case hy102 => (intro w hSw; (try dsimp only at hSw); go_simp; try with_reducible rfl)
            try simp only [Act.put, List.setIfInBounds_toArray, List.set_cons_zero, List.set_cons_succ]
            refine wpAnyH_take (i := 12) (oi := ⟨some 75, _, _, _, _, _⟩) (v := ?v103) rfl (by kernel_rfl) (by kernel_rfl) (by kernel_rfl) (fun _ _ _ h => h) (Or.inl ⟨by rfl, ?hy103⟩) (by assumption) ?rest103
            case hy103 => (intro w hSw; (try dsimp only at hSw); go_simp; try with_reducible rfl)
            try simp only [Act.put, List.setIfInBounds_toArray, List.set_cons_zero, List.set_cons_succ]
            refine wpAnyH_ready (rs := [13]) (by kernel_rfl) (by simp) ?_
            refine AllReadyH.cons (o := ⟨some 76, _, _, _, _, _⟩) rfl (fun K hK => ?_) AllReadyH.nil
            go_simp
            refine (HQ.out _).mono ?_
            rintro e wm ⟨rfl, hbm⟩
            have Y2 : Hid (Adds w1 wm) := Lib.hid (((Adds.refl w1).drew).trans hbm)
            refine hK.out _ _ ⟨keep_cell Y2.out d0, keep_cell Y2.out d1, keep_cell Y2.out d2, keep_cell Y2.out d3, keep_cell Y2.out d4, keep_cell Y2.out d5, keep_cell Y2.out e0, keep_cell Y2.out e1, keep_cell Y2.out e2, keep_cell Y2.out e3⟩ (fun hHeld => ?_)
            clear hK K
            try simp only [Act.put, List.setIfInBounds_toArray, List.set_cons_zero, List.set_cons_succ]
            refine wpAnyH_take (i := 14) (oi := ⟨some 77, _, _, _, _, _⟩) (v := ?v104) rfl (by kernel_rfl) (by kernel_rfl) (by kernel_rfl) (fun _ _ _ h => h) (Or.inl ⟨by rfl, ?hy104⟩) (by assumption) ?rest104
            case hy104 => (intro w hSw; (try dsimp only at hSw); go_simp; try with_reducible rfl)
            try simp only [Act.put, List.setIfInBounds_toArray, List.set_cons_zero, List.set_cons_succ]
            refine wpAnyH_ready (rs := [15]) (by kernel_rfl) (by simp) ?_
            refine AllReadyH.cons (o := ⟨some 78, _, _, _, _, _⟩) rfl (fun K hK => ?_) AllReadyH.nil
            go_simp
            refine (CS.call (HC1.out.later Y2.out) (xa, b, ⟨qs, ql, qo, qh⟩) (by omega) (by simp only; omega) (by simp only; omega)).mono ?_
            rintro e w2 ⟨v2, rfl, hcs⟩
            have HC2 := Lib.hid hcs
            obtain ⟨f0, f1, f2, f3, f4, f5⟩ := box6 hcs.r
            obtain ⟨k0, k1, k2, k3⟩ := box4 hcs.t
            clear hcs
            refine hK.out _ _ ⟨f0, f1, f2, f3, f4, f5, k0, k1, k2, k3⟩ (fun hHeld => ?_)
            clear hK K
            try simp only [Act.put, List.setIfInBounds_toArray, List.set_cons_zero, List.set_cons_succ]
            refine wpAnyH_take (i := 16) (oi := ⟨some 11, _, _, _, _, _⟩) (v := ?v105) rfl (by kernel_rfl) (by kernel_rfl) (by kernel_rfl) (fun _ _ _ h => h) (Or.inl ⟨by rfl, ?hy105⟩) (by assumption) ?rest105
            case hy105 => (intro w hSw; (try dsimp only at hSw); go_simp; try with_reducible rfl)
            try simp only [Act.put, List.setIfInBounds_toArray, List.set_cons_zero, List.set_cons_succ]
            refine wpAnyH_done (by kernel_rfl) ?_ _
            have hR : R2 v2 w2 := by rw [HR2.out]; show Hid (CS W3 lb b6 #[.int .i64 xa, .int .i64 xc, .int .i64 xs, .int .i64 xl, .int .i64 xo, .int .i64 xh] #[.int .i64 ts, .int .i64 tl, .int .i64 tt, .int .i64 th] v2 ((addR (addR (out) (xa, min xc (a - 1), ⟨xs, xl, xo, xh⟩)) (max xa a, min xc b, ⟨qs, ql, qo, qh⟩))) (4 * k + 1 + 1) w2); rw [HM1.out, HM2.out]; exact HC2
            go_wp2_with fail
            go_meet
            exact hR
          · have HM1 := Lib.hid (show max xa a = xa by omega)
            have HM2 := Lib.hid (show min xc b = xc by omega)
            have q3 : (xa < a) = False := eq_false (by omega)
            have q5 : (a > xa) = False := eq_false (by omega)
            have q4 : (b < xc) = False := eq_false (by omega)
            refine wp_region_held_drew (S := (fun w' => w'.cell? ⟨lb, 0, none⟩ = some (.int .i64 xa) ∧ w'.cell? ⟨lb, 1, none⟩ = some (.int .i64 xc) ∧ w'.cell? ⟨lb, 2, none⟩ = some (.int .i64 xs) ∧ w'.cell? ⟨lb, 3, none⟩ = some (.int .i64 xl) ∧ w'.cell? ⟨lb, 4, none⟩ = some (.int .i64 xo) ∧ w'.cell? ⟨lb, 5, none⟩ = some (.int .i64 xh) ∧ w'.cell? ⟨b6, 0, none⟩ = some (.int .i64 ts) ∧ w'.cell? ⟨b6, 1, none⟩ = some (.int .i64 tl) ∧ w'.cell? ⟨b6, 2, none⟩ = some (.int .i64 tt) ∧ w'.cell? ⟨b6, 3, none⟩ = some (.int .i64 th))) (by kernel_rfl) ⟨d0, d1, d2, d3, d4, d5, e0, e1, e2, e3⟩ (fun hHeld => ?_)
            refine wpAnyH_take (i := 0) (oi := ⟨some 63, _, _, _, _, _⟩) (v := ?v106) rfl (by kernel_rfl) (by kernel_rfl) (by kernel_rfl) (fun _ _ _ h => h) (Or.inl ⟨by rfl, ?hy106⟩) (by assumption) ?rest106
            case hy106 => (intro w hSw; (try dsimp only at hSw); go_simp; try with_reducible rfl)
            try simp only [Act.put, List.setIfInBounds_toArray, List.set_cons_zero, List.set_cons_succ]
            refine wpAnyH_take (i := 1) (oi := ⟨some 64, _, _, _, _, _⟩) (v := ?v107) rfl (by kernel_rfl) (by kernel_rfl) (by kernel_rfl) (fun _ _ _ h => h) (Or.inl ⟨by rfl, ?hy107⟩) (by assumption) ?rest107
            case hy107 => (intro w hSw; (try dsimp only at hSw); go_simp; try with_reducible rfl)
            try simp only [Act.put, List.setIfInBounds_toArray, List.set_cons_zero, List.set_cons_succ]
            refine wpAnyH_take (i := 2) (oi := ⟨some 65, _, _, _, _, _⟩) (v := ?v108) rfl (by kernel_rfl) (by kernel_rfl) (by kernel_rfl) (fun _ _ _ h => h) (Or.inl ⟨by rfl, ?hy108⟩) (by assumption) ?rest108
            case hy108 => (intro w hSw; (try dsimp only at hSw); go_simp; try with_reducible rfl)
            try simp only [Act.put, List.setIfInBounds_toArray, List.set_cons_zero, List.set_cons_succ]
            refine wpAnyH_take (i := 3) (oi := ⟨some 66, _, _, _, _, _⟩) (v := ?v109) rfl (by kernel_rfl) (by kernel_rfl) (by kernel_rfl) (fun _ _ _ h => h) (Or.inl ⟨by rfl, ?hy109⟩) (by assumption) ?rest109
            case hy109 => (intro w hSw; (try dsimp only at hSw); go_simp; try with_reducible rfl)
            try simp only [Act.put, List.setIfInBounds_toArray, List.set_cons_zero, List.set_cons_succ]
            refine wpAnyH_take (i := 4) (oi := ⟨some 67, _, _, _, _, _⟩) (v := ?v110) rfl (by kernel_rfl) (by kernel_rfl) (by kernel_rfl) (fun _ _ _ h => h) (Or.inl ⟨by rfl, ?hy110⟩) (by assumption) ?rest110
            case hy110 => (intro w hSw; (try dsimp only at hSw); go_simp; try with_reducible rfl)
            try simp only [Act.put, List.setIfInBounds_toArray, List.set_cons_zero, List.set_cons_succ]
            refine wpAnyH_take (i := 5) (oi := ⟨some 68, _, _, _, _, _⟩) (v := ?v111) rfl (by kernel_rfl) (by kernel_rfl) (by kernel_rfl) (fun _ _ _ h => h) (Or.inl ⟨by rfl, ?hy111⟩) (by assumption) ?rest111
            case hy111 => (intro w hSw; (try dsimp only at hSw); go_simp; try with_reducible rfl)
            try simp only [Act.put, List.setIfInBounds_toArray, List.set_cons_zero, List.set_cons_succ]
            refine wpAnyH_take (i := 6) (oi := ⟨some 69, _, _, _, _, _⟩) (v := ?v112) rfl (by kernel_rfl) (by kernel_rfl) (by kernel_rfl) (fun _ _ _ h => h) (Or.inl ⟨by rfl, ?hy112⟩) (by assumption) ?rest112
            case hy112 => (intro w hSw; (try dsimp only at hSw); go_simp; try with_reducible rfl)
            try simp only [Act.put, List.setIfInBounds_toArray, List.set_cons_zero, List.set_cons_succ]
            refine wpAnyH_take (i := 7) (oi := ⟨some 70, _, _, _, _, _⟩) (v := ?v113) rfl (by kernel_rfl) (by kernel_rfl) (by kernel_rfl) (fun _ _ _ h => h) (Or.inl ⟨by rfl, ?hy113⟩) (by assumption) ?rest113
            case hy113 => (intro w hSw; (try dsimp only at hSw); go_simp; try with_reducible rfl)
            try simp only [Act.put, List.setIfInBounds_toArray, List.set_cons_zero, List.set_cons_succ]
            refine wpAnyH_take (i := 8) (oi := ⟨some 71, _, _, _, _, _⟩) (v := ?v114) rfl (by kernel_rfl) (by kernel_rfl) (by kernel_rfl) (fun _ _ _ h => h) (Or.inl ⟨by rfl, ?hy114⟩) (by assumption) ?rest114
            case hy114 => (intro w hSw; (try dsimp only at hSw); go_simp; try with_reducible rfl)
            try simp only [Act.put, List.setIfInBounds_toArray, List.set_cons_zero, List.set_cons_succ]
            refine wpAnyH_take (i := 9) (oi := ⟨some 72, _, _, _, _, _⟩) (v := ?v115) rfl (by kernel_rfl) (by kernel_rfl) (by kernel_rfl) (fun _ _ _ h => h) (Or.inl ⟨by rfl, ?hy115⟩) (by assumption) ?rest115
            case hy115 => (intro w hSw; (try dsimp only at hSw); go_simp; try with_reducible rfl)
            try simp only [Act.put, List.setIfInBounds_toArray, List.set_cons_zero, List.set_cons_succ]
            refine wpAnyH_take (i := 10) (oi := ⟨some 73, _, _, _, _, _⟩) (v := ?v116) rfl (by kernel_rfl) (by kernel_rfl) (by kernel_rfl) (fun _ _ _ h => h) (Or.inl ⟨by rfl, ?hy116⟩) (by assumption) ?rest116
            case hy116 => (intro w hSw; (try dsimp only at hSw); go_simp; try with_reducible rfl)
            try simp only [Act.put, List.setIfInBounds_toArray, List.set_cons_zero, List.set_cons_succ]
            refine wpAnyH_take (i := 11) (oi := ⟨some 74, _, _, _, _, _⟩) (v := ?v117) rfl (by kernel_rfl) (by kernel_rfl) (by kernel_rfl) (fun _ _ _ h => h) (Or.inl ⟨by rfl, ?hy117⟩) (by assumption) ?rest117
            case hy117 => (intro w hSw; (try dsimp only at hSw); go_simp; try with_reducible rfl)
            try simp only [Act.put, List.setIfInBounds_toArray, List.set_cons_zero, List.set_cons_succ]
            refine wpAnyH_take (i := 12) (oi := ⟨some 75, _, _, _, _, _⟩) (v := ?v118) rfl (by kernel_rfl) (by kernel_rfl) (by kernel_rfl) (fun _ _ _ h => h) (Or.inl ⟨by rfl, ?hy118⟩) (by assumption) ?rest118
            case hy118 => (intro w hSw; (try dsimp only at hSw); go_simp; try with_reducible rfl)
            try simp only [Act.put, List.setIfInBounds_toArray, List.set_cons_zero, List.set_cons_succ]
            refine wpAnyH_ready (rs := [13]) (by kernel_rfl) (by simp) ?_
            refine AllReadyH.cons (o := ⟨some 76, _, _, _, _, _⟩) rfl (fun K hK => ?_) AllReadyH.nil
            go_simp
            refine (HQ.out _).mono ?_
            rintro e wm ⟨rfl, hbm⟩
            have Y2 : Hid (Adds w1 wm) := Lib.hid (((Adds.refl w1).drew).trans hbm)
            refine hK.out _ _ ⟨keep_cell Y2.out d0, keep_cell Y2.out d1, keep_cell Y2.out d2, keep_cell Y2.out d3, keep_cell Y2.out d4, keep_cell Y2.out d5, keep_cell Y2.out e0, keep_cell Y2.out e1, keep_cell Y2.out e2, keep_cell Y2.out e3⟩ (fun hHeld => ?_)
            clear hK K
            try simp only [Act.put, List.setIfInBounds_toArray, List.set_cons_zero, List.set_cons_succ]
            refine wpAnyH_take (i := 14) (oi := ⟨some 77, _, _, _, _, _⟩) (v := ?v119) rfl (by kernel_rfl) (by kernel_rfl) (by kernel_rfl) (fun _ _ _ h => h) (Or.inl ⟨by rfl, ?hy119⟩) (by assumption) ?rest119
            case hy119 => (intro w hSw; (try dsimp only at hSw); go_simp; try with_reducible rfl)
            try simp only [Act.put, List.setIfInBounds_toArray, List.set_cons_zero, List.set_cons_succ]
            refine wpAnyH_ready (rs := [15]) (by kernel_rfl) (by simp) ?_
            refine AllReadyH.cons (o := ⟨some 78, _, _, _, _, _⟩) rfl (fun K hK => ?_) AllReadyH.nil
            go_simp
            refine (CS.call (HC1.out.later Y2.out) (xa, xc, ⟨qs, ql, qo, qh⟩) (by omega) (by simp only; omega) (by simp only; omega)).mono ?_
            rintro e w2 ⟨v2, rfl, hcs⟩
            have HC2 := Lib.hid hcs
            obtain ⟨f0, f1, f2, f3, f4, f5⟩ := box6 hcs.r
            obtain ⟨k0, k1, k2, k3⟩ := box4 hcs.t
            clear hcs
            refine hK.out _ _ ⟨f0, f1, f2, f3, f4, f5, k0, k1, k2, k3⟩ (fun hHeld => ?_)
            clear hK K
            try simp only [Act.put, List.setIfInBounds_toArray, List.set_cons_zero, List.set_cons_succ]
            refine wpAnyH_take (i := 16) (oi := ⟨some 11, _, _, _, _, _⟩) (v := ?v120) rfl (by kernel_rfl) (by kernel_rfl) (by kernel_rfl) (fun _ _ _ h => h) (Or.inl ⟨by rfl, ?hy120⟩) (by assumption) ?rest120
            case hy120 => (intro w hSw; (try dsimp only at hSw); go_simp; try with_reducible rfl)
            try simp only [Act.put, List.setIfInBounds_toArray, List.set_cons_zero, List.set_cons_succ]
            refine wpAnyH_done (by kernel_rfl) ?_ _
            have hR : R2 v2 w2 := by rw [HR2.out]; show Hid (CS W3 lb b6 #[.int .i64 xa, .int .i64 xc, .int .i64 xs, .int .i64 xl, .int .i64 xo, .int .i64 xh] #[.int .i64 ts, .int .i64 tl, .int .i64 tt, .int .i64 th] v2 ((addR (addR (out) (xa, min xc (a - 1), ⟨xs, xl, xo, xh⟩)) (max xa a, min xc b, ⟨qs, ql, qo, qh⟩))) (4 * k + 1 + 1) w2); rw [HM1.out, HM2.out]; exact HC2
            go_wp2_with fail
            go_meet
            exact hR
        case rest =>
        rename World => w2
        rename Value => v2
        rw [HR2.out] at hcut
        have HC2 := hcut
        clear hcut HR2 d0 d1 d2 d3 d4 d5 e0 e1 e2 e3
        obtain ⟨d0, d1, d2, d3, d4, d5⟩ := box6 HC2.out.r
        obtain ⟨e0, e1, e2, e3⟩ := box4 HC2.out.t
        clear e0 e1 e2 e3
        have hb0 : 0 ≤ b + 1 := by omega
        rcases Int.lt_or_le xa (b + 1) with q1 | q1
        · have HM1 := Lib.hid (show max xa (b + 1) = b + 1 by omega)
          go_wp2_with (go_at_call 112; refine (CS.call HC2.out (b + 1, xc, ⟨xs, xl, xo, xh⟩) (by omega) (by simp only; omega) (by simp only; omega)).mono ?_; rintro e w3 ⟨v3, rfl, hcs⟩; have HC3 := Lib.hid hcs; clear hcs)
          refine ⟨⟨k + 1, _, ent, by omega, by go_num, rfl, Lib.hid HC3.out.row, Lib.hid (by have := HC3.out.len; omega), Lib.hid HC3.out.ok, Lib.hid ?_, Lib.hid HC3.out.adds⟩, by simp [intOf]; omega⟩
          have h := hres.out
          rw [chg_out HIN.out] at h
          have e : threeR (out) (xa, xc, ⟨xs, xl, xo, xh⟩) a b (whatF ⟨xs, xl, xo, xh⟩ ⟨ts, tl, tt, th⟩ what) = addR (addR (addR (out) (xa, min xc (a - 1), ⟨xs, xl, xo, xh⟩)) (max xa a, min xc b, ⟨qs, ql, qo, qh⟩)) (b + 1, xc, ⟨xs, xl, xo, xh⟩) := by rw [← HQE.out]; unfold threeR; simp only; rw [HM1.out]
          have h2 : chgGo a b ⟨ts, tl, tt, th⟩ what (L.drop (k + 1)) (threeR (out) (xa, xc, ⟨xs, xl, xo, xh⟩) a b (whatF ⟨xs, xl, xo, xh⟩ ⟨ts, tl, tt, th⟩ what)) ent = RES := h
          rw [e] at h2
          exact h2
        · have HM1 := Lib.hid (show max xa (b + 1) = xa by omega)
          go_wp2_with (go_at_call 112; refine (CS.call HC2.out (xa, xc, ⟨xs, xl, xo, xh⟩) (by omega) (by simp only; omega) (by simp only; omega)).mono ?_; rintro e w3 ⟨v3, rfl, hcs⟩; have HC3 := Lib.hid hcs; clear hcs)
          refine ⟨⟨k + 1, _, ent, by omega, by go_num, rfl, Lib.hid HC3.out.row, Lib.hid (by have := HC3.out.len; omega), Lib.hid HC3.out.ok, Lib.hid ?_, Lib.hid HC3.out.adds⟩, by simp [intOf]; omega⟩
          have h := hres.out
          rw [chg_out HIN.out] at h
          have e : threeR (out) (xa, xc, ⟨xs, xl, xo, xh⟩) a b (whatF ⟨xs, xl, xo, xh⟩ ⟨ts, tl, tt, th⟩ what) = addR (addR (addR (out) (xa, min xc (a - 1), ⟨xs, xl, xo, xh⟩)) (max xa a, min xc b, ⟨qs, ql, qo, qh⟩)) (xa, xc, ⟨xs, xl, xo, xh⟩) := by rw [← HQE.out]; unfold threeR; simp only; rw [HM1.out]
          have h2 : chgGo a b ⟨ts, tl, tt, th⟩ what (L.drop (k + 1)) (threeR (out) (xa, xc, ⟨xs, xl, xo, xh⟩) a b (whatF ⟨xs, xl, xo, xh⟩ ⟨ts, tl, tt, th⟩ what)) ent = RES := h
          rw [e] at h2
          exact h2
    · have hkN : k = N := by omega
      subst hkN
      rw [List.drop_eq_nil_of_le (by have := HN.out; omega)] at hres
      have X6 := HX6.out.later hadd.out
      obtain ⟨e0, e1, e2, e3⟩ := box4 X6
      clear X6
      by_cases hw0 : what = 0
      · have hw0' : (what == 0) = true := beq_iff_eq.2 hw0
        have HW0 := Lib.hid hw0
        clear hw0
        cases ent with
        | true =>
          go_wp2
          go_ret
          refine ⟨u11, rfl, ?_, HA3.out.trans hadd.out⟩
          have h := hres.out
          rw [chg_nil_out (by simp)] at h
          rw [← h]
          exact hrow.out.at
        | false =>
          go_wp2_with (go_at_call 112; refine (add_any W3.heap.size u11 out (a, b, ⟨ts, tl, tt, th⟩) _ hrow.out hadd.out.size (by have := hlo.out; omega) hoko.out).mono ?_; rintro e w9 ⟨v9, rfl, hr9, hg9⟩; have HR9 := Lib.hid hr9; have HG9 := Lib.hid hg9; clear hr9 hg9)
          go_ret
          refine ⟨v9, rfl, ?_, HA3.out.trans (grow_own hadd.out (fun k hk => (hrow.out.lt k hk).1) HG9.out)⟩
          have h := hres.out
          rw [chg_nil_in ⟨HW0.out, rfl⟩] at h
          rw [← h]
          exact HR9.out.at
      · have hw0' : (what == 0) = false := beq_eq_false_iff_ne.2 hw0
        have HW0 := Lib.hid hw0
        clear hw0
        go_wp2
        go_ret
        refine ⟨u11, rfl, ?_, HA3.out.trans hadd.out⟩
        have h := hres.out
        rw [chg_nil_out (fun h => HW0.out h.1)] at h
        rw [← h]
        exact hrow.out.at
end Go.Proofs.Ytofaioabjkcaiaa
