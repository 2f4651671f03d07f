/- tame: at most a given number of bids, each made valid. -/
import Derived.Test.YtigpghmbeldakaaAC
import Derived.Test.YtigpghmbeldakaaAE
import Derived.Deep.RegionHeld3
namespace Go.Proofs.Ytigpghmbeldakaa
open Go.RowKit

/-- A number in one of m. -/
def tnum (a m : Int) : Int := wrap64 (1 + wrap64 ((IntKind.u64.wrap a).tmod m))
/-- A bid made valid. -/
def tameB (b : Bd) : Bd := if okB b then b else (tnum b.1 2, tnum b.2.1 100, tnum b.2.2 100)
/-- Bids made valid. -/
def tameL (l : List Bd) (n : Nat) : List Bd := (l.take n).map tameB

theorem tnum_in (a m : Int) (h1 : 1 ≤ m) (h2 : m ≤ 1000) : 1 ≤ tnum a m ∧ tnum a m ≤ m := by
  have h0 : 0 ≤ IntKind.u64.wrap a := by
    have : IntKind.u64.wrap a = a % 18446744073709551616 := by simp [IntKind.wrap, IntKind.signed, IntKind.bits]
    omega
  have k1 := Int.tmod_nonneg m h0
  have k2 := Int.tmod_lt_of_pos (IntKind.u64.wrap a) (show 0 < m by omega)
  unfold tnum
  generalize (IntKind.u64.wrap a).tmod m = y at *
  unfold wrap64
  omega
theorem tameB_ok (b : Bd) : okB (tameB b) = true := by
  unfold tameB
  split
  · assumption
  · have h1 := tnum_in b.1 2 (by omega) (by omega)
    have h2 := tnum_in b.2.1 100 (by omega) (by omega)
    have h3 := tnum_in b.2.2 100 (by omega) (by omega)
    rw [okB_iff]
    refine ⟨?_, ⟨h2.1, by simp only; omega⟩, h3.1, by simp only; omega⟩
    simp only
    omega
theorem tameL_ok (l : List Bd) (n : Nat) : ∀ b ∈ tameL l n, okB b = true := by
  intro b hb
  obtain ⟨x, _, rfl⟩ := List.mem_map.1 hb
  exact tameB_ok x
theorem tameL_len (l : List Bd) (n : Nat) : (tameL l n).length = min n l.length := by simp [tameL]

theorem RowT.far {t : TypeId} {w : World} {g cap : Nat} {l : List (Int × Int × Int)} (h : RowT t w g cap l) {p : Addr} (hp : g ≠ p.block) (u : Value) : RowT t (w.setCell p u) g cap l := h.same (Below.heap_setCell w p u g hp)

/-- The row behind k rounds. -/
def tameK (m : List Bd) (k : Nat) : List Bd := (m.take k).map tameB ++ m.drop k
theorem tameK_len (m : List Bd) (k : Nat) : (tameK m k).length = m.length := by simp [tameK]; omega
theorem tameK_get {m : List Bd} {k : Nat} (hk : k < m.length) : (tameK m k)[k]? = m[k]? := by
  unfold tameK
  rw [List.getElem?_append_right (by simp; omega)]
  simp [Nat.min_eq_left (Nat.le_of_lt hk)]
theorem tameK_next {m : List Bd} {k : Nat} {b : Bd} (hb : m[k]? = some b) : (tameK m k).set k (tameB b) = tameK m (k + 1) := by
  have hk := (List.getElem?_eq_some_iff.1 hb).1
  unfold tameK
  rw [take_next hb, List.map_append, List.append_assoc, List.set_append_right _ _ (by simp; omega)]
  congr 1
  have e : m.drop k = b :: m.drop (k + 1) := by
    rw [List.drop_eq_getElem_cons hk]
    congr 1
    exact (List.getElem?_eq_some_iff.1 hb).2
  rw [e]
  simp [Nat.min_eq_left (Nat.le_of_lt hk)]

set_option maxRecDepth 100000 in
set_option maxHeartbeats 2000000 in
theorem tame_any (p : Option Addr) (cap : Nat) (l : List Bd) (most : Nat) (w : World) (hcap : l.length ≤ cap) (hcm : cap ≤ maxLen) (hp : p = none → cap = 0) (hM : most ≤ 5000) (hL : At3 w p l) :
    Calls Try.prog 26 #[.slice p l.length cap, .int .i64 most] w (OwnGot 61 (tameL l most) w) := by
  have hsome := some_any p cap l most w hcap hcm hp hM hL
  obtain ⟨m, hm⟩ : ∃ m, m = l.take most := ⟨_, rfl⟩
  have HM : Hid (tameL l most = m.map tameB) := Lib.hid (by rw [hm]; rfl)
  have hml : m.length ≤ 5000 := by rw [hm, List.length_take]; omega
  rw [← hm] at hsome
  generalize l.length = N at *
  clear hp hL hcap hcm
  go_enter Try.func26, Try.ntmps26
  go_wp2_with (go_at_call 14; refine hsome.mono ?_; rintro e w1 ⟨v, rfl, hro, hb1⟩; have HRO := Lib.hid hro; have HB1 := Lib.hid hb1; clear hro hb1)
  rcases (own_rowT HRO.out).2 with ⟨rfl, he⟩ | ⟨g, gc, rfl, hbg, hrow⟩
  · have HE : Hid (m.map tameB = []) := Lib.hid (by rw [he]; rfl)
    go_loopw [6] (fun i wr => i = .int .i64 0 ∧ wr = w1) (fun i _ => 0)
    case atStart => exact ⟨rfl, rfl⟩
    case round =>
      obtain ⟨rfl, rfl⟩ := hrel
      go_wp2
      go_ret
      exact ⟨.slice none 0 0, rfl, by rw [HM.out, HE.out]; exact World.ownsRow_nil _ _ _ _, HB1.out⟩
  · have HBG := Lib.hid hbg
    have HROW := Lib.hid hrow
    have hlt := hrow.lt
    obtain ⟨n, hn⟩ : ∃ n, n = m.length := ⟨_, rfl⟩
    have HN := Lib.hid hn
    have hn5 : n ≤ 5000 := by omega
    rw [← hn]
    clear hrow hbg hml hn
    go_loopw [6] (fun i wr => ∃ k : Nat, k ≤ n ∧ i = .int .i64 k ∧ Hid (RowT 61 wr g gc (tameK m k)) ∧ Adds w wr) (fun i _ => n - (intOf i).toNat)
    case atStart => exact ⟨0, by omega, rfl, Lib.hid (by simpa [tameK] using HROW.out), HB1.out⟩
    case round =>
      obtain ⟨k, hk, rfl, hr, hb⟩ := hrel
      by_cases hltk : k < n
      · obtain ⟨⟨s, pp, q⟩, hb3⟩ : ∃ t, m[k]? = some t := ⟨_, List.getElem?_eq_getElem (by have := HN.out; omega)⟩
        have hkm : k < m.length := by have := HN.out; omega
        obtain ⟨_, _, he, c0, c1, c2⟩ := hr.out.at3 k _ ((tameK_get hkm).trans hb3)
        cases he
        simp only [Nat.zero_add] at c0 c1 c2
        have hgw := hr.out.lt
        have f0 := hr.out.free (k * 3)
        have f1 := hr.out.free (k * 3 + 1)
        have f2 := hr.out.free (k * 3 + 2)
        have X := Box.new wr #[.int .i64 s, .int .i64 pp, .int .i64 q] 61
        have hc := fun W => Valid_any s pp q W
        have hpl : (tameK m k).length = n := by rw [tameK_len]; exact HN.out.symm
        have HPL := Lib.hid hpl
        have HNX := Lib.hid (tameK_next hb3)
        have HB := Lib.hid hb
        have HKM := Lib.hid hkm
        clear hb3 hkm hpl hb
        cases ht : okB (s, pp, q) with
        | true =>
          rw [ht] at hc
          have HT : Hid (tameB (s, pp, q) = (s, pp, q)) := Lib.hid (by unfold tameB; rw [if_pos ht])
          clear ht
          go_wp2_with (go_at_call 39; refine (hc _).mono ?_; rintro e w2 ⟨rfl, hb2⟩; have A2 : Adds wr w2 := ((Adds.refl wr).alloc _).trans hb2; have d0' := keep_cell A2 c0; have d1' := keep_cell A2 c1; have d2' := keep_cell A2 c2; have f0' := keep_free A2 c0 f0; have f1' := keep_free A2 c1 f1; have f2' := keep_free A2 c2 f2; have X2 := X.later hb2; have x0 := X2.cell 0; have x1 := X2.cell 1; have x2 := X2.cell 2; have y0 := X2.free 0; have y1 := X2.free 1; have y2 := X2.free 2; simp only [List.getElem?_toArray, List.getElem?_cons_zero, List.getElem?_cons_succ] at x0 x1 x2; have HA2 := Lib.hid A2; have HX2 := Lib.hid X2; clear X2 A2 hb2)
          refine ⟨⟨k + 1, by omega, by go_num, Lib.hid ?_, (((HB.out.trans HA2.out).set HBG.out _).set HBG.out _).set HBG.out _⟩, by simp [intOf]; omega⟩
          rw [← HNX.out, HT.out]
          exact (hr.out.later HA2.out).put (by rw [HPL.out]; exact hltk) (s, pp, q)
        | false =>
          rw [ht] at hc
          have HT : Hid (tameB (s, pp, q) = (tnum s 2, tnum pp 100, tnum q 100)) := Lib.hid (by unfold tameB; rw [if_neg (by simpa using ht)])
          clear ht
          go_wp2_with (go_at_call 39; refine (hc _).mono ?_; rintro e w2 ⟨rfl, hb2⟩; have A2 : Adds wr w2 := ((Adds.refl wr).alloc _).trans hb2; have d0' := keep_cell A2 c0; have d1' := keep_cell A2 c1; have d2' := keep_cell A2 c2; have f0' := keep_free A2 c0 f0; have f1' := keep_free A2 c1 f1; have f2' := keep_free A2 c2 f2; have X2 := X.later hb2; have x0 := X2.cell 0; have x1 := X2.cell 1; have x2 := X2.cell 2; have y0 := X2.free 0; have y1 := X2.free 1; have y2 := X2.free 2; simp only [List.getElem?_toArray, List.getElem?_cons_zero, List.getElem?_cons_succ] at x0 x1 x2; have HA2 := Lib.hid A2; have HX2 := Lib.hid X2; clear X2 A2 hb2)
          have hwz : w.heap.size ≤ wr.heap.size := HB.out.size
          have hgn : g ≠ wr.heap.size := by omega
          refine ⟨⟨k + 1, by omega, by go_num, Lib.hid ?_, ((((((HB.out.trans HA2.out).set hwz _).set hwz _).set hwz _).set HBG.out _).set HBG.out _).set HBG.out _⟩, by simp [intOf]; omega⟩
          rw [← HNX.out, HT.out]
          exact ((((hr.out.later HA2.out).far hgn _).far hgn _).far hgn _).put (by rw [HPL.out]; exact hltk) (tnum s 2, tnum pp 100, tnum q 100)
      · have hkn : k = n := by omega
        have hfull : tameK m k = m.map tameB := by
          unfold tameK
          rw [List.take_of_length_le (by have := HN.out; omega), List.drop_of_length_le (by have := HN.out; omega), List.append_nil]
        rw [hfull] at hr
        have HO := Lib.hid (hr.out.own HBG.out)
        have HLEN : Hid ((m.map tameB).length = n) := Lib.hid (by rw [List.length_map]; exact HN.out.symm)
        subst hkn
        clear hfull
        go_wp2
        go_ret
        refine ⟨_, rfl, ?_, hb⟩
        have := HO.out
        rw [HLEN.out] at this
        rw [HM.out, HLEN.out]
        exact this
end Go.Proofs.Ytigpghmbeldakaa
