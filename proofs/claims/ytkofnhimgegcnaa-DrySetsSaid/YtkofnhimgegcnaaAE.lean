/- Rows of loads: some, give. -/
import Derived.Test.YtkofnhimgegcnaaAD
namespace Go.Proofs.Ytkofnhimgegcnaa
open Go Go.RowKit Go.Sort

/-- A load as cells. -/
def enc4 (x : Ld) : List Value := [.int .i64 x.1, .int .i64 x.2.1, .int .i64 x.2.2.1, .int .i64 x.2.2.2]

theorem flat4_len : ∀ (l : List Ld), (l.flatMap enc4).length = l.length * 4
  | [] => rfl
  | x :: l => by rw [List.flatMap_cons, List.length_append, flat4_len l]; simp [enc4]; omega

theorem flat4_cell : ∀ {l : List Ld} (k : Nat) (x : Ld), l[k]? = some x → (l.flatMap enc4)[k * 4]? = some (.int .i64 x.1) ∧ (l.flatMap enc4)[k * 4 + 1]? = some (.int .i64 x.2.1) ∧ (l.flatMap enc4)[k * 4 + 2]? = some (.int .i64 x.2.2.1) ∧ (l.flatMap enc4)[k * 4 + 3]? = some (.int .i64 x.2.2.2) := by
  intro l
  induction l with
  | nil => intro k x h; simp at h
  | cons y l ih =>
    intro k x h
    cases k with
    | zero => simp at h; subst h; exact ⟨rfl, rfl, rfl, rfl⟩
    | succ k =>
      obtain ⟨h1, h2, h3, h4⟩ := ih k x (by simpa using h)
      rw [show (k + 1) * 4 = k * 4 + 1 + 1 + 1 + 1 by omega]
      simp only [List.flatMap_cons, enc4, List.cons_append, List.nil_append, List.getElem?_cons_succ]
      exact ⟨h1, h2, h3, h4⟩

theorem loads_flat {w : World} {g : Nat} : ∀ {l : List Ld} {off : Nat}, LoadsAt w (some ⟨g, off, none⟩) l → ∀ j u, (l.flatMap enc4)[j]? = some u → w.cell? ⟨g, off + j, none⟩ = some u
  | [], off, _, j, u, h => by simp at h
  | x :: l, off, hL, j, u, h => by
    obtain ⟨g', o', e, h0, h1, h2, h3⟩ := hL 0 x rfl
    injection e with e
    injection e with e1 e2
    subst e1; subst e2
    rw [Nat.zero_mul, Nat.add_zero] at h0 h1 h2 h3
    have hL' : LoadsAt w (some ⟨g, off + 4, none⟩) l := fun i y hy => by
      obtain ⟨g', o', e, k0, k1, k2, k3⟩ := hL (i + 1) y (by simpa using hy)
      injection e with e
      injection e with e1 e2
      subst e1; subst e2
      refine ⟨g, off + 4, rfl, ?_⟩
      rw [show off + (i + 1) * 4 = off + 4 + i * 4 by omega] at k0 k1 k2 k3
      exact ⟨k0, k1, k2, k3⟩
    have ih := loads_flat hL'
    simp only [List.flatMap_cons, enc4, List.cons_append, List.nil_append] at h
    match j, h with
    | 0, h => simp at h; subst h; exact h0
    | 1, h => simp at h; subst h; exact h1
    | 2, h => simp at h; subst h; exact h2
    | 3, h => simp at h; subst h; exact h3
    | j + 4, h =>
      have := ih j u (by simpa using h)
      rw [show off + (j + 4) = off + 4 + j by omega]
      exact this

theorem flat4_one (l : List Ld) : ∀ u ∈ l.flatMap enc4, u.oneCell' = true := fun u hu => by
  rw [List.mem_flatMap] at hu
  obtain ⟨x, _, hx⟩ := hu
  simp [enc4] at hx
  rcases hx with rfl | rfl | rfl | rfl <;> rfl

/-- A row of loads of the call's own, of either type. -/
def Loads (w : World) (t base : Nat) (v : Value) (l : List Ld) : Prop := w.ownsRow base t 4 v l.length (l.flatMap enc4)

theorem Loads.at {w : World} {t base c : Nat} {p : Option Addr} {l : List Ld} (h : Loads w t base (.slice p l.length c) l) : LoadsAt w p l := fun i x hx => by
  have hi := (List.getElem?_eq_some_iff.1 hx).1
  obtain ⟨g, cap, e, _⟩ := own_some h (by omega)
  simp only [Value.slice.injEq] at e
  obtain ⟨rfl, -, rfl⟩ := e
  obtain ⟨f0, f1, f2, f3⟩ := flat4_cell i x hx
  refine ⟨g, 0, rfl, ?_⟩
  rw [Nat.zero_add]
  exact ⟨(own_cell h f0).1, (own_cell h f1).1, (own_cell h f2).1, (own_cell h f3).1⟩

theorem info72 : (Try.prog.info? 72).map (fun i => (i.zero, i.size, i.bytes)) = some (some (.agg #[.int .i64 0, .int .i64 0, .int .i64 0, .int .i64 0]), 4, 32) := by kernel_rfl
theorem info84 : (Try.prog.info? 84).map (fun i => (i.zero, i.size, i.bytes)) = some (some (.agg #[.int .i64 0, .int .i64 0, .int .i64 0, .int .i64 0]), 4, 32) := by kernel_rfl

theorem addr_add2 (g o j : Nat) : (⟨g, o, none⟩ : Addr).add j = ⟨g, o + j, none⟩ := by unfold Addr.add; split <;> simp_all

set_option maxRecDepth 100000 in
set_option maxHeartbeats 1000000 in
theorem some_any (p : Option Addr) (cl most : Nat) (l : List Ld) (w : World) (hL : LoadsAt w p l) (hm : most ≤ 1000) (hcl : l.length ≤ cl) (_hmx : cl ≤ maxLen) :
    Calls Try.prog 38 #[.slice p l.length cl, .int .i64 most] w fun e w' => ∃ c q, e = .returned (.slice q (l.take most).length c) ∧ Loads w' 72 w.heap.size (.slice q (l.take most).length c) (l.take most) ∧ Adds w w' := by
  obtain ⟨i0, hi, hi0, hi1, hi2⟩ := info_parts info72
  have HI := Lib.hid hi
  have HI0 := Lib.hid hi0
  have HI1 := Lib.hid hi1
  have HI2 := Lib.hid hi2
  obtain ⟨n, hn⟩ : ∃ n, n = l.length := ⟨_, rfl⟩
  obtain ⟨m, hm2⟩ : ∃ m, m = (l.take most).length := ⟨_, rfl⟩
  have hmin : m = min most n := by rw [hm2, hn, List.length_take]
  have hmn : m ≤ n := by omega
  have hmz : min (n : Int) (most : Int) = (m : Int) := by omega
  rw [← hm2, ← hn]
  have HM := Lib.hid hm2
  have HN := Lib.hid hn
  rw [← hn] at hcl
  have HL := Lib.hid hL
  clear hi hi0 hi1 hi2 hL hm2 hn
  have hmcl : (m : Int) ≤ (cl : Int) := by omega
  have hm0 : (0 : Int) ≤ (m : Int) := by omega
  clear hmin
  go_enter Try.func38, Try.ntmps38
  by_cases hz : m = 0
  · have HE : Hid (l.take most = []) := Lib.hid (List.length_eq_zero_iff.1 (HM.out.symm.trans hz))
    have HSR : Hid (Src Try.prog i0.size 22 (.slice p 0 cl) 0 [] w) := Lib.hid (by
      cases p with
      | none => exact Src.ofNil w Try.underlying22 cl
      | some a => exact Src.ofSlice w Try.underlying22 a 0 cl [] (by simp) (fun j u hj => by simp at hj) (fun u hu => by cases hu))
    subst hz
    go_upto_region 2 with fail
    go_wp2_with (at_builtin; refine wpList_append_nil (P := Try.prog) rfl _ _ 22 rfl 72 i0 Try.underlying22 HI.out none 0 0 (Nat.le_refl _) rfl _ HSR.out rfl ?_)
    go_ret
    refine ⟨0, none, rfl, ?_, Adds.refl _⟩
    unfold Loads
    rw [HE.out]
    exact World.ownsRow_nil _ _ _ _
  · obtain ⟨x, hx⟩ : ∃ x, l[0]? = some x := ⟨_, List.getElem?_eq_getElem (by have := HN.out; omega)⟩
    obtain ⟨g, off, rfl, _⟩ := HL.out 0 x hx
    have hpos : 0 < m := by omega
    have HTK : Hid (LoadsAt w (some ⟨g, off, none⟩) (l.take most)) := Lib.hid (fun i y hy => by
      rw [List.getElem?_take] at hy
      split at hy
      · exact HL.out i y hy
      · cases hy)
    clear hx hz
    go_upto_region 2 with fail
    go_wp2_with (at_builtin; ((refine wpList_append_lies _ rfl _ _ 22 rfl w.heap.size 72 i0 (.agg #[.int .i64 0, .int .i64 0, .int .i64 0, .int .i64 0]) 4 32 Try.underlying22 HI.out HI0.out HI1.out HI2.out rfl (by decide) (.slice none 0 0) 0 [] rfl (World.ownsRow_nil _ _ _ _) ⟨g, off, none⟩ m cl ((l.take most).flatMap enc4) rfl (by rw [flat4_len, HM.out]) (fun j u hj => by rw [addr_add2]; exact loads_flat HTK.out j u hj) (flat4_one _) hpos (by unfold maxLen; omega) (by omega) (Nat.le_refl _) w.heap.size rfl ?_); intro g6 c6 w6 ho6 hg6 hl6 hs6; have HO6 := Lib.hid ho6; have HG6 := Lib.hid hg6; clear ho6 hg6 hl6))
    go_ret
    refine ⟨c6, some ⟨g6, 0, none⟩, rfl, ?_, (Adds.refl w).grown HG6.out (Nat.le_refl _) (fun j hj => by cases hj)⟩
    have := HO6.out
    rw [Nat.zero_add, List.nil_append] at this
    unfold Loads
    rw [← HM.out]
    exact this

end Go.Proofs.Ytkofnhimgegcnaa
