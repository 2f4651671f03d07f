/- greatest: the greatest of some numbers. -/
import Derived.Test.YtmkpidipoadnbaaW08
namespace Go.Proofs.Ytmkpidipoadnbaa
open Go Go.RowKit Go.Sort

def greatT (x : Int) (l : List Int) : Int := l.foldl max x
theorem great_next {x : Int} {l : List Int} {k : Nat} {y : Int} (h : l[k]? = some y) : greatT x (l.take (k + 1)) = max (greatT x (l.take k)) y := by
  obtain ⟨hk, he⟩ := List.getElem?_eq_some_iff.1 h
  rw [List.take_succ_eq_append_getElem hk, he]
  simp [greatT, List.foldl_append]

set_option maxRecDepth 100000 in
set_option maxHeartbeats 4000000 in
theorem greatest_any (x : Int) (base c : Nat) (p : Option Addr) (l : List Int) (w : World) (hr : RowW w base (.slice p l.length c) l) (hn : l.length ≤ 1000) :
    Calls Try.prog 57 #[wideV x, .slice p l.length c] w fun e w' => e = .returned (wideV (greatT x l)) ∧ Adds w w' := by
  have HR := Lib.hid hr
  obtain ⟨n, hnn⟩ : ∃ n, n = l.length := ⟨_, rfl⟩
  rw [← hnn] at hn ⊢
  have HN := Lib.hid hnn
  unfold wideV
  obtain ⟨xa, hxa⟩ : ∃ a, a = hiW x := ⟨_, rfl⟩
  obtain ⟨xb, hxb⟩ : ∃ a, a = loW x := ⟨_, rfl⟩
  rw [← hxa, ← hxb]
  have HXA := Lib.hid hxa
  have HXB := Lib.hid hxb
  clear hr hnn hxa hxb
  go_enter Try.func57, Try.ntmps57
  go_upto_region 2 with fail
  have k0 := (Box.new w #[.int .i64 xa, .int .u64 xb] 89).alloc (.cells #[.int .i64 0, .int .u64 0] 89)
  have k1 := Box.new (w.alloc (.cells #[.int .i64 xa, .int .u64 xb] 89)) #[.int .i64 0, .int .u64 0] 89
  have hA : Adds w ((w.alloc (.cells #[.int .i64 xa, .int .u64 xb] 89)).alloc (.cells #[.int .i64 0, .int .u64 0] 89)) := ((Adds.refl w).alloc _).alloc _
  rw [World.size_alloc] at k1
  obtain ⟨W, hW⟩ : ∃ V, V = (w.alloc (.cells #[.int .i64 xa, .int .u64 xb] 89)).alloc (.cells #[.int .i64 0, .int .u64 0] 89) := ⟨_, rfl⟩
  rw [← hW] at k0 k1 hA ⊢
  have HA := Lib.hid hA
  obtain ⟨s, hs⟩ : ∃ s, s = w.heap.size := ⟨_, rfl⟩
  rw [← hs] at k0 k1 ⊢
  have K0 := Lib.hid k0
  have K1 := Lib.hid k1
  have HS := Lib.hid hs
  clear hW hA hs k0 k1
  go_loopw [9] (fun v9 wr => ∃ k : Nat, k ≤ n ∧ v9 = .int .i64 k ∧ Hid (Box wr s #[.int .i64 (hiW (greatT x (l.take k))), .int .u64 (loW (greatT x (l.take k)))] 89) ∧ Hid (Box wr (s + 1) #[.int .i64 0, .int .u64 0] 89) ∧ Hid (Adds w wr)) (fun v9 _ => n - (intOf v9).toNat)
  case atStart => exact ⟨0, by omega, rfl, Lib.hid (by rw [List.take_zero, show greatT x [] = x from rfl, ← HXA.out, ← HXB.out]; exact K0.out), K1, HA⟩
  case round =>
    obtain ⟨k, hk, rfl, R0, R1, RA⟩ := hrel
    clear K0 K1 HA
    by_cases hlt : k < n
    · have hlt2 : (k : Int) < (n : Int) := by omega
      have hk0 : (0 : Int) ≤ (k : Int) := by omega
      obtain ⟨y, hy⟩ : ∃ y, l[k]? = some y := ⟨_, List.getElem?_eq_getElem (by have := HN.out; omega)⟩
      have HNX := Lib.hid (great_next (x := x) hy)
      have hrow := own_later HR.out RA.out
      obtain ⟨g, c', e1, _⟩ := own_some hrow (by have := HN.out; omega)
      simp only [Value.slice.injEq] at e1
      obtain ⟨rfl, -, rfl⟩ := e1
      have q0 : wr.cell? ⟨g, k * 2, none⟩ = some (.int .i64 (hiW y)) := (own_cell hrow (flat_get (j := 0) encW_len hy (by omega))).1
      have q1 : wr.cell? ⟨g, k * 2 + 1, none⟩ = some (.int .u64 (loW y)) := (own_cell hrow (flat_get (j := 1) encW_len hy (by omega))).1
      obtain ⟨z, hz⟩ : ∃ z, z = greatT x (l.take k) := ⟨_, rfl⟩
      rw [← hz] at R0 HNX
      have HZ := Lib.hid hz
      have HMX := Lib.hid (fun w => max_any z y w)
      unfold wideV at HMX
      rw [← HNX.out] at HMX
      clear hy hrow hz
      go_upto_region 4 with fail
      have kx := Box.new wr #[.int .i64 (hiW y), .int .u64 (loW y)] 89
      have hAX : Adds wr (wr.alloc (.cells #[.int .i64 (hiW y), .int .u64 (loW y)] 89)) := (Adds.refl wr).alloc _
      obtain ⟨W2, hW2⟩ : ∃ V, V = wr.alloc (.cells #[.int .i64 (hiW y), .int .u64 (loW y)] 89) := ⟨_, rfl⟩
      rw [← hW2] at kx hAX ⊢
      obtain ⟨X, hX⟩ : ∃ X, X = wr.heap.size := ⟨_, rfl⟩
      rw [← hX] at kx ⊢
      have HAX := Lib.hid hAX
      have d0 : W2.cell? ⟨X, 0, none⟩ = some (.int .i64 (hiW y)) := kx.cell 0
      have d1 : W2.cell? ⟨X, 1, none⟩ = some (.int .u64 (loW y)) := kx.cell 1
      have d2 : W2.cell? ⟨s, 0, none⟩ = some (.int .i64 (hiW z)) := (R0.out.later hAX).cell 0
      have d3 : W2.cell? ⟨s, 1, none⟩ = some (.int .u64 (loW z)) := (R0.out.later hAX).cell 1
      clear hW2 hX kx hAX q0 q1
      go_wp2_with (go_at_call 70; refine (HMX.out _).mono ?_; rintro e w4 ⟨rfl, ha⟩; have hx := HAX.out.trans ha; have HA4 := Lib.hid hx; have f0 : w4.cell? ⟨s, 0, none⟩ = some (.int .i64 (hiW z)) := (R0.out.later hx).cell 0; have f1 : w4.cell? ⟨s, 1, none⟩ = some (.int .u64 (loW z)) := (R0.out.later hx).cell 1; have f2 : w4.frozen? ⟨s, 0, none⟩ = false := (R0.out.later hx).free 0; have f3 : w4.frozen? ⟨s, 1, none⟩ = false := (R0.out.later hx).free 1; clear ha hx)
      exact ⟨⟨k + 1, by omega, by go_num, Lib.hid (((R0.out.later HA4.out).set 0 _).set 1 _), Lib.hid (((R1.out.later HA4.out).far (by show s + 1 ≠ s; omega) _).far (by show s + 1 ≠ s; omega) _), Lib.hid (((RA.out.trans HA4.out).set (by have := HS.out; show _ ≤ s; omega) _).set (by have := HS.out; show _ ≤ s; omega) _)⟩, by simp [intOf]; omega⟩
    · have hkk : k = n := by omega
      subst hkk
      have hdq : decide ((k : Int) < (k : Int)) = false := decide_eq_false (by omega)
      have e1 : l.take k = l := List.take_of_length_le (by have := HN.out; omega)
      rw [e1] at R0
      clear e1 hlt
      have d2 : wr.cell? ⟨s, 0, none⟩ = some (.int .i64 (hiW (greatT x l))) := R0.out.cell 0
      have d3 : wr.cell? ⟨s, 1, none⟩ = some (.int .u64 (loW (greatT x l))) := R0.out.cell 1
      have g0 : wr.cell? ⟨s + 1, 0, none⟩ = some (.int .i64 0) := R1.out.cell 0
      have g1 : wr.cell? ⟨s + 1, 1, none⟩ = some (.int .u64 0) := R1.out.cell 1
      have g4 : wr.frozen? ⟨s + 1, 0, none⟩ = false := R1.out.free 0
      have g5 : wr.frozen? ⟨s + 1, 1, none⟩ = false := R1.out.free 1
      go_wp2
      exact post_wide rfl rfl rfl ((R1.out.set 0 _).set 1 _) ⟨rfl, (RA.out.set (by have := HS.out; show _ ≤ s + 1; omega) _).set (by have := HS.out; show _ ≤ s + 1; omega) _⟩

end Go.Proofs.Ytmkpidipoadnbaa
