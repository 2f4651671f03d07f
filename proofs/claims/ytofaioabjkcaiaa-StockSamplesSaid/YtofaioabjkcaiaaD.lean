/- with. -/
import Derived.Test.YtofaioabjkcaiaaC
namespace Go.Proofs.Ytofaioabjkcaiaa
open Go.RowKit

/-- Two cells that lie one behind the other. -/
def TwoAt (w : World) (b : Nat) (x y : Int) : Prop := w.cell? ⟨b, 0, none⟩ = some (.int .i64 x) ∧ w.cell? ⟨b, 1, none⟩ = some (.int .i64 y)

theorem TwoAt.later {w w' : World} {b : Nat} {x y : Int} (h : TwoAt w b x y) (hb : Adds w w') : TwoAt w' b x y := by
  have k : b < w.heap.size := cell_lt h.1
  have e : ∀ o, w'.cell? ⟨b, o, none⟩ = w.cell? ⟨b, o, none⟩ := fun o => hb.cell (p := ⟨b, o, none⟩) k
  unfold TwoAt at *
  simp only [e]
  exact h

theorem keep_cell {w w' : World} (hb : Adds w w') {b o : Nat} {v : Value} (h : w.cell? ⟨b, o, none⟩ = some v) : w'.cell? ⟨b, o, none⟩ = some v :=
  (hb.cell (p := ⟨b, o, none⟩) (cell_lt h)).trans h

theorem bcell {W w1 : World} (hb : Below W.heap.size W w1) : (∀ b o, b < W.heap.size → w1.cell? ⟨b, o, none⟩ = W.cell? ⟨b, o, none⟩) ∧ (∀ b o, b < W.heap.size → w1.frozen? ⟨b, o, none⟩ = W.frozen? ⟨b, o, none⟩) :=
  ⟨fun b o h => hb.cell (p := ⟨b, o, none⟩) h, fun b o h => hb.frozen (p := ⟨b, o, none⟩) h⟩

/-- The first region of 'with' and of 'pieces' gives this. -/
def Begun (w : World) (lo hi a c : Int) (s7 : Value) (wc : World) : Prop :=
  ∃ x, s7 = .pointer (some ⟨x, 0, none⟩) ∧ TwoAt wc x (max lo a) (min hi c) ∧ TwoAt wc w.heap.size a c ∧ Adds w wc

/-- What is known of the function that changes a pocket. -/
structure Changer (w0 : World) (g : Nat) (lb : Array Value) (F : Pk → Pk) : Prop where
  enter : ∀ (args : Array Value) (w : World), (callFunc g args).run Try.prog w = .ok (.enter g args) w
  call : ∀ (q : Pk) (w1 : World), Adds w0 w1 → Calls Try.prog g (#[q.val] ++ lb) w1 fun e w2 => e = .returned (F q).val ∧ Adds w1 w2

/-- What 'with' gives. -/
def Withed (w : World) (t : Tree) (lo hi a c : Int) (F : Pk → Pk) (e : Ending) (w' : World) : Prop :=
  ∃ b' t', e = .returned (.pointer (some ⟨b', 0, none⟩)) ∧ IsTree w' b' t' ∧ t'.ok lo hi ∧ (∀ n, lo ≤ n → n ≤ hi → t'.look n = if a ≤ n ∧ n ≤ c then F (t.look n) else t.look n) ∧ Adds w w'

set_option maxRecDepth 100000 in
set_option maxHeartbeats 1000000 in
theorem with_out (b g : Nat) (lb : Array Value) (F : Pk → Pk) (t : Tree) (lo hi a c : Int) (w : World) (ht : IsTree w b t) (hok : t.ok lo hi) (h1 : 1 ≤ lo) (h3 : hi ≤ 1000000) (ha : 1 ≤ a) (hc : c ≤ 1000000) (ha2 : a ≤ 1000000) (hc2 : 1 ≤ c)
    (hout : c < lo ∨ hi < a) :
    Calls Try.prog 106 #[.pointer (some ⟨b, 0, none⟩), .agg #[.int .i64 a, .int .i64 c], .func (.func g) #[] lb] w (Withed w t lo hi a c F) := by
  have HT := Lib.hid ht
  have HOK := Lib.hid hok
  have hle := Tree.ok_le hok
  have hn : ∃ p l r, NodeAt w b lo hi p l r := by
    cases t with
    | leaf x y p => obtain ⟨rfl, rfl, _⟩ := hok; exact ⟨p, none, none, ht⟩
    | node x y p l r => obtain ⟨rfl, rfl, _⟩ := hok; obtain ⟨bl, br, h, _⟩ := ht; exact ⟨p, _, _, h⟩
  clear ht hok
  obtain ⟨p, l, r, c0, c1, c2, c3, c4, c5, c6, c7, _⟩ := hn
  have hlt := cell_lt c0
  have hsz : min hi c - max lo a + 1 < 1 := by omega
  have hz1 : -1000000 ≤ min hi c := by omega
  have hz2 : min hi c ≤ 1000000 := by omega
  have hz3 : -1000000 ≤ max lo a := by omega
  have hz4 : max lo a ≤ 1000000 := by omega
  go_enter Try.func106, Try.ntmps106
  go_wp2_with fail
  have HP : TwoAt (w.alloc (.cells #[.int .i64 a, .int .i64 c] 124)) w.heap.size a c := by constructor <;> go_simp
  go_cut [7] (fun s7 wc => Begun w lo hi a c s7 wc)
  case first =>
    go_region_held3 (fun w' => w'.cell? ⟨b, 0, none⟩ = some (.int .i64 lo) ∧ w'.cell? ⟨b, 1, none⟩ = some (.int .i64 hi) ∧ w'.cell? ⟨w.heap.size, 0, none⟩ = some (.int .i64 a) ∧ w'.cell? ⟨w.heap.size, 1, none⟩ = some (.int .i64 c))
      (first | (go_keep; done) | (refine ⟨keep_cell ?_ c0, keep_cell ?_ c1, keep_cell ?_ HP.1, keep_cell ?_ HP.2⟩ <;> repeat (first | exact Adds.refl _ | exact hb | exact hb5 | exact hb6 | apply Adds.drew | apply Adds.drewN | apply Adds.alloc | refine Adds.set ?_ (by first | (simp; done) | (simp; omega)) _ | refine Adds.trans ?_ hb | refine Adds.trans ?_ hb5 | refine Adds.trans ?_ hb6)) | ((repeat' apply And.intro) <;> go_keep))
      ((go_simp; go_at_call 114; refine (common_any lo hi a c _).mono ?_; rintro e w1 ⟨rfl, hb⟩; obtain ⟨hc, hf⟩ := bcell hb))
    all_goals
      go_wp2_with fail
      go_meet
      exact ⟨_, rfl, ⟨by go_simp, by go_simp⟩, HP.later (by repeat (first | exact Adds.refl _ | exact hb | exact hb5 | exact hb6 | apply Adds.drew | apply Adds.drewN | apply Adds.alloc | refine Adds.set ?_ (by first | (simp; done) | (simp; omega)) _ | refine Adds.trans ?_ hb | refine Adds.trans ?_ hb5 | refine Adds.trans ?_ hb6)), by repeat (first | exact Adds.refl _ | exact hb | exact hb5 | exact hb6 | apply Adds.drew | apply Adds.drewN | apply Adds.alloc | refine Adds.set ?_ (by first | (simp; done) | (simp; omega)) _ | refine Adds.trans ?_ hb | refine Adds.trans ?_ hb5 | refine Adds.trans ?_ hb6)⟩
  case rest =>
    obtain ⟨x, rfl, ⟨x0, x1⟩, _, hb⟩ := hcut
    go_wp2_with (go_at_call 67; refine (count_any _ _ _ (by omega) (by omega) (by omega) (by omega)).mono ?_; rintro e w1 ⟨rfl, hb1⟩)
    go_ret
    exact ⟨b, t, rfl, (HT.out.later hb).later hb1, HOK.out, fun n k1 k2 => by rw [if_neg (by omega)], hb.trans hb1⟩

end Go.Proofs.Ytofaioabjkcaiaa
