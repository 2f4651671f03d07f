/- with, the rest. -/
import Derived.Test.YtofaioabjkcaiaaD
namespace Go.Proofs.Ytofaioabjkcaiaa
open Go.RowKit

set_option maxRecDepth 100000 in
set_option maxHeartbeats 1000000 in
theorem with_full (b g : Nat) (lb : Array Value) (F : Pk → Pk) (p : Pk) (lo hi a c : Int) (w : World) (hF : Changer w g lb F) (hn : NodeAt w b lo hi p none none) (hle : lo ≤ hi) (h1 : 1 ≤ lo) (h3 : hi ≤ 1000000)
    (ha : a ≤ lo) (hc : hi ≤ c) :
    Calls Try.prog 106 #[.pointer (some ⟨b, 0, none⟩), .agg #[.int .i64 a, .int .i64 c], .func (.func g) #[] lb] w (Withed w (.leaf lo hi p) lo hi a c F) := by
  obtain ⟨c0, c1, c2, c3, c4, c5, c6, c7, _⟩ := hn
  have hlt := cell_lt c0
  have hz1 : max lo a = lo := by omega
  have hz2 : min hi c = hi := by omega
  go_enter Try.func106, Try.ntmps106
  go_wp2_with fail
  have HP : TwoAt (w.alloc (.cells #[.int .i64 a, .int .i64 c] 124)) w.heap.size a c := by constructor <;> go_simp
  go_cut [7] (fun s7 wc => Begun w lo hi a c s7 wc)
  case first =>
    have HZ1 := Lib.hid hz1
    have HZ2 := Lib.hid hz2
    clear hz1 hz2
    go_region_held3 (fun w' => w'.cell? ⟨b, 0, none⟩ = some (.int .i64 lo) ∧ w'.cell? ⟨b, 1, none⟩ = some (.int .i64 hi) ∧ w'.cell? ⟨w.heap.size, 0, none⟩ = some (.int .i64 a) ∧ w'.cell? ⟨w.heap.size, 1, none⟩ = some (.int .i64 c))
      (first | (go_keep; done) | (refine ⟨keep_cell ?_ c0, keep_cell ?_ c1, keep_cell ?_ HP.1, keep_cell ?_ HP.2⟩ <;> repeat (first | exact Adds.refl _ | exact hb | exact hb5 | exact hb6 | apply Adds.drew | apply Adds.drewN | apply Adds.alloc | refine Adds.set ?_ (by first | (simp; done) | (simp; omega)) _ | refine Adds.trans ?_ hb | refine Adds.trans ?_ hb5 | refine Adds.trans ?_ hb6)) | ((repeat' apply And.intro) <;> go_keep))
      ((go_simp; go_at_call 114; refine (common_any lo hi a c _).mono ?_; rintro e w1 ⟨rfl, hb⟩; obtain ⟨hc, hf⟩ := bcell hb))
    all_goals
      go_wp2_with fail
      go_meet
      exact ⟨_, rfl, ⟨by go_simp, by go_simp⟩, HP.later (by repeat (first | exact Adds.refl _ | exact hb | exact hb5 | exact hb6 | apply Adds.drew | apply Adds.drewN | apply Adds.alloc | refine Adds.set ?_ (by first | (simp; done) | (simp; omega)) _ | refine Adds.trans ?_ hb | refine Adds.trans ?_ hb5 | refine Adds.trans ?_ hb6)), by repeat (first | exact Adds.refl _ | exact hb | exact hb5 | exact hb6 | apply Adds.drew | apply Adds.drewN | apply Adds.alloc | refine Adds.set ?_ (by first | (simp; done) | (simp; omega)) _ | refine Adds.trans ?_ hb | refine Adds.trans ?_ hb5 | refine Adds.trans ?_ hb6)⟩
  case rest =>
    obtain ⟨x, rfl, ⟨x0, x1⟩, _, hb⟩ := hcut
    rw [hz1] at x0
    rw [hz2] at x1
    have d0 := keep_cell hb c0
    have d1 := keep_cell hb c1
    have d2 := keep_cell hb c2
    have d3 := keep_cell hb c3
    have d4 := keep_cell hb c4
    have d5 := keep_cell hb c5
    have d6 := keep_cell hb c6
    clear c0 c1 c2 c3 c4 c5 c6 c7 hz1 hz2
    go_wp2_with (go_at_call 67; refine (count_any lo hi _ (by omega) (by omega) (by omega) (by omega)).mono ?_; rintro e w1 ⟨rfl, hb1⟩)
    have c0 := keep_cell hb1 d0
    have c1 := keep_cell hb1 d1
    have c2 := keep_cell hb1 d2
    have c3 := keep_cell hb1 d3
    have c4 := keep_cell hb1 d4
    have c5 := keep_cell hb1 d5
    have c6 := keep_cell hb1 d6
    have y0 := keep_cell hb1 x0
    have y1 := keep_cell hb1 x1
    clear d0 d1 d2 d3 d4 d5 d6 x0 x1
    go_wp2
    go_quiet ((go_at_call 98; exact Calls.quiet_of_same ((uniform_leaf b _ (by assumption)).mono (fun _ _ h => ⟨h.1, h.2.symm⟩))))
    go_wp2_with fail
    have hw : Adds w w1 := hb.trans hb1
    clear hb hb1
    have he := hF.enter
    go_region_held3 (fun w' => w'.cell? ⟨b, 0, none⟩ = some (.int .i64 lo) ∧ w'.cell? ⟨b, 1, none⟩ = some (.int .i64 hi) ∧ w'.cell? ⟨b, 2, none⟩ = some (.int .i64 p.st) ∧ w'.cell? ⟨b, 3, none⟩ = some (.int .i64 p.lot) ∧ w'.cell? ⟨b, 4, none⟩ = some (.int .i64 p.own) ∧ w'.cell? ⟨b, 5, none⟩ = some (.int .i64 p.hold))
      (first | (go_keep; done) | (refine ⟨keep_cell ?_ c0, keep_cell ?_ c1, keep_cell ?_ c2, keep_cell ?_ c3, keep_cell ?_ c4, keep_cell ?_ c5⟩ <;> repeat (first | exact Adds.refl _ | exact hb | exact hb5 | exact hb6 | apply Adds.drew | apply Adds.drewN | apply Adds.alloc | refine Adds.set ?_ (by first | (simp; done) | (simp; omega)) _ | refine Adds.trans ?_ hb | refine Adds.trans ?_ hb5 | refine Adds.trans ?_ hb6)) | ((repeat' apply And.intro) <;> go_keep))
      ((go_simp; refine (hF.call p _ (by exact hw.drewN _ |>.drew)).mono ?_; rintro e w3 ⟨rfl, hb⟩; obtain ⟨hc', hf'⟩ := bcell hb))
    go_wp2
    go_ret
    exact ⟨w3.heap.size, .leaf lo hi (F p), rfl, ⟨by go_simp, by go_simp, by go_simp, by go_simp, by go_simp, by go_simp, by go_simp, by go_simp, Plain.new _ _⟩, ⟨rfl, rfl, hle⟩, fun n k1 k2 => by rw [if_pos (by omega)]; rfl, ((hw.drewN _).drew.trans hb).alloc _⟩

end Go.Proofs.Ytofaioabjkcaiaa
