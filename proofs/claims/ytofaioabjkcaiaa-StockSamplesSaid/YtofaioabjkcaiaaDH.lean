/- The exchanged elements by a map. -/
import Derived.Test.YtofaioabjkcaiaaDG
import Derived.Maps.OwnSet
namespace Go.Proofs.Ytofaioabjkcaiaa
open Go.RowKit Go.Maps

theorem law3m : Keyed Try.prog 3 := int_keyed Try.underlying3
theorem und140 : Try.prog.underlying 140 = some (.map 3 3) := by kernel_rfl
theorem zero3m (w : World) : (zeroValue 3).run Try.prog w = .ok (.int .i64 0) w := by kernel_rfl

/-- The map in block bm, of n entries at most, says of element i that it is F i. -/
def MapF (w : World) (bm n : Nat) (F : Int → Int) : Prop :=
  ∃ D : DataW Unit, w.ownsMap Try.prog 3 (plainElem Try.prog 3) bm n D ∧
    ∀ i : Int, (Lit.int .i64 i).wf = true → (Maps.has D (.int .i64 i) = true → D.atKey (.int .i64 i) (.lit (.int .i64 0)) = .lit (.int .i64 (F i))) ∧ (Maps.has D (.int .i64 i) = false → F i = i)

/-- F with a as its value at i. -/
def updF (F : Int → Int) (i a : Int) : Int → Int := fun k => if k = i then a else F k

theorem MapF.made (w : World) : MapF (w.alloc (.map #[] 0)) w.heap.size 0 (fun i => i) :=
  ⟨_, World.ownsMap_made _ _ _ _, fun i _ => ⟨fun h => by simp [Maps.has] at h, fun _ => rfl⟩⟩

theorem MapF.put {w' : World} {bm n : Nat} {F : Int → Int} {D : DataW Unit} (h : ∀ i : Int, (Lit.int .i64 i).wf = true → (Maps.has D (.int .i64 i) = true → D.atKey (.int .i64 i) (.lit (.int .i64 0)) = .lit (.int .i64 (F i))) ∧ (Maps.has D (.int .i64 i) = false → F i = i))
    (hD : IsMap D) (j a : Int) (h' : w'.ownsMap Try.prog 3 (plainElem Try.prog 3) bm n (D.put (.int .i64 j) (.lit (.int .i64 a)))) : MapF w' bm n (updF F j a) := by
  refine ⟨_, h', fun i hi => ?_⟩
  by_cases e : i = j
  · subst e
    rw [has_put_same hD (by trivial), atKey_put_same hD (by trivial)]
    exact ⟨fun _ => by simp [updF], fun x => by cases x⟩
  · have hne : (Lit.int .i64 i) ≠ (Lit.int .i64 j) := fun x => by cases x; exact e rfl
    rw [has_put_other hne, atKey_put_other hne]
    simp only [updF, e, if_false]
    exact h i hi

set_option maxRecDepth 100000 in
set_option maxHeartbeats 1000000 in
theorem element_any (i : Int) (bx bm n : Nat) (F : Int → Int) (w : World) (hi : (Lit.int .i64 i).wf = true) (hx : w.cell? ⟨bx, 0, none⟩ = some (.map (some bm))) (hF : MapF w bm n F) :
    Calls Try.prog 85 #[.int .i64 i, .pointer (some ⟨bx, 0, none⟩)] w fun e w' => e = .returned (.int .i64 (F i)) ∧ w = w' := by
  obtain ⟨D, hown, hD⟩ := hF
  obtain ⟨h1, h2⟩ := hD i hi
  have hkey : keyOf Try.prog 3 (.int .i64 i) = some (.int .i64 i) := keyOf_int_mk Try.underlying3 hi
  go_enter Try.func85, Try.ntmps85
  go_wp2_with (first
    | (at_lookup; refine wpList_lookup_own_ok_int _ rfl _ _ 140 rfl 3 3 .i64 law3m und140 Try.underlying3 (zero3m _) bm n D rfl hown _ _ rfl hkey ?_; intro c hat hwc)
    | go_in)
  · rename_i ht
    have ht' : Maps.has D (.int .i64 i) = true := by simpa using ht
    have hc : c = F i := by
      have := h1 ht'
      rw [hat] at this
      cases this; rfl
    go_ret
    exact ⟨by rw [hc]; rfl, rfl⟩
  · rename_i ht
    have ht' : Maps.has D (.int .i64 i) = false := by simpa using ht
    go_ret
    exact ⟨by rw [h2 ht']; rfl, rfl⟩

end Go.Proofs.Ytofaioabjkcaiaa
