/- Two bids compared. -/
import Derived.Test.YtigpghmbeldakaaBU
import Derived.Laws.StructEq
namespace Go.Proofs.Ytigpghmbeldakaa
open Go.RowKit

theorem struct61 : Try.prog.underlying 61 = some (.struct (Try.prog.fieldsOf 61)) := by kernel_rfl
theorem held61 : Try.prog.stoodInHeld 61 = false := by kernel_rfl
theorem guard61 : Try.prog.eqGuardType Try.prog.depth 61 = false := by kernel_rfl
theorem fields61 : (Try.prog.fieldsOf 61).toList.map (fun f => (f.name, f.type, f.offset)) = [("Side", 3, 0), ("Price", 2, 1), ("Qty", 2, 2)] := by kernel_rfl

theorem eql61 (x y : Bd) (w : World) : (binOp .eql 61 (.agg #[.int .i64 x.1, .int .i64 x.2.1, .int .i64 x.2.2]) (.agg #[.int .i64 y.1, .int .i64 y.2.1, .int .i64 y.2.2])).run Try.prog w = .ok (.bool (decide (x = y))) w := by
  rw [run_eql_struct, run_equalIn_agg w 9999 61 _ _ struct61 held61]
  have hf := fields61
  obtain ⟨f1, f2, f3, he⟩ : ∃ f1 f2 f3, (Try.prog.fieldsOf 61).toList = [f1, f2, f3] := by
    generalize (Try.prog.fieldsOf 61).toList = L at hf
    have hl := congrArg List.length hf
    rw [List.length_map] at hl
    cases L with
    | nil => simp at hl
    | cons a L =>
      cases L with
      | nil => simp at hl
      | cons b L =>
        cases L with
        | nil => simp at hl
        | cons c L =>
          cases L with
          | nil => exact ⟨a, b, c, rfl⟩
          | cons d L => simp at hl
  rw [he] at hf ⊢
  simp only [List.map_cons, List.map_nil, List.cons.injEq, Prod.mk.injEq, and_true] at hf
  obtain ⟨⟨a1, a2, a3⟩, ⟨b1, b2, b3⟩, c1, c2, c3⟩ := hf
  have u3 : Try.prog.underlying 3 = some (.int .i64) := Try.underlying3
  have u2 : Try.prog.underlying 2 = some (.int .i64) := Try.underlying2
  simp only [Op.eqFields, a1, a2, a3, b1, b2, b3, c1, c2, c3]
  obtain ⟨s1, p1, q1⟩ := x
  obtain ⟨s2, p2, q2⟩ := y
  by_cases h1 : s1 = s2
  · subst h1
    by_cases h2 : p1 = p2
    · subst h2
      by_cases h3 : q1 = q2
      · subst h3
        simp [go_sem, part, Try.sizeOf3, Try.sizeOf2, Try.isAgg3, Try.isAgg2, run_equalIn_int w 9998 3 .i64 .i64 _ _ u3, run_equalIn_int w 9998 2 .i64 .i64 _ _ u2]
      · simp [go_sem, part, Try.sizeOf3, Try.sizeOf2, Try.isAgg3, Try.isAgg2, run_equalIn_int w 9998 3 .i64 .i64 _ _ u3, run_equalIn_int w 9998 2 .i64 .i64 _ _ u2, h3]
    · simp [go_sem, part, Try.sizeOf3, Try.sizeOf2, Try.isAgg3, Try.isAgg2, run_equalIn_int w 9998 3 .i64 .i64 _ _ u3, run_equalIn_int w 9998 2 .i64 .i64 _ _ u2, h2]
  · simp [go_sem, part, Try.sizeOf3, Try.sizeOf2, Try.isAgg3, Try.isAgg2, run_equalIn_int w 9998 3 .i64 .i64 _ _ u3, run_equalIn_int w 9998 2 .i64 .i64 _ _ u2, h1]

theorem eqg61 (x y : Operand) (a b : Array Value) (w : World) : (eqGuard .eql 61 x y (.agg a) (.agg b)).run Try.prog w = .ok () w := run_eqGuard_agg w .eql 61 x y a b guard61

end Go.Proofs.Ytigpghmbeldakaa
