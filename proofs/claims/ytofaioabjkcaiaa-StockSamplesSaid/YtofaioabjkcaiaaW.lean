/- The functions that refuse and change a pocket. -/
import Derived.Test.YtofaioabjkcaiaaV
namespace Go.Proofs.Ytofaioabjkcaiaa
open Go.RowKit

/-- Four cells that lie one behind the other. -/
def PkAt (w : World) (b : Nat) (p : Pk) : Prop :=
  w.cell? ⟨b, 0, none⟩ = some (.int .i64 p.st) ∧ w.cell? ⟨b, 1, none⟩ = some (.int .i64 p.lot) ∧ w.cell? ⟨b, 2, none⟩ = some (.int .i64 p.own) ∧ w.cell? ⟨b, 3, none⟩ = some (.int .i64 p.hold)

set_option maxHeartbeats 400000 in
theorem clo_enter (q : Pk) (w : World) (x : Nat) (m : Pk) (hx : PkAt w x m) :
    Calls Try.prog 76 #[q.val, .pointer (some ⟨x, 0, none⟩)] w fun e w' => e = .returned (m : Pk).val ∧ Adds w w' := by
  obtain ⟨x0, x1, x2, x3⟩ := hx
  have hlt := cell_lt x0
  have m1 : x < w.heap.size + 1 := by omega
  go_enter Try.func76, Try.ntmps76
  go_wp2
  refine bodyPost_ret (v := (m : Pk).val) ?_ rfl ⟨rfl, ?_⟩
  · simp [results, Try.results76, go_sem]
  · repeat (first | exact Adds.refl _ | apply Adds.alloc | refine Adds.set ?_ (by first | (simp; done) | (simp; omega)) _)

set_option maxHeartbeats 400000 in
theorem clo_move (q : Pk) (w : World) (x : Nat) (m : Int) (hx : w.cell? ⟨x, 0, none⟩ = some (.int .i64 m)) :
    Calls Try.prog 78 #[q.val, .pointer (some ⟨x, 0, none⟩)] w fun e w' => e = .returned (⟨q.st, q.lot, m, q.hold⟩ : Pk).val ∧ Adds w w' := by
  have hlt := cell_lt hx
  have m1 : x < w.heap.size + 1 := by omega
  go_enter Try.func78, Try.ntmps78
  go_wp2
  refine bodyPost_ret (v := (⟨q.st, q.lot, m, q.hold⟩ : Pk).val) ?_ rfl ⟨rfl, ?_⟩
  · simp [results, Try.results78, go_sem]
  · repeat (first | exact Adds.refl _ | apply Adds.alloc | refine Adds.set ?_ (by first | (simp; done) | (simp; omega)) _)

set_option maxHeartbeats 400000 in
theorem clo_pledge (q : Pk) (w : World) (x : Nat) (m : Int) (hx : w.cell? ⟨x, 0, none⟩ = some (.int .i64 m)) :
    Calls Try.prog 79 #[q.val, .pointer (some ⟨x, 0, none⟩)] w fun e w' => e = .returned (⟨q.st, q.lot, q.own, m⟩ : Pk).val ∧ Adds w w' := by
  have hlt := cell_lt hx
  have m1 : x < w.heap.size + 1 := by omega
  go_enter Try.func79, Try.ntmps79
  go_wp2
  refine bodyPost_ret (v := (⟨q.st, q.lot, q.own, m⟩ : Pk).val) ?_ rfl ⟨rfl, ?_⟩
  · simp [results, Try.results79, go_sem]
  · repeat (first | exact Adds.refl _ | apply Adds.alloc | refine Adds.set ?_ (by first | (simp; done) | (simp; omega)) _)

set_option maxHeartbeats 400000 in
theorem clo_release (q : Pk) (w : World) :
    Calls Try.prog 81 #[q.val] w fun e w' => e = .returned (⟨q.st, q.lot, q.own, 0⟩ : Pk).val ∧ Adds w w' := by
  go_enter Try.func81, Try.ntmps81
  go_wp2
  refine bodyPost_ret (v := (⟨q.st, q.lot, q.own, 0⟩ : Pk).val) ?_ rfl ⟨rfl, ?_⟩
  · simp [results, Try.results81, go_sem]
  · repeat (first | exact Adds.refl _ | apply Adds.alloc | refine Adds.set ?_ (by first | (simp; done) | (simp; omega)) _)

set_option maxHeartbeats 400000 in
theorem clo_seize (q : Pk) (w : World) (x : Nat) (m : Int) (hx : w.cell? ⟨x, 0, none⟩ = some (.int .i64 m)) :
    Calls Try.prog 82 #[q.val, .pointer (some ⟨x, 0, none⟩)] w fun e w' => e = .returned (⟨q.st, q.lot, m, 0⟩ : Pk).val ∧ Adds w w' := by
  have hlt := cell_lt hx
  have m1 : x < w.heap.size + 1 := by omega
  go_enter Try.func82, Try.ntmps82
  go_wp2
  refine bodyPost_ret (v := (⟨q.st, q.lot, m, 0⟩ : Pk).val) ?_ rfl ⟨rfl, ?_⟩
  · simp [results, Try.results82, go_sem]
  · repeat (first | exact Adds.refl _ | apply Adds.alloc | refine Adds.set ?_ (by first | (simp; done) | (simp; omega)) _)

set_option maxHeartbeats 400000 in
theorem clo_leave (q : Pk) (w : World) :
    Calls Try.prog 83 #[q.val] w fun e w' => e = .returned (⟨2, 0, 0, 0⟩ : Pk).val ∧ Adds w w' := by
  go_enter Try.func83, Try.ntmps83
  go_wp2
  refine bodyPost_ret (v := (⟨2, 0, 0, 0⟩ : Pk).val) ?_ rfl ⟨rfl, ?_⟩
  · simp [results, Try.results83, go_sem]
  · repeat (first | exact Adds.refl _ | apply Adds.alloc | refine Adds.set ?_ (by first | (simp; done) | (simp; omega)) _)

/-- What the three functions that refuse a pocket say. -/
def rfOut (p : Pk) : Int := if p.st = 0 then 0 else 5
def rfFree (m : Int) (p : Pk) : Int := if p.st = 1 then (if p.own = m then (if p.hold = 0 then 0 else 10) else 8) else 4
def rfHeld (m : Int) (p : Pk) : Int := if p.st = 1 then (if p.hold = m then 0 else 10) else 4

set_option maxHeartbeats 400000 in
theorem ref_out (q : Pk) (w : World) : Calls Try.prog 75 #[q.val] w fun e w' => e = .returned (.int .i64 (rfOut q)) ∧ Adds w w' := by
  by_cases h : q.st = 0
  · have h1 : (q.st != 0) = false := by simp [h]
    have H := Lib.hid (show rfOut q = 0 by simp [rfOut, h])
    clear h
    go_enter Try.func75, Try.ntmps75
    go_wp2
    go_ret
    exact ⟨ret_int H.out.symm, (Adds.refl w).alloc _⟩
  · have h1 : (q.st != 0) = true := by simp [h]
    have H := Lib.hid (show rfOut q = 5 by simp [rfOut, h])
    clear h
    go_enter Try.func75, Try.ntmps75
    go_wp2
    go_ret
    exact ⟨ret_int H.out.symm, (Adds.refl w).alloc _⟩

set_option maxHeartbeats 400000 in
theorem ref_free (q : Pk) (x : Nat) (m : Int) (w : World) (hx : w.cell? ⟨x, 0, none⟩ = some (.int .i64 m)) : Calls Try.prog 107 #[q.val, .pointer (some ⟨x, 0, none⟩)] w fun e w' => e = .returned (.int .i64 (rfFree m q)) ∧ Adds w w' := by
  have hlt := cell_lt hx
  have m1 : x < w.heap.size + 1 := by omega
  by_cases h1 : q.st = 1
  · have k1 : (q.st != 1) = false := by simp [h1]
    by_cases h2 : q.own = m
    · have k2 : (q.own != m) = false := by simp [h2]
      by_cases h3 : q.hold = 0
      · have k3 : (q.hold != 0) = false := by simp [h3]
        have H := Lib.hid (show rfFree m q = 0 by simp [rfFree, h1, h2, h3])
        clear h1 h2 h3
        go_enter Try.func107, Try.ntmps107
        go_wp2
        go_ret
        exact ⟨ret_int H.out.symm, (Adds.refl w).alloc _⟩
      · have k3 : (q.hold != 0) = true := by simp [h3]
        have H := Lib.hid (show rfFree m q = 10 by simp [rfFree, h1, h2, h3])
        clear h1 h2 h3
        go_enter Try.func107, Try.ntmps107
        go_wp2
        go_ret
        exact ⟨ret_int H.out.symm, (Adds.refl w).alloc _⟩
    · have k2 : (q.own != m) = true := by simp [h2]
      have H := Lib.hid (show rfFree m q = 8 by simp [rfFree, h1, h2])
      clear h1 h2
      go_enter Try.func107, Try.ntmps107
      go_wp2
      go_ret
      exact ⟨ret_int H.out.symm, (Adds.refl w).alloc _⟩
  · have k1 : (q.st != 1) = true := by simp [h1]
    have H := Lib.hid (show rfFree m q = 4 by simp [rfFree, h1])
    clear h1
    go_enter Try.func107, Try.ntmps107
    go_wp2
    go_ret
    exact ⟨ret_int H.out.symm, (Adds.refl w).alloc _⟩

set_option maxHeartbeats 400000 in
theorem ref_held (q : Pk) (x : Nat) (m : Int) (w : World) (hx : w.cell? ⟨x, 0, none⟩ = some (.int .i64 m)) : Calls Try.prog 108 #[q.val, .pointer (some ⟨x, 0, none⟩)] w fun e w' => e = .returned (.int .i64 (rfHeld m q)) ∧ Adds w w' := by
  have hlt := cell_lt hx
  have m1 : x < w.heap.size + 1 := by omega
  by_cases h1 : q.st = 1
  · have k1 : (q.st != 1) = false := by simp [h1]
    by_cases h2 : q.hold = m
    · have k2 : (q.hold != m) = false := by simp [h2]
      have H := Lib.hid (show rfHeld m q = 0 by simp [rfHeld, h1, h2])
      clear h1 h2
      go_enter Try.func108, Try.ntmps108
      go_wp2
      go_ret
      exact ⟨ret_int H.out.symm, (Adds.refl w).alloc _⟩
    · have k2 : (q.hold != m) = true := by simp [h2]
      have H := Lib.hid (show rfHeld m q = 10 by simp [rfHeld, h1, h2])
      clear h1 h2
      go_enter Try.func108, Try.ntmps108
      go_wp2
      go_ret
      exact ⟨ret_int H.out.symm, (Adds.refl w).alloc _⟩
  · have k1 : (q.st != 1) = true := by simp [h1]
    have H := Lib.hid (show rfHeld m q = 4 by simp [rfHeld, h1])
    clear h1
    go_enter Try.func108, Try.ntmps108
    go_wp2
    go_ret
    exact ⟨ret_int H.out.symm, (Adds.refl w).alloc _⟩

/-- What the two functions that make such a function give. -/
def Made (w : World) (f : Nat) (m : Int) (e : Ending) (w' : World) : Prop := ∃ x, e = .returned (.func (.func f) #[] #[.pointer (some ⟨x, 0, none⟩)]) ∧ w'.cell? ⟨x, 0, none⟩ = some (.int .i64 m) ∧ Adds w w'

set_option maxHeartbeats 400000 in
theorem make_free (m : Int) (w : World) : Calls Try.prog 77 #[.int .i64 m] w (Made w 107 m) := by
  go_enter Try.func77, Try.ntmps77
  go_wp2
  go_ret
  exact ⟨w.heap.size, rfl, by go_simp, (Adds.refl w).alloc _⟩

set_option maxHeartbeats 400000 in
theorem make_held (m : Int) (w : World) : Calls Try.prog 80 #[.int .i64 m] w (Made w 108 m) := by
  go_enter Try.func80, Try.ntmps80
  go_wp2
  go_ret
  exact ⟨w.heap.size, rfl, by go_simp, (Adds.refl w).alloc _⟩

/-- What change gives, whatever it is asked. -/
def ChangeAll (w : World) (s : Nat) (v : Value) (bs : List Nat) (Ts : List Tree) (a n : Int) (r : Bool) (rf : Pk → Int) (F : Pk → Pk) (e : Ending) (w' : World) : Prop :=
  ((r && validB a n) = false ∧ e = .returned (.int .i64 1) ∧ Adds w w') ∨ ((r && validB a n) = true ∧ ChangeGot w s v bs Ts a (a + n - 1) rf F e w')

theorem ChangeAll.before {w w0 w' : World} {s : Nat} {v : Value} {bs : List Nat} {Ts : List Tree} {a n : Int} {r : Bool} {rf : Pk → Int} {F : Pk → Pk} {e : Ending} (h0 : Adds w w0) (h : ChangeAll w0 s v bs Ts a n r rf F e w') : ChangeAll w s v bs Ts a n r rf F e w' := by
  rcases h with ⟨h1, h2, h3⟩ | ⟨h1, ⟨k, k1, k2, k3, k4, k5, k6⟩ | ⟨k1, k2, v', b, T', k3, k4, k5⟩⟩
  · exact Or.inl ⟨h1, h2, h0.trans h3⟩
  · exact Or.inr ⟨h1, Or.inl ⟨k, k1, k2, k3, k4, k5, h0.trans k6⟩⟩
  · exact Or.inr ⟨h1, Or.inr ⟨k1, k2, v', b, T', k3, k4, k5.before h0⟩⟩

theorem change_any (B s : Nat) (v : Value) (bs : List Nat) (Ts : List Tree) (a n : Int) (r : Bool) (gr ga : Nat) (lr la : Array Value) (rf : Pk → Int) (F : Pk → Pk) (w : World) (hS : StockAt B w s v bs Ts)
    (hr : Refuser w gr lr rf) (hF : Changer w ga la F) (hlen : bs.length ≤ 1000000) :
    Calls Try.prog 74 #[.pointer (some ⟨s, 0, none⟩), .agg #[.int .i64 a, .int .i64 n], .bool r, .func (.func gr) #[] lr, .func (.func ga) #[] la] w (ChangeAll w s v bs Ts a n r rf F) := by
  by_cases h : (r && validB a n) = true
  · obtain ⟨rfl, hv⟩ : r = true ∧ validB a n = true := by simpa using h
    exact (change_ok s v bs Ts a n gr ga lr la rf F w B hS hv hr hF hlen).mono (fun e w' h' => Or.inr ⟨h, h'⟩)
  · have h' : (r && validB a n) = false := by simpa using h
    exact (change_arg B s v bs Ts a n r gr ga lr la w hS h').mono (fun e w' k => Or.inl ⟨h', k⟩)

end Go.Proofs.Ytofaioabjkcaiaa
