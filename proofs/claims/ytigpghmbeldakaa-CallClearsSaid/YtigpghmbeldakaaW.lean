/- fills: notions. -/
import Derived.Test.YtigpghmbeldakaaV
namespace Go.Proofs.Ytigpghmbeldakaa
open Go.RowKit

/-- What a function that shares does. -/
def FShare (f : Int → List Int → List Int) : Prop := ∀ t ws, 0 ≤ t → qOk ws → (f t ws).length = ws.length ∧ (f t ws).sum = min t ws.sum ∧ qOk (f t ws)

theorem turnT_sum : ∀ (l : List Int) (t : Int), 0 ≤ t → qOk l → (turnT t l).sum = min t l.sum
  | [], t, h, _ => by simp [turnT]; omega
  | w :: l, t, h, hq => by
    have hw := hq w (by simp)
    have hs := sum_take_bd l (fun x hx => hq x (by simp [hx]))
    have ih := turnT_sum l (t - min w t) (by omega) (fun x hx => hq x (by simp [hx]))
    simp only [turnT, List.sum_cons, ih]
    omega
theorem turn_share : FShare turnT := fun t ws h hq => ⟨turnT_len ws t, turnT_sum ws t h hq, (turnT_bd ws t h hq).1⟩

/-- The quantities of bids. -/
def qtyT (l : List Bd) (Q : List Int) : List Int := Q.map fun n => (l[n.toNat]!).2.2
/-- Numbers laid at places. -/
def putT (F : List Int) (ps : List (Int × Int)) : List Int := ps.foldl (fun F p => F.set p.1.toNat p.2) F
/-- What is served to a queue. -/
def serveT (f : Int → List Int → List Int) (l : List Bd) : Nat → Int → List Int → List Int → List Int
  | 0, _, _, F => F
  | n + 1, left, Q, F => if 0 < left then serveT f l n (left - (f left (qtyT l (grpT l Q))).sum) (Q.drop (grpT l Q).length) (putT F ((grpT l Q).zip (f left (qtyT l (grpT l Q))))) else F

theorem putT_len (ps : List (Int × Int)) : ∀ F, (putT F ps).length = F.length := by
  induction ps with
  | nil => intro F; rfl
  | cons p ps ih => intro F; show (putT (F.set p.1.toNat p.2) ps).length = _; rw [ih]; simp
theorem putT_next (F : List Int) {ps : List (Int × Int)} {k : Nat} {p : Int × Int} (h : ps[k]? = some p) : putT F (ps.take (k + 1)) = (putT F (ps.take k)).set p.1.toNat p.2 := by
  unfold putT
  rw [take_next h, List.foldl_append]
  rfl
theorem serveT_len (f : Int → List Int → List Int) (l : List Bd) : ∀ n left Q F, (serveT f l n left Q F).length = F.length
  | 0, _, _, F => rfl
  | n + 1, left, Q, F => by
    rw [serveT]
    split
    · rw [serveT_len f l n, putT_len]
    · rfl

theorem grp_pos {l : List Bd} {Q : List Int} (h : 0 < Q.length) : 0 < (grpT l Q).length := by
  cases Q with
  | nil => simp at h
  | cons x Q => simp [grpT]
theorem grp_take (l : List Bd) (Q : List Int) : grpT l Q = Q.take (grpT l Q).length := by
  cases Q with
  | nil => rfl
  | cons x Q =>
    unfold grpT
    have := List.takeWhile_prefix (p := fun i => decide (priceOf l i.toNat = priceOf l x.toNat)) (l := x :: Q)
    exact (List.prefix_iff_eq_take.1 this)
theorem grp_le (l : List Bd) (Q : List Int) : (grpT l Q).length ≤ Q.length := by
  have := congrArg List.length (grp_take l Q)
  rw [List.length_take] at this
  omega
theorem grp_split (l : List Bd) (Q : List Int) : grpT l Q ++ Q.drop (grpT l Q).length = Q := by
  conv => lhs; arg 1; rw [grp_take]
  exact List.take_append_drop _ _
theorem qty_split (l : List Bd) (Q : List Int) : (qtyT l Q).sum = (qtyT l (grpT l Q)).sum + (qtyT l (Q.drop (grpT l Q).length)).sum := by
  conv => lhs; rw [← grp_split l Q]
  simp [qtyT]
theorem qty_ok {l : List Bd} (hok : ∀ b ∈ l, okB b = true) {Q : List Int} (hin : ∀ n ∈ Q, 0 ≤ n ∧ n < l.length) : qOk (qtyT l Q) := by
  intro x hx
  unfold qtyT at hx
  obtain ⟨n, hn, rfl⟩ := List.mem_map.1 hx
  obtain ⟨h1, h2⟩ := hin n hn
  have hlt : n.toNat < l.length := by omega
  have := okB_iff.1 (hok l[n.toNat]! (by rw [getElem!_pos l n.toNat hlt]; exact List.getElem_mem hlt))
  omega

/-- The state of serving a queue. -/
structure Serving (f : Int → List Int → List Int) (l : List Bd) (gF : Nat) (FIN : List Int) (left : Int) (Q : List Int) (qp : Option Addr) (qcap : Nat) (W : World) : Prop where
  row : ∃ F n, Q.length ≤ n ∧ serveT f l n left Q F = FIN ∧ F.length = l.length ∧ RowI 2 .i64 W gF l.length F
  queue : At1 .i64 W qp Q
  apart : ∀ g off, qp = some ⟨g, off, none⟩ → g ≠ gF
  cap : Q.length ≤ qcap
  left0 : 0 ≤ left
  left1 : left ≤ (qtyT l Q).sum
  ins : ∀ n ∈ Q, 0 ≤ n ∧ n < l.length
  short : Q.length ≤ l.length

theorem serving_end {f : Int → List Int → List Int} {l : List Bd} {gF : Nat} {FIN : List Int} {left : Int} {Q : List Int} {qp : Option Addr} {qcap : Nat} {W : World} (h : Serving f l gF FIN left Q qp qcap W) (hl : ¬ 0 < left) : RowI 2 .i64 W gF l.length FIN := by
  obtain ⟨F, n, _, hs, _, hr⟩ := h.row
  cases n with
  | zero => rw [serveT] at hs; rw [← hs]; exact hr
  | succ n => rw [serveT, if_neg hl] at hs; rw [← hs]; exact hr

/-- The fills behind k sides. -/
def FillAt (f : Int → List Int → List Int) (l : List Bd) (x V : Int) : Nat → List Int → Prop
  | 0, F => F = List.replicate l.length 0
  | 1, F => ∃ R, RankOf l x 1 R ∧ F = serveT f l R.length V R (List.replicate l.length 0)
  | _, F => ∃ R R', RankOf l x 1 R ∧ RankOf l x 2 R' ∧ F = serveT f l R'.length V R' (serveT f l R.length V R (List.replicate l.length 0))

theorem FillAt.len {f : Int → List Int → List Int} {l : List Bd} {x V : Int} : ∀ {k : Nat} {F : List Int}, FillAt f l x V k F → F.length = l.length
  | 0, F, h => by unfold FillAt at h; rw [h]; simp
  | 1, F, h => by unfold FillAt at h; obtain ⟨R, _, rfl⟩ := h; rw [serveT_len]; simp
  | n + 2, F, h => by unfold FillAt at h; obtain ⟨R, R', _, _, rfl⟩ := h; rw [serveT_len, serveT_len]; simp

theorem perm_sum' {l l' : List Int} (h : l.Perm l') : l.sum = l'.sum := by
  induction h with
  | nil => rfl
  | cons x _ ih => simp [ih]
  | swap x y l => simp only [List.sum_cons]; omega
  | trans _ _ ih1 ih2 => exact ih1.trans ih2

/-- The bids that take part on a side have the demand, or the supply, together. -/
theorem part_sum (l : List Bd) (x side : Int) : ∀ (n : Nat), n ≤ l.length → (qtyT l (partT l x side n)).sum = ((l.take n).map fun b => if b.1 = side ∧ takesB b x = true then b.2.2 else 0).sum
  | 0, _ => by simp [partT, qtyT]
  | n + 1, h => by
    have hx : l[n]? = some l[n]! := by rw [getElem!_pos l n (by omega)]; exact List.getElem?_eq_getElem _
    have ih := part_sum l x side n (by omega)
    rw [partT_next, take_next hx, List.map_append, List.sum_append, ← ih]
    unfold qtyT
    rw [List.map_append, List.sum_append]
    congr 1
    by_cases hp : partB l x side n = true
    · have hp' := hp
      unfold partB at hp'
      simp only [Bool.and_eq_true, decide_eq_true_eq] at hp'
      rw [if_pos hp]
      simp only [List.map_cons, List.map_nil, List.sum_cons, List.sum_nil, Int.toNat_natCast, Int.add_zero]
      rw [if_pos hp']
    · have hp' := hp
      unfold partB at hp'
      simp only [Bool.and_eq_true, decide_eq_true_eq] at hp'
      rw [if_neg hp]
      simp only [List.map_nil, List.sum_nil, List.map_cons, List.sum_cons, Int.add_zero]
      rw [if_neg hp']

theorem rank_sum {l : List Bd} {x side : Int} {R : List Int} (h : RankOf l x side R) (hs : side = 1 ∨ side = 2) : (qtyT l R).sum = if side = 1 then dem l x else sup l x := by
  have e : (qtyT l R).sum = (qtyT l (partT l x side l.length)).sum := perm_sum' (h.1.map _)
  rw [e, part_sum l x side l.length (Nat.le_refl _), List.take_length]
  rcases hs with rfl | rfl
  · rw [if_pos rfl]
    unfold dem
    congr 1
    apply List.map_congr_left
    intro b _
    by_cases hb : b.1 = 1
    · simp [takesB, hb]
    · simp [hb]
  · rw [if_neg (by omega)]
    unfold sup
    congr 1
    apply List.map_congr_left
    intro b _
    by_cases hb : b.1 = 2
    · simp [takesB, hb]
    · simp [hb]
theorem rank_in {l : List Bd} {x side : Int} {R : List Int} (h : RankOf l x side R) : ∀ n ∈ R, 0 ≤ n ∧ n < l.length := fun n hn => partT_in l x side l.length n (h.1.mem_iff.1 hn)
theorem rank_len {l : List Bd} {x side : Int} {R : List Int} (h : RankOf l x side R) : R.length ≤ l.length := by rw [h.1.length_eq]; exact partT_len _ _ _ _

end Go.Proofs.Ytigpghmbeldakaa
