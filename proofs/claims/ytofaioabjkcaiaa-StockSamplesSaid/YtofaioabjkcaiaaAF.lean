/- awake: what the program does whatever the input is. -/
import Derived.Test.YtofaioabjkcaiaaAD
import Derived.Test.YtofaioabjkcaiaaAE
import Derived.Test.YtofaioabjkcaiaaZ
namespace Go.Proofs.Ytofaioabjkcaiaa
open Go.RowKit

/-- Covers whose neighbours differ are one. -/
theorem cover_unique {f : Int → Pk} : ∀ {l l' : List Piece} {a c : Int}, Cover f a c l → Parted l → Cover f a c l' → Parted l' → l = l'
  | [], [], _, _, _, _, _, _ => rfl
  | [], y :: l', a, c, h, _, ⟨k1, k2, _, k4⟩, _ => by have : c + 1 = a := h; have := k4.le; omega
  | x :: l, [], a, c, ⟨h1, h2, _, h4⟩, _, h, _ => by have : c + 1 = a := h; have := h4.le; omega
  | x :: l, y :: l', a, c, ⟨h1, h2, h3, h4⟩, hp, ⟨k1, k2, k3, k4⟩, kp => by
    have e1 : x.2.2 = y.2.2 := by rw [← h3 a (by omega) (by omega), ← k3 a (by omega) (by omega)]
    have tl : ∀ {z : Piece} {m : List Piece}, Parted (z :: m) → Parted m := by
      intro z m h; cases m with
      | nil => trivial
      | cons u m => exact h.2
    have nogap : ∀ {z u : Piece} {m m' : List Piece} {q : Int}, Cover f (z.2.1 + 1) c m → Parted (z :: m) → (∀ n, u.1 ≤ n → n ≤ u.2.1 → f n = u.2.2) → z.2.2 = u.2.2 → u.1 ≤ z.2.1 + 1 → Cover f (u.2.1 + 1) c m' → ¬ z.2.1 < u.2.1 := by
      intro z u m m' q hm hpm hu hz hle hm' hlt
      cases m with
      | nil => have : c + 1 = z.2.1 + 1 := hm; have := hm'.le; omega
      | cons r m =>
        obtain ⟨r1, r2, r3, _⟩ := hm
        have : r.2.2 = u.2.2 := by rw [← r3 (z.2.1 + 1) (by omega) (by omega), hu (z.2.1 + 1) hle (by omega)]
        exact hpm.1 (hz.trans this.symm)
    have e2 : x.2.1 = y.2.1 := by
      have g1 := nogap (z := x) (u := y) (q := 0) h4 hp k3 e1 (by omega) k4
      have g2 := nogap (z := y) (u := x) (q := 0) k4 kp h3 e1.symm (by omega) h4
      omega
    rw [← e2] at k4
    rw [cover_unique h4 (tl hp) k4 (tl kp)]
    congr 1
    obtain ⟨xa, xc, xp⟩ := x
    obtain ⟨ya, yc, yp⟩ := y
    simp only at h1 k1 e1 e2
    subst h1; subst k1; subst e1; subst e2
    rfl

theorem grow_adds {w a b : World} {O O' : Nat → Prop} (h : Adds w a) (g : Grow O a O' b) (hO : ∀ k, O k → w.heap.size ≤ k) : Adds w b ∧ ∀ k, O' k → w.heap.size ≤ k :=
  ⟨⟨g.1.os.trans h.os, g.1.tape.trans h.tape, g.1.output.trans h.output, Nat.le_trans h.size g.1.size, fun k hk => (g.1.same k (Nat.lt_of_lt_of_le hk h.size) (fun ho => by have := hO k ho; omega)).trans (h.block k hk)⟩,
    fun k hk => (g.2 k hk).elim (hO k) (fun h' => Nat.le_trans h.size h')⟩

/-- What a change gives that is known to be allowed. -/
theorem change_good {w w' : World} {s : Nat} {v : Value} {bs : List Nat} {Ts : List Tree} {a n : Int} {r : Bool} {rf : Pk → Int} {F : Pk → Pk} {e : Ending} (h : ChangeAll w s v bs Ts a n r rf F e w') (hr : (r && validB a n) = true)
    (h0 : ∀ k, a ≤ k → k ≤ a + n - 1 → rf ((treeOf Ts bs.length).look k) = 0) :
    e = .returned (.int .i64 0) ∧ ∃ v' b T', StockAt w'.heap.size w' s v' (bs ++ [b]) (Ts ++ [T']) ∧
      (∀ k, 1 ≤ k → k ≤ 1000000 → T'.look k = if a ≤ k ∧ k ≤ a + n - 1 then F ((treeOf Ts bs.length).look k) else (treeOf Ts bs.length).look k) ∧
      Grow (fun k => k = s ∨ v.ownBlock = some k) w (fun k => k = s ∨ v'.ownBlock = some k) w' := by
  rcases h with ⟨h1, _⟩ | ⟨_, ⟨k, k1, k2, k3, _⟩ | ⟨_, k2, v', b, T', k3, k4, k5⟩⟩
  · rw [hr] at h1; cases h1
  · exact (k3 (h0 k k1 k2)).elim
  · exact ⟨k2, v', b, T', k3, k4, k5⟩

def pA : Pk := ⟨1, 7, 1, 0⟩
def pB : Pk := ⟨1, 7, 2, 0⟩

/-- Behind the first two changes. -/
theorem awake_count {T1 T2 : Tree} (hok : T2.ok 1 1000000) (h1 : ∀ k, 1 ≤ k → k ≤ 1000000 → T1.look k = if 1 ≤ k ∧ k ≤ 10 then pA else pk0)
    (h2 : ∀ k, 1 ≤ k → k ≤ 1000000 → T2.look k = if 3 ≤ k ∧ k ≤ 5 then (fun q : Pk => (⟨q.st, q.lot, 2, q.hold⟩ : Pk)) (T1.look k) else T1.look k) :
    countOf (ownedBy (fun p => p.own) 1 (runsT 1 1000000 T2)) = 7 := by
  have hf : ∀ k, 1 ≤ k → k ≤ 1000000 → T2.look k = if k ≤ 2 then pA else if k ≤ 5 then pB else if k ≤ 10 then pA else pk0 := by
    intro k k1 k2
    rw [h2 k k1 k2, h1 k k1 k2]
    by_cases a1 : k ≤ 2
    · rw [if_neg (by omega), if_pos (by omega), if_pos a1]
    · by_cases a2 : k ≤ 5
      · rw [if_pos (by omega), if_pos (by omega), if_neg a1, if_pos a2]; rfl
      · by_cases a3 : k ≤ 10
        · rw [if_neg (by omega), if_pos (by omega), if_neg a1, if_neg a2, if_pos a3]
        · rw [if_neg (by omega), if_neg (by omega), if_neg a1, if_neg a2, if_neg a3]
  have hc : Cover T2.look 1 1000000 [(1, 2, pA), (3, 5, pB), (6, 10, pA), (11, 1000000, pk0)] := by
    refine ⟨rfl, by show (1 : Int) ≤ 2; omega, fun n n1 n2 => ?_, rfl, by show (3 : Int) ≤ 5; omega, fun n n1 n2 => ?_, rfl, by show (6 : Int) ≤ 10; omega, fun n n1 n2 => ?_, rfl, by show (11 : Int) ≤ 1000000; omega, fun n n1 n2 => ?_, rfl⟩
    · rw [hf n (by simpa using n1) (by simp at n2; omega), if_pos (by simpa using n2)]
    · simp only at n1 n2; rw [hf n (by omega) (by omega), if_neg (by omega), if_pos (by omega)]
    · simp only at n1 n2; rw [hf n (by omega) (by omega), if_neg (by omega), if_neg (by omega), if_pos (by omega)]
    · simp only at n1 n2; rw [hf n (by omega) (by omega), if_neg (by omega), if_neg (by omega), if_neg (by omega)]
  rw [cover_unique (runs_cover hok (by omega) (by omega) (by omega)) runs_parted hc (by refine ⟨?_, ?_, ?_, trivial⟩ <;> decide)]
  decide

set_option maxRecDepth 100000 in
set_option maxHeartbeats 2000000 in
theorem awake_any (w : World) : Calls Try.prog 19 #[] w fun e w' => e = .returned (.bool true) ∧ Adds w w' := by
  go_enter Try.func19, Try.ntmps19
  go_wp2_with fail
  refine (new_any _).mono ?_
  rintro e w1 ⟨s, rfl, hS, hs, hb⟩
  have HS := Lib.hid hS
  clear hS
  go_wp2_with fail
  refine (enter_any _ s _ [] [] 1 10 7 1 w1 HS.out (by simp)).mono ?_
  rintro e w2 hch
  obtain ⟨rfl, v1, b1, T1, hS1, hl1, hg1⟩ := change_good hch (by decide) (fun k k1 k2 => by show rfOut (tree0.look k) = 0; rfl)
  obtain ⟨hb2, ho1⟩ := grow_adds hb hg1 (fun k hk => hk.elim (fun h => by omega) (fun h => by simp [Value.ownBlock] at h))
  have hl1' : ∀ k, 1 ≤ k → k ≤ 1000000 → T1.look k = if 1 ≤ k ∧ k ≤ 10 then pA else pk0 := fun k k1 k2 => by rw [hl1 k k1 k2]; rfl
  simp only [List.nil_append] at hS1
  have HS1 := Lib.hid hS1
  have HL1 := Lib.hid hl1'
  clear hch hS1 hl1 hl1' hg1
  go_wp2_with fail
  refine (move_true _ s v1 [b1] [T1] 3 3 1 2 w2 HS1.out (by simp) (by decide)).mono ?_
  rintro e w3 hch
  obtain ⟨rfl, v2, b2, T2, hS2, hl2, hg2⟩ := change_good hch (by decide) (fun k k1 k2 => by
    show rfFree 1 (T1.look k) = 0
    rw [HL1.out k (by omega) (by omega), if_pos (by omega)]
    rfl)
  obtain ⟨hb3, ho2⟩ := grow_adds hb2 hg2 ho1
  simp only [List.cons_append, List.nil_append] at hS2
  have HS2 := Lib.hid hS2
  have hok2 := (hS2.tree 1 b2 T2 rfl rfl).2
  have hcount := awake_count hok2 HL1.out hl2
  have HOK2 := Lib.hid hok2
  have HC := Lib.hid hcount
  clear hch hS2 hl2 hg2 hok2 hcount
  go_wp2_with fail
  refine (Count_ok _ s v2 [b1, b2] [T1, T2] 1 2 w3 HS2.out (by simp) (by decide) HOK2.out).mono ?_
  rintro e w4 ⟨he, hb4⟩
  have he' : e = .returned (.tuple #[.int .i64 7, .int .i64 0]) := by
    rw [he]
    show Ending.returned (.tuple #[.int .i64 (countOf (ownedBy (fun p => p.own) 1 (runsT 1 1000000 T2))), .int .i64 0]) = _
    rw [HC.out]
  clear he
  subst he'
  go_wp2_with fail
  refine (Alpha_any [(1, 501), (1, 502)] _ _ (Or.inr ⟨w4.heap.size, 2, rfl, fun k t h => ?_⟩) (by simp)).mono ?_
  · match k, h with
    | 0, h => simp at h; subst h; exact ⟨by go_simp, by go_simp⟩
    | 1, h => simp at h; subst h; exact ⟨by go_simp, by go_simp⟩
  rintro e w5 ⟨he, hb5⟩
  have he' : e = .returned (.tuple #[.int .i64 502, .int .i64 0]) := by
    rw [he, show alphaT [(1, 501), (1, 502)] = (502, 0) from by decide]
  clear he
  subst he'
  have hb5' : Adds w4 w5 := ((Adds.refl w4).alloc _).trans hb5
  clear hb5
  go_wp2_with (go_at_call 16; refine (version_any _ s v2 [b1, b2] [T1, T2] _ ((HS2.out.later hb4).later hb5')).mono ?_; rintro e w' ⟨rfl, rfl⟩)
  go_ret
  exact ⟨rfl, (hb3.trans hb4).trans hb5'⟩

end Go.Proofs.Ytofaioabjkcaiaa
