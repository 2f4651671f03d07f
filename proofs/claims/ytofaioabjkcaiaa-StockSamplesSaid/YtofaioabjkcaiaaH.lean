/- pieces. -/
import Derived.Test.YtofaioabjkcaiaaF
import Derived.Test.YtofaioabjkcaiaaG
namespace Go.Proofs.Ytofaioabjkcaiaa
open Go.RowKit

/-- Some pockets in a row, and their state. -/
abbrev Piece := Int × Int × Pk

abbrev Piece.encs (x : Piece) : Array Value := #[.agg #[.int .i64 x.1, .int .i64 x.2.1], x.2.2.val]

/-- The pieces of a tree between a and c. -/
def piecesT (a c : Int) : Tree → List Piece
  | .leaf lo hi p => if max lo a ≤ min hi c then [(max lo a, min hi c, p)] else []
  | .node _ _ _ l r => piecesT a c l ++ piecesT a c r

/-- A tree in blocks with Pr. -/
def TreeIn (Pr : Nat → Prop) (w : World) : Nat → Tree → Prop
  | b, .leaf lo hi p => Pr b ∧ NodeAt w b lo hi p none none
  | b, .node lo hi p l r => Pr b ∧ ∃ bl br, NodeAt w b lo hi p (some ⟨bl, 0, none⟩) (some ⟨br, 0, none⟩) ∧ TreeIn Pr w bl l ∧ TreeIn Pr w br r

theorem TreeIn.tree {Pr : Nat → Prop} {w : World} : ∀ {t : Tree} {b : Nat}, TreeIn Pr w b t → IsTree w b t
  | .leaf _ _ _, _, h => h.2
  | .node _ _ _ _ _, _, ⟨_, bl, br, h, hl, hr⟩ => ⟨bl, br, h, hl.tree, hr.tree⟩

theorem IsTree.inn {w : World} : ∀ {t : Tree} {b : Nat}, IsTree w b t → TreeIn (· < w.heap.size) w b t
  | .leaf _ _ _, _, h => ⟨cell_lt h.1, h⟩
  | .node _ _ _ _ _, _, ⟨bl, br, h, hl, hr⟩ => ⟨cell_lt h.1, bl, br, h, hl.inn, hr.inn⟩

theorem TreeIn.mono {Pr Pr' : Nat → Prop} {w : World} (hp : ∀ k, Pr k → Pr' k) : ∀ {t : Tree} {b : Nat}, TreeIn Pr w b t → TreeIn Pr' w b t
  | .leaf _ _ _, _, h => ⟨hp _ h.1, h.2⟩
  | .node _ _ _ _ _, _, ⟨h0, bl, br, h, hl, hr⟩ => ⟨hp _ h0, bl, br, h, hl.mono hp, hr.mono hp⟩

theorem NodeAt.same {w w' : World} {b : Nat} {lo hi : Int} {p : Pk} {l r : Option Addr} (h : NodeAt w b lo hi p l r) (hb : w'.heap[b]? = w.heap[b]?) : NodeAt w' b lo hi p l r := by
  have e : ∀ o, w'.cell? ⟨b, o, none⟩ = w.cell? ⟨b, o, none⟩ := fun o => World.cell?_of_block (w := w) (a := ⟨b, o, none⟩) hb
  obtain ⟨c0, c1, c2, c3, c4, c5, c6, c7, cbx⟩ := h
  unfold NodeAt
  simp only [e]
  exact ⟨c0, c1, c2, c3, c4, c5, c6, c7, cbx.same hb⟩

theorem TreeIn.keep {Pr : Nat → Prop} {w w' : World} (hb : ∀ k, k < w.heap.size → Pr k → w'.heap[k]? = w.heap[k]?) : ∀ {t : Tree} {b : Nat}, TreeIn Pr w b t → TreeIn Pr w' b t
  | .leaf _ _ _, _, h => ⟨h.1, h.2.same (hb _ (cell_lt h.2.1) h.1)⟩
  | .node _ _ _ _ _, _, ⟨h0, bl, br, h, hl, hr⟩ => ⟨h0, bl, br, h.same (hb _ (cell_lt h.1) h0), hl.keep hb, hr.keep hb⟩

theorem TreeIn.later {Pr : Nat → Prop} {w w' : World} {t : Tree} {b : Nat} (h : TreeIn Pr w b t) (hb : Adds w w') : TreeIn Pr w' b t := h.keep (fun k hk _ => hb.block k hk)

/-- What a run of such calls gives. -/
def Passed {α : Type} (Z : Nat → Prop) (J Jx : (Nat → Prop) → List α → World → Prop) (O : Nat → Prop) (V : World) (xs : List α) (e : Ending) (V' : World) : Prop :=
  ∃ (v : Bool) (O' : Nat → Prop), e = .returned (.bool v) ∧ Touch (fun k => O k ∨ Z k) V V' ∧ (v = true → J O' xs V' ∧ Grow O V O' V') ∧ (v = false → ∃ pre rest, pre ++ rest = xs ∧ Jx O' pre V')

structure Yields (g : Nat) (lb : Array Value) (L : List Piece) (Z : Nat → Prop) (J Jx : (Nat → Prop) → List Piece → World → Prop) : Prop where
  enter : ∀ (args : Array Value) (w : World), (callFunc g args).run Try.prog w = .ok (.enter g args) w
  lt : ∀ O pre V, J O pre V → ∀ k, O k → k < V.heap.size
  st : ∀ O pre V V', J O pre V → Adds V V' → J O pre V'
  stx : ∀ O pre V V', Jx O pre V → Adds V V' → Jx O pre V'
  call : ∀ O pre (x : Piece) rest V, pre ++ x :: rest = L → J O pre V → Calls Try.prog g (x.encs ++ lb) V (Yielded Z J Jx O V (pre ++ [x]))

theorem TreeIn.grow {O O' Z : Nat → Prop} {w w' : World} (ht : Touch (fun k => O k ∨ Z k) w w') (hO : ∀ k, O' k → O k ∨ w.heap.size ≤ k) : ∀ {t : Tree} {b : Nat}, TreeIn (fun k => ¬ (O k ∨ Z k)) w b t → TreeIn (fun k => ¬ (O' k ∨ Z k)) w' b t
  | .leaf _ _ _, _, h => ⟨fun h' => h'.elim (fun h' => (hO _ h').elim (fun h'' => h.1 (Or.inl h'')) (fun h'' => by have := cell_lt h.2.1; omega)) (fun h' => h.1 (Or.inr h')), h.2.same (ht.same _ (cell_lt h.2.1) h.1)⟩
  | .node _ _ _ _ _, _, ⟨h0, bl, br, h, hl, hr⟩ => ⟨fun h' => h'.elim (fun h' => (hO _ h').elim (fun h'' => h0 (Or.inl h'')) (fun h'' => by have := cell_lt h.1; omega)) (fun h' => h0 (Or.inr h')), bl, br, h.same (ht.same _ (cell_lt h.1) h0), hl.grow ht hO, hr.grow ht hO⟩

theorem piecesT_out {a c : Int} : ∀ {t : Tree} {lo hi : Int}, t.ok lo hi → (c < lo ∨ hi < a) → piecesT a c t = []
  | .leaf x y p, lo, hi, h, ho => by
    obtain ⟨rfl, rfl, _⟩ := h
    simp only [piecesT]
    rw [if_neg (by omega)]
  | .node x y p l r, lo, hi, h, ho => by
    obtain ⟨rfl, rfl, hlt, hl, hr⟩ := h
    have hm := mid_bd hlt
    simp only [piecesT]
    rw [piecesT_out hl (by omega), piecesT_out hr (by omega)]
    rfl

/-- The first region of 'pieces' gives this. -/
def BegunX (w : World) (lo hi a c : Int) (s7 : Value) (wc : World) : Prop :=
  ∃ x, s7 = .pointer (some ⟨x, 0, none⟩) ∧ TwoAt wc x (max lo a) (min hi c) ∧ TwoAt wc w.heap.size a c ∧ Adds w wc ∧ w.heap.size ≤ x

set_option maxRecDepth 100000 in
set_option maxHeartbeats 1000000 in
theorem pieces_out (b g : Nat) (lb : Array Value) (t : Tree) (lo hi a c : Int) (w : World) (ht : IsTree w b t) (hok : t.ok lo hi) (h1 : 1 ≤ lo) (h3 : hi ≤ 1000000) (ha : 1 ≤ a) (hc : c ≤ 1000000) (ha2 : a ≤ 1000000) (hc2 : 1 ≤ c)
    (hout : c < lo ∨ hi < a) :
    Calls Try.prog 100 #[.pointer (some ⟨b, 0, none⟩), .agg #[.int .i64 a, .int .i64 c], .func (.func g) #[] lb] w fun e w' => e = .returned (.bool true) ∧ Adds w w' := by
  have hle := Tree.ok_le hok
  have hn : ∃ p l r, NodeAt w b lo hi p l r := by
    cases t with
    | leaf x y p => obtain ⟨rfl, rfl, _⟩ := hok; exact ⟨p, none, none, ht⟩
    | node x y p l r => obtain ⟨rfl, rfl, _⟩ := hok; obtain ⟨bl, br, h, _⟩ := ht; exact ⟨p, _, _, h⟩
  clear ht hok
  obtain ⟨p, l, r, c0, c1, c2, c3, c4, c5, c6, c7, _⟩ := hn
  have hlt := cell_lt c0
  have hsz : min hi c - max lo a + 1 < 1 := by omega
  have hz1 : -1000000 ≤ min hi c := by omega
  have hz2 : min hi c ≤ 1000000 := by omega
  have hz3 : -1000000 ≤ max lo a := by omega
  have hz4 : max lo a ≤ 1000000 := by omega
  go_enter Try.func100, Try.ntmps100
  go_wp2_with fail
  have HP : TwoAt (w.alloc (.cells #[.int .i64 a, .int .i64 c] 124)) w.heap.size a c := by constructor <;> go_simp
  go_cut [7] (fun s7 wc => Begun w lo hi a c s7 wc)
  case first =>
    go_region_held3 (fun w' => w'.cell? ⟨b, 0, none⟩ = some (.int .i64 lo) ∧ w'.cell? ⟨b, 1, none⟩ = some (.int .i64 hi) ∧ w'.cell? ⟨w.heap.size, 0, none⟩ = some (.int .i64 a) ∧ w'.cell? ⟨w.heap.size, 1, none⟩ = some (.int .i64 c))
      (first | (go_keep; done) | (refine ⟨keep_cell ?_ c0, keep_cell ?_ c1, keep_cell ?_ HP.1, keep_cell ?_ HP.2⟩ <;> repeat (first | exact Adds.refl _ | exact hb | exact hb5 | exact hb6 | apply Adds.drew | apply Adds.drewN | apply Adds.alloc | refine Adds.set ?_ (by first | (simp; done) | (simp; omega)) _ | refine Adds.trans ?_ hb | refine Adds.trans ?_ hb5 | refine Adds.trans ?_ hb6)) | ((repeat' apply And.intro) <;> go_keep))
      ((go_simp; go_at_call 114; refine (common_any lo hi a c _).mono ?_; rintro e w1 ⟨rfl, hb⟩; obtain ⟨hc, hf⟩ := bcell hb))
    all_goals
      go_wp2_with fail
      go_meet
      exact ⟨_, rfl, ⟨by go_simp, by go_simp⟩, HP.later (by repeat (first | exact Adds.refl _ | exact hb | exact hb5 | exact hb6 | apply Adds.drew | apply Adds.drewN | apply Adds.alloc | refine Adds.set ?_ (by first | (simp; done) | (simp; omega)) _ | refine Adds.trans ?_ hb | refine Adds.trans ?_ hb5 | refine Adds.trans ?_ hb6)), by repeat (first | exact Adds.refl _ | exact hb | exact hb5 | exact hb6 | apply Adds.drew | apply Adds.drewN | apply Adds.alloc | refine Adds.set ?_ (by first | (simp; done) | (simp; omega)) _ | refine Adds.trans ?_ hb | refine Adds.trans ?_ hb5 | refine Adds.trans ?_ hb6)⟩
  case rest =>
    obtain ⟨x, rfl, ⟨x0, x1⟩, _, hb⟩ := hcut
    go_wp2_with (go_at_call 67; refine (count_any _ _ _ (by omega) (by omega) (by omega) (by omega)).mono ?_; rintro e w1 ⟨rfl, hb1⟩)
    go_ret
    exact ⟨rfl, hb.trans hb1⟩

set_option maxRecDepth 100000 in
set_option maxHeartbeats 1000000 in
theorem pieces_leaf (b g : Nat) (lb : Array Value) (p : Pk) (lo hi a c : Int) (w : World) (L : List Piece) (Z : Nat → Prop) (J Jx : (Nat → Prop) → List Piece → World → Prop) (hY : Yields g lb L Z J Jx) (O : Nat → Prop) (pre rest : List Piece)
    (hL : pre ++ (max lo a, min hi c, p) :: rest = L) (hJ : J O pre w)
    (hZ : ∀ k, Z k → k < w.heap.size) (hnb : ¬ (O b ∨ Z b)) (hn : NodeAt w b lo hi p none none) (hle : lo ≤ hi) (h1 : 1 ≤ lo) (h3 : hi ≤ 1000000) (ha : 1 ≤ a) (hc : c ≤ 1000000) (hin : max lo a ≤ min hi c) :
    Calls Try.prog 100 #[.pointer (some ⟨b, 0, none⟩), .agg #[.int .i64 a, .int .i64 c], .func (.func g) #[] lb] w (Yielded Z J Jx O w (pre ++ [(max lo a, min hi c, p)])) := by
  have HL := Lib.hid hL
  have HJ := Lib.hid hJ
  have HY := Lib.hid hY
  clear hL hJ
  obtain ⟨c0, c1, c2, c3, c4, c5, c6, c7, _⟩ := hn
  have hlt := cell_lt c0
  have hz1 : -1000000 ≤ min hi c := by omega
  have hz2 : min hi c ≤ 1000000 := by omega
  have hz3 : -1000000 ≤ max lo a := by omega
  have hz4 : max lo a ≤ 1000000 := by omega
  have hz5 : ¬ (min hi c - max lo a + 1 < 1) := by omega
  go_enter Try.func100, Try.ntmps100
  go_wp2_with fail
  have HP : TwoAt (w.alloc (.cells #[.int .i64 a, .int .i64 c] 124)) w.heap.size a c := by constructor <;> go_simp
  go_cut [7] (fun s7 wc => BegunX w lo hi a c s7 wc)
  case first =>
    go_region_held3 (fun w' => w'.cell? ⟨b, 0, none⟩ = some (.int .i64 lo) ∧ w'.cell? ⟨b, 1, none⟩ = some (.int .i64 hi) ∧ w'.cell? ⟨w.heap.size, 0, none⟩ = some (.int .i64 a) ∧ w'.cell? ⟨w.heap.size, 1, none⟩ = some (.int .i64 c))
      (first | (go_keep; done) | (refine ⟨keep_cell ?_ c0, keep_cell ?_ c1, keep_cell ?_ HP.1, keep_cell ?_ HP.2⟩ <;> repeat (first | exact Adds.refl _ | exact hb | exact hb5 | exact hb6 | apply Adds.drew | apply Adds.drewN | apply Adds.alloc | refine Adds.set ?_ (by first | (simp; done) | (simp; omega)) _ | refine Adds.trans ?_ hb | refine Adds.trans ?_ hb5 | refine Adds.trans ?_ hb6)) | ((repeat' apply And.intro) <;> go_keep))
      ((go_simp; go_at_call 114; refine (common_any lo hi a c _).mono ?_; rintro e w1 ⟨rfl, hb⟩; obtain ⟨hc, hf⟩ := bcell hb))
    all_goals
      go_wp2_with fail
      go_meet
      exact ⟨_, rfl, ⟨by go_simp, by go_simp⟩, HP.later (by repeat (first | exact Adds.refl _ | exact hb | exact hb5 | exact hb6 | apply Adds.drew | apply Adds.drewN | apply Adds.alloc | refine Adds.set ?_ (by first | (simp; done) | (simp; omega)) _ | refine Adds.trans ?_ hb | refine Adds.trans ?_ hb5 | refine Adds.trans ?_ hb6)), by repeat (first | exact Adds.refl _ | exact hb | exact hb5 | exact hb6 | apply Adds.drew | apply Adds.drewN | apply Adds.alloc | refine Adds.set ?_ (by first | (simp; done) | (simp; omega)) _ | refine Adds.trans ?_ hb | refine Adds.trans ?_ hb5 | refine Adds.trans ?_ hb6), by have := hb.size; simp at this ⊢ <;> omega⟩
  case rest =>
    obtain ⟨x, rfl, ⟨x0, x1⟩, _, hb, hxw⟩ := hcut
    go_wp2_with (first
      | (go_at_call 67; refine (count_any (max lo a) (min hi c) _ (by omega) (by omega) (by omega) (by omega)).mono ?_; rintro e w1 ⟨rfl, hb1⟩)
      | (go_at_call 98; refine (uniform_leaf b _ (keep_cell (hb.trans hb1) c6)).mono ?_; rintro e w' ⟨rfl, rfl⟩))
    have hw : Adds w w1 := hb.trans hb1
    have y0 := keep_cell hb1 x0
    have y1 := keep_cell hb1 x1
    have d2 := keep_cell hw c2
    have d3 := keep_cell hw c3
    have d4 := keep_cell hw c4
    have d5 := keep_cell hw c5
    clear c0 c1 c2 c3 c4 c5 c6 c7 x0 x1 hb hb1
    have he := hY.enter
    have NX : Hid (¬ (O x ∨ Z x)) := Lib.hid (fun h => h.elim (fun h => by have := hY.lt _ _ _ HJ.out x h; omega) (fun h => by have := hZ x h; omega))
    have NB := Lib.hid hnb
    clear hY hnb hZ
    go_region_held3 (fun w' => w'.cell? ⟨x, 0, none⟩ = some (.int .i64 (max lo a)) ∧ w'.cell? ⟨x, 1, none⟩ = some (.int .i64 (min hi c)) ∧ w'.cell? ⟨b, 2, none⟩ = some (.int .i64 p.st) ∧ w'.cell? ⟨b, 3, none⟩ = some (.int .i64 p.lot) ∧ w'.cell? ⟨b, 4, none⟩ = some (.int .i64 p.own) ∧ w'.cell? ⟨b, 5, none⟩ = some (.int .i64 p.hold))
      (first | (go_keep; done) | exact ⟨touch_cell ht NX.out y0, touch_cell ht NX.out y1, touch_cell ht NB.out d2, touch_cell ht NB.out d3, touch_cell ht NB.out d4, touch_cell ht NB.out d5⟩)
      ((go_simp; refine (HY.out.call O pre (max lo a, min hi c, p) rest _ HL.out (by exact HY.out.st _ _ _ _ HJ.out hw.drew)).mono ?_; rintro e w3 ⟨v, O', rfl, ht0, hy1, hy2⟩; have ht := Touch.before ((Adds.refl _).drew) ht0; have HY1 := Lib.hid hy1; have HY2 := Lib.hid hy2; clear hy1 hy2 ht0))
    go_wp2
    go_ret
    have h := HY1.out
    exact ⟨v, O', rfl, ht.before hw, fun e => ⟨(h e).1, ((h e).2.before (Adds.refl _).drew).before hw⟩, HY2.out⟩

set_option maxRecDepth 100000 in
set_option maxHeartbeats 2000000 in
theorem pieces_node (b g : Nat) (lb : Array Value) (p : Pk) (tl tr : Tree) (bl br : Nat) (lo hi a c : Int) (w : World) (L : List Piece) (Z : Nat → Prop) (J Jx : (Nat → Prop) → List Piece → World → Prop) (hY : Yields g lb L Z J Jx) (O : Nat → Prop) (pre rest : List Piece)
    (hL : pre ++ (piecesT a c tl ++ piecesT a c tr) ++ rest = L) (hJ : J O pre w) (hZ : ∀ k, Z k → k < w.heap.size) (hnb : ¬ (O b ∨ Z b)) (hn : NodeAt w b lo hi p (some ⟨bl, 0, none⟩) (some ⟨br, 0, none⟩))
    (htl : TreeIn (fun k => ¬ (O k ∨ Z k)) w bl tl) (htr : TreeIn (fun k => ¬ (O k ∨ Z k)) w br tr) (hokl : tl.ok lo (mid lo hi)) (hokr : tr.ok (mid lo hi + 1) hi) (hle : lo < hi) (h1 : 1 ≤ lo) (h3 : hi ≤ 1000000) (ha : 1 ≤ a) (hc : c ≤ 1000000) (hin : max lo a ≤ min hi c)
    (ih : ∀ (t' : Tree) (b' : Nat) (lo' hi' : Int) (w' : World) (O' : Nat → Prop) (pre' rest' : List Piece), lo' ≤ hi' → hi' - lo' < hi - lo → t'.ok lo' hi' → 1 ≤ lo' → hi' ≤ 1000000 → TreeIn (fun k => ¬ (O' k ∨ Z k)) w' b' t' → J O' pre' w' → (∀ k, Z k → k < w'.heap.size) → pre' ++ piecesT a c t' ++ rest' = L →
      Calls Try.prog 100 #[.pointer (some ⟨b', 0, none⟩), .agg #[.int .i64 a, .int .i64 c], .func (.func g) #[] lb] w' (Passed Z J Jx O' w' (pre' ++ piecesT a c t'))) :
    Calls Try.prog 100 #[.pointer (some ⟨b, 0, none⟩), .agg #[.int .i64 a, .int .i64 c], .func (.func g) #[] lb] w (Passed Z J Jx O w (pre ++ (piecesT a c tl ++ piecesT a c tr))) := by
  have HL := Lib.hid hL
  have HJ := Lib.hid hJ
  have HY := Lib.hid hY
  have HTL := Lib.hid htl
  have HTR := Lib.hid htr
  have HKL := Lib.hid hokl
  have HKR := Lib.hid hokr
  have IH := Lib.hid ih
  have HZ := Lib.hid hZ
  have hm := mid_bd hle
  clear hL hJ htl htr hokl hokr ih
  obtain ⟨c0, c1, c2, c3, c4, c5, c6, c7, _⟩ := hn
  clear c2 c3 c4 c5
  have hlt := cell_lt c0
  have hz1 : -1000000 ≤ min hi c := by omega
  have hz2 : min hi c ≤ 1000000 := by omega
  have hz3 : -1000000 ≤ max lo a := by omega
  have hz4 : max lo a ≤ 1000000 := by omega
  have hz5 : ¬ (min hi c - max lo a + 1 < 1) := by omega
  go_enter Try.func100, Try.ntmps100
  go_wp2_with fail
  have HP : TwoAt (w.alloc (.cells #[.int .i64 a, .int .i64 c] 124)) w.heap.size a c := by constructor <;> go_simp
  go_cut [7] (fun s7 wc => BegunX w lo hi a c s7 wc)
  case first =>
    go_region_held3 (fun w' => w'.cell? ⟨b, 0, none⟩ = some (.int .i64 lo) ∧ w'.cell? ⟨b, 1, none⟩ = some (.int .i64 hi) ∧ w'.cell? ⟨w.heap.size, 0, none⟩ = some (.int .i64 a) ∧ w'.cell? ⟨w.heap.size, 1, none⟩ = some (.int .i64 c))
      (first | (go_keep; done) | (refine ⟨keep_cell ?_ c0, keep_cell ?_ c1, keep_cell ?_ HP.1, keep_cell ?_ HP.2⟩ <;> repeat (first | exact Adds.refl _ | exact hb | exact hb5 | exact hb6 | apply Adds.drew | apply Adds.drewN | apply Adds.alloc | refine Adds.set ?_ (by first | (simp; done) | (simp; omega)) _ | refine Adds.trans ?_ hb | refine Adds.trans ?_ hb5 | refine Adds.trans ?_ hb6)) | ((repeat' apply And.intro) <;> go_keep))
      ((go_simp; go_at_call 114; refine (common_any lo hi a c _).mono ?_; rintro e w1 ⟨rfl, hb⟩; obtain ⟨hc, hf⟩ := bcell hb))
    all_goals
      go_wp2_with fail
      go_meet
      exact ⟨_, rfl, ⟨by go_simp, by go_simp⟩, HP.later (by repeat (first | exact Adds.refl _ | exact hb | exact hb5 | exact hb6 | apply Adds.drew | apply Adds.drewN | apply Adds.alloc | refine Adds.set ?_ (by first | (simp; done) | (simp; omega)) _ | refine Adds.trans ?_ hb | refine Adds.trans ?_ hb5 | refine Adds.trans ?_ hb6)), by repeat (first | exact Adds.refl _ | exact hb | exact hb5 | exact hb6 | apply Adds.drew | apply Adds.drewN | apply Adds.alloc | refine Adds.set ?_ (by first | (simp; done) | (simp; omega)) _ | refine Adds.trans ?_ hb | refine Adds.trans ?_ hb5 | refine Adds.trans ?_ hb6), by have := hb.size; simp at this ⊢ <;> omega⟩
  case rest =>
    obtain ⟨x, rfl, ⟨x0, x1⟩, hp, hb, hxw⟩ := hcut
    clear HP
    go_wp2_with (first
      | (go_at_call 67; refine (count_any (max lo a) (min hi c) _ (by omega) (by omega) (by omega) (by omega)).mono ?_; rintro e w1 ⟨rfl, hb1⟩)
      | (go_at_call 98; refine (uniform_node b bl _ (keep_cell (hb.trans hb1) c6)).mono ?_; rintro e w' ⟨rfl, rfl⟩))
    have hw : Adds w w1 := hb.trans hb1
    have d6 := keep_cell hw c6
    have d7 := keep_cell hw c7
    obtain ⟨p0, p1⟩ := hp.later hb1
    clear c0 c1 c6 c7 x0 x1 hb hb1 hxw hp
    have NB := Lib.hid hnb
    have NP : Hid (¬ (O w.heap.size ∨ Z w.heap.size)) := Lib.hid (fun h => h.elim (fun h => by have := hY.lt _ _ _ HJ.out _ h; omega) (fun h => by have := hZ _ h; omega))
    clear hY hnb hZ
    refine wp_region_held_drew (S := fun w' => w'.cell? ⟨b, 6, none⟩ = some (.pointer (some ⟨bl, 0, none⟩)) ∧ w'.cell? ⟨b, 7, none⟩ = some (.pointer (some ⟨br, 0, none⟩)) ∧ w'.cell? ⟨w.heap.size, 0, none⟩ = some (.int .i64 a) ∧ w'.cell? ⟨w.heap.size, 1, none⟩ = some (.int .i64 c)) (by kernel_rfl) ⟨by go_simp, by go_simp, by go_simp, by go_simp⟩ (fun hHeld => ?_)
    refine wpAnyH_take (i := 0) (oi := ⟨some 26, _, _, _, _, _⟩) (v := ?v1) rfl (by kernel_rfl) (by kernel_rfl) (by kernel_rfl) (fun _ _ _ h => h) (Or.inl ⟨by rfl, ?hy1⟩) (by assumption) ?rest1
    case hy1 => (intro w hSw; (try dsimp only at hSw); go_simp; try with_reducible rfl)
    try simp only [Act.put, List.setIfInBounds_toArray, List.set_cons_zero, List.set_cons_succ]
    refine wpAnyH_take (i := 1) (oi := ⟨some 27, _, _, _, _, _⟩) (v := ?v2) rfl (by kernel_rfl) (by kernel_rfl) (by kernel_rfl) (fun _ _ _ h => h) (Or.inl ⟨by rfl, ?hy2⟩) (by assumption) ?rest2
    case hy2 => (intro w hSw; (try dsimp only at hSw); go_simp; try with_reducible rfl)
    try simp only [Act.put, List.setIfInBounds_toArray, List.set_cons_zero, List.set_cons_succ]
    refine wpAnyH_take (i := 2) (oi := ⟨some 28, _, _, _, _, _⟩) (v := ?v3) rfl (by kernel_rfl) (by kernel_rfl) (by kernel_rfl) (fun _ _ _ h => h) (Or.inl ⟨by rfl, ?hy3⟩) (by assumption) ?rest3
    case hy3 => (intro w hSw; (try dsimp only at hSw); go_simp; try with_reducible rfl)
    try simp only [Act.put, List.setIfInBounds_toArray, List.set_cons_zero, List.set_cons_succ]
    refine wpAnyH_take (i := 3) (oi := ⟨some 29, _, _, _, _, _⟩) (v := ?v4) rfl (by kernel_rfl) (by kernel_rfl) (by kernel_rfl) (fun _ _ _ h => h) (Or.inl ⟨by rfl, ?hy4⟩) (by assumption) ?rest4
    case hy4 => (intro w hSw; (try dsimp only at hSw); go_simp; try with_reducible rfl)
    try simp only [Act.put, List.setIfInBounds_toArray, List.set_cons_zero, List.set_cons_succ]
    refine wpAnyH_take (i := 4) (oi := ⟨some 30, _, _, _, _, _⟩) (v := ?v5) rfl (by kernel_rfl) (by kernel_rfl) (by kernel_rfl) (fun _ _ _ h => h) (Or.inl ⟨by rfl, ?hy5⟩) (by assumption) ?rest5
    case hy5 => (intro w hSw; (try dsimp only at hSw); go_simp; try with_reducible rfl)
    try simp only [Act.put, List.setIfInBounds_toArray, List.set_cons_zero, List.set_cons_succ]
    refine wpAnyH_take (i := 5) (oi := ⟨some 31, _, _, _, _, _⟩) (v := ?v6) rfl (by kernel_rfl) (by kernel_rfl) (by kernel_rfl) (fun _ _ _ h => h) (Or.inl ⟨by rfl, ?hy6⟩) (by assumption) ?rest6
    case hy6 => (intro w hSw; (try dsimp only at hSw); go_simp; try with_reducible rfl)
    try simp only [Act.put, List.setIfInBounds_toArray, List.set_cons_zero, List.set_cons_succ]
    refine wpAnyH_ready (rs := [6]) (by kernel_rfl) (by simp) ?_
    refine AllReadyH.cons (o := ⟨some 32, _, _, _, _, _⟩) rfl (fun K hK => ?_) AllReadyH.nil
    go_simp
    (refine (IH.out tl bl lo (mid lo hi) _ O pre (piecesT a c tr ++ rest) (by omega) (by omega) HKL.out (by omega) (by omega) (by exact HTL.out.later hw.drew) (by exact HY.out.st _ _ _ _ HJ.out hw.drew) (by exact fun k hk => Nat.lt_of_lt_of_le (HZ.out k hk) hw.size) (by rw [← HL.out]; simp)).mono ?_; rintro e w3 ⟨v, O', rfl, ht0, hy1, hy2⟩; have ht := Touch.before ((Adds.refl _).drew) ht0; have HY1 := Lib.hid hy1; have HY2 := Lib.hid hy2; clear hy1 hy2 ht0)
    refine hK.out _ _ ?_ (fun hHeld => ?_)
    · exact ⟨touch_cell ht NB.out d6, touch_cell ht NB.out d7, touch_cell ht NP.out p0, touch_cell ht NP.out p1⟩
    clear hK K
    try simp only [Act.put, List.setIfInBounds_toArray, List.set_cons_zero, List.set_cons_succ]

    cases v
    · obtain ⟨pr, rs, e1, e2⟩ := HY2.out rfl
      have E1 := Lib.hid e1
      have E2 := Lib.hid e2
      clear e1 e2 HY1 HY2
      refine wpAnyH_take (i := 7) (oi := ⟨some 33, _, _, _, _, _⟩) (v := ?v7) rfl (by kernel_rfl) (by kernel_rfl) (by kernel_rfl) (fun _ _ _ h => h) (Or.inl ⟨by rfl, ?hy7⟩) (by assumption) ?rest7
      case hy7 => (intro w hSw; (try dsimp only at hSw); go_simp; try with_reducible rfl)
      try simp only [Act.put, List.setIfInBounds_toArray, List.set_cons_zero, List.set_cons_succ]
      refine wpAnyH_take (i := 8) (oi := ⟨some 34, _, _, _, _, _⟩) (v := undef) rfl (by kernel_rfl) (by kernel_rfl) (by kernel_rfl) (fun _ _ _ h => h) (Or.inr ⟨by rfl, rfl⟩) (by assumption) ?_
      try simp only [Act.put, List.setIfInBounds_toArray, List.set_cons_zero, List.set_cons_succ]
      refine wpAnyH_take (i := 9) (oi := ⟨some 35, _, _, _, _, _⟩) (v := undef) rfl (by kernel_rfl) (by kernel_rfl) (by kernel_rfl) (fun _ _ _ h => h) (Or.inr ⟨by rfl, rfl⟩) (by assumption) ?_
      try simp only [Act.put, List.setIfInBounds_toArray, List.set_cons_zero, List.set_cons_succ]
      refine wpAnyH_take (i := 10) (oi := ⟨some 36, _, _, _, _, _⟩) (v := undef) rfl (by kernel_rfl) (by kernel_rfl) (by kernel_rfl) (fun _ _ _ h => h) (Or.inr ⟨by rfl, rfl⟩) (by assumption) ?_
      try simp only [Act.put, List.setIfInBounds_toArray, List.set_cons_zero, List.set_cons_succ]
      refine wpAnyH_take (i := 11) (oi := ⟨some 37, _, _, _, _, _⟩) (v := undef) rfl (by kernel_rfl) (by kernel_rfl) (by kernel_rfl) (fun _ _ _ h => h) (Or.inr ⟨by rfl, rfl⟩) (by assumption) ?_
      try simp only [Act.put, List.setIfInBounds_toArray, List.set_cons_zero, List.set_cons_succ]
      refine wpAnyH_take (i := 12) (oi := ⟨some 38, _, _, _, _, _⟩) (v := undef) rfl (by kernel_rfl) (by kernel_rfl) (by kernel_rfl) (fun _ _ _ h => h) (Or.inr ⟨by rfl, rfl⟩) (by assumption) ?_
      try simp only [Act.put, List.setIfInBounds_toArray, List.set_cons_zero, List.set_cons_succ]
      refine wpAnyH_take (i := 13) (oi := ⟨some 39, _, _, _, _, _⟩) (v := undef) rfl (by kernel_rfl) (by kernel_rfl) (by kernel_rfl) (fun _ _ _ h => h) (Or.inr ⟨by rfl, rfl⟩) (by assumption) ?_
      try simp only [Act.put, List.setIfInBounds_toArray, List.set_cons_zero, List.set_cons_succ]
      refine wpAnyH_take (i := 14) (oi := ⟨some 40, _, _, _, _, _⟩) (v := undef) rfl (by kernel_rfl) (by kernel_rfl) (by kernel_rfl) (fun _ _ _ h => h) (Or.inr ⟨by rfl, rfl⟩) (by assumption) ?_
      try simp only [Act.put, List.setIfInBounds_toArray, List.set_cons_zero, List.set_cons_succ]
      refine wpAnyH_take (i := 15) (oi := ⟨some 41, _, _, _, _, _⟩) (v := ?v8) rfl (by kernel_rfl) (by kernel_rfl) (by kernel_rfl) (fun _ _ _ h => h) (Or.inl ⟨by rfl, ?hy8⟩) (by assumption) ?rest8
      case hy8 => (intro w hSw; (try dsimp only at hSw); go_simp; try with_reducible rfl)
      try simp only [Act.put, List.setIfInBounds_toArray, List.set_cons_zero, List.set_cons_succ]
      refine wpAnyH_take (i := 16) (oi := ⟨some 6, _, _, _, _, _⟩) (v := ?v9) rfl (by kernel_rfl) (by kernel_rfl) (by kernel_rfl) (fun _ _ _ h => h) (Or.inl ⟨by rfl, ?hy9⟩) (by assumption) ?rest9
      case hy9 => (intro w hSw; (try dsimp only at hSw); go_simp; try with_reducible rfl)
      try simp only [Act.put, List.setIfInBounds_toArray, List.set_cons_zero, List.set_cons_succ]
      refine wpAnyH_done (by kernel_rfl) ?_ _
      go_wp2
      go_ret
      exact ⟨false, O', rfl, ht.before hw, fun e => Bool.noConfusion e, fun _ => ⟨pr, rs ++ piecesT a c tr, by rw [← List.append_assoc, E1.out, List.append_assoc], E2.out⟩⟩
    · obtain ⟨hJ3, hg3⟩ := HY1.out rfl
      have HJ3 := Lib.hid hJ3
      have HG3 := Lib.hid ((hg3.before (Adds.refl _).drew))
      have HT3 := Lib.hid ((HTR.out.later hw).grow ht HG3.out.2)
      have hs3 := ht.size
      have hw1 := hw.size
      have hpl := cell_lt p0
      clear d6 d7 p0 p1
      obtain ⟨q1, q2, q3, q4⟩ := hHeld
      have N3b : Hid (¬ (O' b ∨ Z b)) := Lib.hid (fun h => h.elim (fun h => (HG3.out.2 b h).elim (fun h => NB.out (Or.inl h)) (fun h => by omega)) (fun h => NB.out (Or.inr h)))
      have N3p : Hid (¬ (O' w.heap.size ∨ Z w.heap.size)) := Lib.hid (fun h => h.elim (fun h => (HG3.out.2 _ h).elim (fun h => NP.out (Or.inl h)) (fun h => by omega)) (fun h => NP.out (Or.inr h)))
      have hHeld : (fun w' => w'.cell? ⟨b, 6, none⟩ = some (.pointer (some ⟨bl, 0, none⟩)) ∧ w'.cell? ⟨b, 7, none⟩ = some (.pointer (some ⟨br, 0, none⟩)) ∧ w'.cell? ⟨w.heap.size, 0, none⟩ = some (.int .i64 a) ∧ w'.cell? ⟨w.heap.size, 1, none⟩ = some (.int .i64 c)) w3 := ⟨q1, q2, q3, q4⟩
      clear hJ3 hg3
      refine wpAnyH_take (i := 7) (oi := ⟨some 33, _, _, _, _, _⟩) (v := ?v10) rfl (by kernel_rfl) (by kernel_rfl) (by kernel_rfl) (fun _ _ _ h => h) (Or.inl ⟨by rfl, ?hy10⟩) (by assumption) ?rest10
      case hy10 => (intro w hSw; (try dsimp only at hSw); go_simp; try with_reducible rfl)
      try simp only [Act.put, List.setIfInBounds_toArray, List.set_cons_zero, List.set_cons_succ]
      refine wpAnyH_take (i := 8) (oi := ⟨some 34, _, _, _, _, _⟩) (v := ?v11) rfl (by kernel_rfl) (by kernel_rfl) (by kernel_rfl) (fun _ _ _ h => h) (Or.inl ⟨by rfl, ?hy11⟩) (by assumption) ?rest11
      case hy11 => (intro w hSw; (try dsimp only at hSw); go_simp; try with_reducible rfl)
      try simp only [Act.put, List.setIfInBounds_toArray, List.set_cons_zero, List.set_cons_succ]
      refine wpAnyH_take (i := 9) (oi := ⟨some 35, _, _, _, _, _⟩) (v := ?v12) rfl (by kernel_rfl) (by kernel_rfl) (by kernel_rfl) (fun _ _ _ h => h) (Or.inl ⟨by rfl, ?hy12⟩) (by assumption) ?rest12
      case hy12 => (intro w hSw; (try dsimp only at hSw); go_simp; try with_reducible rfl)
      try simp only [Act.put, List.setIfInBounds_toArray, List.set_cons_zero, List.set_cons_succ]
      refine wpAnyH_take (i := 10) (oi := ⟨some 36, _, _, _, _, _⟩) (v := ?v13) rfl (by kernel_rfl) (by kernel_rfl) (by kernel_rfl) (fun _ _ _ h => h) (Or.inl ⟨by rfl, ?hy13⟩) (by assumption) ?rest13
      case hy13 => (intro w hSw; (try dsimp only at hSw); go_simp; try with_reducible rfl)
      try simp only [Act.put, List.setIfInBounds_toArray, List.set_cons_zero, List.set_cons_succ]
      refine wpAnyH_take (i := 11) (oi := ⟨some 37, _, _, _, _, _⟩) (v := ?v14) rfl (by kernel_rfl) (by kernel_rfl) (by kernel_rfl) (fun _ _ _ h => h) (Or.inl ⟨by rfl, ?hy14⟩) (by assumption) ?rest14
      case hy14 => (intro w hSw; (try dsimp only at hSw); go_simp; try with_reducible rfl)
      try simp only [Act.put, List.setIfInBounds_toArray, List.set_cons_zero, List.set_cons_succ]
      refine wpAnyH_take (i := 12) (oi := ⟨some 38, _, _, _, _, _⟩) (v := ?v15) rfl (by kernel_rfl) (by kernel_rfl) (by kernel_rfl) (fun _ _ _ h => h) (Or.inl ⟨by rfl, ?hy15⟩) (by assumption) ?rest15
      case hy15 => (intro w hSw; (try dsimp only at hSw); go_simp; try with_reducible rfl)
      try simp only [Act.put, List.setIfInBounds_toArray, List.set_cons_zero, List.set_cons_succ]
      refine wpAnyH_take (i := 13) (oi := ⟨some 39, _, _, _, _, _⟩) (v := ?v16) rfl (by kernel_rfl) (by kernel_rfl) (by kernel_rfl) (fun _ _ _ h => h) (Or.inl ⟨by rfl, ?hy16⟩) (by assumption) ?rest16
      case hy16 => (intro w hSw; (try dsimp only at hSw); go_simp; try with_reducible rfl)
      try simp only [Act.put, List.setIfInBounds_toArray, List.set_cons_zero, List.set_cons_succ]
      refine wpAnyH_ready (rs := [14]) (by kernel_rfl) (by simp) ?_
      refine AllReadyH.cons (o := ⟨some 40, _, _, _, _, _⟩) rfl (fun K hK => ?_) AllReadyH.nil
      go_simp
      (refine (IH.out tr br (mid lo hi + 1) hi _ O' (pre ++ piecesT a c tl) rest (by omega) (by omega) HKR.out (by omega) (by omega) (by exact HT3.out) (by exact HJ3.out) (by exact fun k hk => Nat.lt_of_lt_of_le (HZ.out k hk) (Nat.le_trans hw.size hs3)) (by rw [← HL.out]; simp)).mono ?_; rintro e w4 ⟨v2, O2, rfl, ht2, hy1, hy2⟩; have HY3 := Lib.hid hy1; have HY4 := Lib.hid hy2; clear hy1 hy2)
      refine hK.out _ _ ?_ (fun hHeld => ?_)
      · exact ⟨touch_cell ht2 N3b.out q1, touch_cell ht2 N3b.out q2, touch_cell ht2 N3p.out q3, touch_cell ht2 N3p.out q4⟩
      clear hK K
      try simp only [Act.put, List.setIfInBounds_toArray, List.set_cons_zero, List.set_cons_succ]
      refine wpAnyH_take (i := 15) (oi := ⟨some 41, _, _, _, _, _⟩) (v := ?v17) rfl (by kernel_rfl) (by kernel_rfl) (by kernel_rfl) (fun _ _ _ h => h) (Or.inl ⟨by rfl, ?hy17⟩) (by assumption) ?rest17
      case hy17 => (intro w hSw; (try dsimp only at hSw); go_simp; try with_reducible rfl)
      try simp only [Act.put, List.setIfInBounds_toArray, List.set_cons_zero, List.set_cons_succ]
      refine wpAnyH_take (i := 16) (oi := ⟨some 6, _, _, _, _, _⟩) (v := ?v18) rfl (by kernel_rfl) (by kernel_rfl) (by kernel_rfl) (fun _ _ _ h => h) (Or.inl ⟨by rfl, ?hy18⟩) (by assumption) ?rest18
      case hy18 => (intro w hSw; (try dsimp only at hSw); go_simp; try with_reducible rfl)
      try simp only [Act.put, List.setIfInBounds_toArray, List.set_cons_zero, List.set_cons_succ]
      refine wpAnyH_done (by kernel_rfl) ?_ _
      go_wp2
      go_ret
      refine ⟨v2, O2, rfl, (ht.trans HG3.out.2 ht2).before hw, fun e => ⟨by have := (HY3.out e).1; rwa [List.append_assoc] at this, ((HG3.out.trans (HY3.out e).2)).before hw⟩, fun e => ?_⟩
      obtain ⟨pr, rs, e1, e2⟩ := HY4.out e
      exact ⟨pr, rs, by rw [e1, List.append_assoc], e2⟩

theorem pieces_any (g : Nat) (lb : Array Value) (a c : Int) (ha : 1 ≤ a) (hc : c ≤ 1000000) (hac : a ≤ c) (L : List Piece) (Z : Nat → Prop) (J Jx : (Nat → Prop) → List Piece → World → Prop) (hY : Yields g lb L Z J Jx) :
    ∀ (k : Nat) (t : Tree) (b : Nat) (lo hi : Int) (w : World) (O : Nat → Prop) (pre rest : List Piece), hi - lo < k → t.ok lo hi → 1 ≤ lo → hi ≤ 1000000 → TreeIn (fun k => ¬ (O k ∨ Z k)) w b t → J O pre w → (∀ k, Z k → k < w.heap.size) → pre ++ piecesT a c t ++ rest = L →
      Calls Try.prog 100 #[.pointer (some ⟨b, 0, none⟩), .agg #[.int .i64 a, .int .i64 c], .func (.func g) #[] lb] w (Passed Z J Jx O w (pre ++ piecesT a c t)) := by
  intro k
  induction k with
  | zero => intro t b lo hi w O pre rest h1 hok; have := Tree.ok_le hok; omega
  | succ k ih =>
    intro t b lo hi w O pre rest hk hok h1 h3 ht hJ hZ hL
    have hle := Tree.ok_le hok
    by_cases hout : c < lo ∨ hi < a
    · refine (pieces_out b g lb t lo hi a c w ht.tree hok h1 h3 ha hc (by omega) (by omega) hout).mono ?_
      rintro e w' ⟨rfl, hadd⟩
      rw [piecesT_out hok hout, List.append_nil]
      exact ⟨true, O, rfl, .of_adds hadd _, fun _ => ⟨hY.st _ _ _ _ hJ hadd, .of_adds hadd O⟩, fun e => Bool.noConfusion e⟩
    · have hin : max lo a ≤ min hi c := by omega
      cases t with
      | leaf x y p =>
        obtain ⟨rfl, rfl, _⟩ := hok
        have hp : piecesT a c (.leaf x y p) = [(max x a, min y c, p)] := by simp only [piecesT]; rw [if_pos hin]
        rw [hp] at hL ⊢
        refine (pieces_leaf b g lb p x y a c w L Z J Jx hY O pre rest (by rw [← hL]; simp) hJ hZ ht.1 ht.2 hle h1 h3 ha hc hin).mono ?_
        rintro e w' ⟨v, O', he, htch, hy1, hy2⟩
        exact ⟨v, O', he, htch, hy1, fun e => ⟨_, [], List.append_nil _, hy2 e⟩⟩
      | node x y p l r =>
        obtain ⟨rfl, rfl, hlt, okl, okr⟩ := hok
        obtain ⟨h0, bl, br, hn, hl, hr⟩ := ht
        exact pieces_node b g lb p l r bl br x y a c w L Z J Jx hY O pre rest hL hJ hZ h0 hn hl hr okl okr hlt h1 h3 ha hc hin
          (fun t' b' lo' hi' w' O' pre' rest' k1 k2 k3 k4 k5 k6 k7 k8 k9 => ih t' b' lo' hi' w' O' pre' rest' (by omega) k3 k4 k5 k6 k7 k8 k9)

end Go.Proofs.Ytofaioabjkcaiaa
