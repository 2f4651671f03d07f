/- The plain part: what the pieces and the runs of a tree say of its pockets. -/
import Derived.Test.YtofaioabjkcaiaaI
namespace Go.Proofs.Ytofaioabjkcaiaa

/-- The list covers the pockets from a to c, in order, and says what f says. -/
def Cover (f : Int → Pk) : Int → Int → List Piece → Prop
  | a, c, [] => c + 1 = a
  | a, c, x :: l => x.1 = a ∧ x.1 ≤ x.2.1 ∧ (∀ n, x.1 ≤ n → n ≤ x.2.1 → f n = x.2.2) ∧ Cover f (x.2.1 + 1) c l

theorem Cover.le {f : Int → Pk} : ∀ {l : List Piece} {a c : Int}, Cover f a c l → a ≤ c + 1
  | [], a, c, h => by have : c + 1 = a := h; omega
  | x :: l, a, c, ⟨h1, h2, _, h4⟩ => by have := h4.le; omega

theorem Cover.append {f : Int → Pk} : ∀ {l l' : List Piece} {a m c : Int}, Cover f a m l → Cover f (m + 1) c l' → Cover f a c (l ++ l')
  | [], l', a, m, c, h, h' => by have e : m + 1 = a := h; subst e; exact h'
  | x :: l, l', a, m, c, ⟨h1, h2, h3, h4⟩, h' => ⟨h1, h2, h3, h4.append h'⟩

theorem Cover.congr {f g : Int → Pk} : ∀ {l : List Piece} {a c : Int}, (∀ n, a ≤ n → n ≤ c → f n = g n) → Cover f a c l → Cover g a c l
  | [], a, c, _, h => h
  | x :: l, a, c, hfg, ⟨h1, h2, h3, h4⟩ => ⟨h1, h2, fun n k1 k2 => by rw [← hfg n (by omega) (by have := h4.le; omega)]; exact h3 n k1 k2, h4.congr (fun n k1 k2 => hfg n (by omega) k2)⟩

/-- A prefix covers up to somewhere. -/
theorem Cover.split {f : Int → Pk} : ∀ {l l' : List Piece} {a c : Int}, Cover f a c (l ++ l') → ∃ m, Cover f a m l ∧ Cover f (m + 1) c l'
  | [], l', a, c, h => ⟨a - 1, by show a - 1 + 1 = a; omega, by rw [show a - 1 + 1 = a from by omega]; exact h⟩
  | x :: l, l', a, c, ⟨h1, h2, h3, h4⟩ => by
    obtain ⟨m, k1, k2⟩ := Cover.split (l := l) h4
    exact ⟨m, ⟨h1, h2, h3, k1⟩, k2⟩

/-- What covers says all. -/
theorem Cover.all {f : Int → Pk} {Q : Pk → Prop} : ∀ {l : List Piece} {a c : Int}, Cover f a c l → (∀ x ∈ l, Q x.2.2) → ∀ n, a ≤ n → n ≤ c → Q (f n)
  | [], a, c, h, _, n, k1, k2 => by have : c + 1 = a := h; omega
  | x :: l, a, c, ⟨h1, h2, h3, h4⟩, hq, n, k1, k2 => by
    by_cases hn : n ≤ x.2.1
    · rw [h3 n (by omega) hn]; exact hq x (by simp)
    · exact h4.all (fun y hy => hq y (by simp [hy])) n (by omega) k2

theorem pieces_cover {a c : Int} : ∀ {t : Tree} {lo hi : Int}, t.ok lo hi → max lo a ≤ min hi c → Cover t.look (max lo a) (min hi c) (piecesT a c t)
  | .leaf x y p, lo, hi, h, hin => by
    obtain ⟨rfl, rfl, _⟩ := h
    simp only [piecesT]
    rw [if_pos hin]
    exact ⟨rfl, hin, fun _ _ _ => rfl, rfl⟩
  | .node x y p l r, lo, hi, h, hin => by
    obtain ⟨rfl, rfl, hlt, hl, hr⟩ := h
    have hm := mid_bd hlt
    have e := Tree.ok_hi hl
    simp only [piecesT]
    by_cases h1 : max x a ≤ min (mid x y) c
    · by_cases h2 : max (mid x y + 1) a ≤ min y c
      · have k1 : Cover (Tree.node x y p l r).look (max x a) (min (mid x y) c) (piecesT a c l) := (pieces_cover hl h1).congr (fun n _ k => by rw [look_node, if_pos (by omega)])
        have k2 : Cover (Tree.node x y p l r).look (max (mid x y + 1) a) (min y c) (piecesT a c r) := (pieces_cover hr h2).congr (fun n k _ => by rw [look_node, if_neg (by omega)])
        refine k1.append ?_
        rw [show min (mid x y) c + 1 = max (mid x y + 1) a from by omega]
        exact k2
      · rw [piecesT_out hr (by omega), List.append_nil, show min y c = min (mid x y) c from by omega]
        exact (pieces_cover hl h1).congr (fun n _ k => by rw [look_node, if_pos (by omega)])
    · rw [piecesT_out hl (by omega), List.nil_append, show max x a = max (mid x y + 1) a from by omega]
      exact (pieces_cover hr (by omega)).congr (fun n k _ => by rw [look_node, if_neg (by omega)])

theorem merge_cover {f : Int → Pk} : ∀ {l : List Piece} {x y c : Int} {s : Pk}, x ≤ y → (∀ n, x ≤ n → n ≤ y → f n = s) → Cover f (y + 1) c l → Cover f x c (mergeT (x, y, s) l)
  | [], x, y, c, s, h1, h2, h3 => ⟨rfl, h1, h2, h3⟩
  | z :: l, x, y, c, s, h1, h2, ⟨k1, k2, k3, k4⟩ => by
    simp only [mergeT]
    by_cases hz : z.2.2 = s
    · rw [if_pos hz]
      refine merge_cover (by omega) (fun n n1 n2 => ?_) k4
      by_cases hn : n ≤ y
      · exact h2 n n1 hn
      · rw [k3 n (by omega) n2]; exact hz
    · rw [if_neg hz]
      refine ⟨rfl, h1, h2, ?_⟩
      have := merge_cover (x := z.1) (y := z.2.1) (s := z.2.2) k2 k3 k4
      rw [k1] at this
      have e : z = (y + 1, z.2.1, z.2.2) := by rw [← k1]
      rw [e]
      exact this

/-- No two neighbours say the same. -/
def Parted : List Piece → Prop
  | [] => True
  | [_] => True
  | x :: y :: l => x.2.2 ≠ y.2.2 ∧ Parted (y :: l)

theorem merge_head : ∀ (l : List Piece) (cur : Piece), ∃ z l', mergeT cur l = z :: l' ∧ z.1 = cur.1 ∧ z.2.2 = cur.2.2
  | [], cur => ⟨cur, [], rfl, rfl, rfl⟩
  | x :: l, cur => by
    simp only [mergeT]
    by_cases h : x.2.2 = cur.2.2
    · rw [if_pos h]; obtain ⟨z, l', e1, e2, e3⟩ := merge_head l (cur.1, x.2.1, cur.2.2); exact ⟨z, l', e1, e2, e3⟩
    · rw [if_neg h]; exact ⟨cur, _, rfl, rfl, rfl⟩

theorem merge_parted : ∀ (l : List Piece) (cur : Piece), Parted (mergeT cur l)
  | [], cur => trivial
  | x :: l, cur => by
    simp only [mergeT]
    by_cases h : x.2.2 = cur.2.2
    · rw [if_pos h]; exact merge_parted l _
    · rw [if_neg h]
      obtain ⟨z, l', e1, _, e3⟩ := merge_head l x
      have := merge_parted l x
      rw [e1] at this ⊢
      exact ⟨fun e => h (by rw [← e3]; exact e.symm), this⟩

theorem runs_cover {t : Tree} {lo hi a c : Int} (h : t.ok lo hi) (h1 : lo ≤ a) (h2 : a ≤ c) (h3 : c ≤ hi) : Cover t.look a c (runsT a c t) := by
  have hp := pieces_cover (a := a) (c := c) h (by omega)
  rw [show max lo a = a from by omega, show min hi c = c from by omega] at hp
  unfold runsT
  cases hl : piecesT a c t with
  | nil => rw [hl] at hp; have : c + 1 = a := hp; omega
  | cons x l =>
    rw [hl] at hp
    obtain ⟨k1, k2, k3, k4⟩ := hp
    have e : x.2.2 = t.look a := by rw [← k3 a (by omega) (by omega)]
    simp only [mergeT]
    rw [if_pos e]
    exact merge_cover (by omega) (fun n n1 n2 => by rw [← e]; exact k3 n (by omega) n2) k4

theorem runs_parted {t : Tree} {a c : Int} : Parted (runsT a c t) := merge_parted _ _

end Go.Proofs.Ytofaioabjkcaiaa
