/- do: a change done to the register and to the reference. -/
import Derived.Test.YtofaioabjkcaiaaBX
import Derived.Test.YtofaioabjkcaiaaAM
namespace Go.Proofs.Ytofaioabjkcaiaa
open Go.RowKit

/-- The reference lies apart from what a change of the register turns. -/
theorem ref_touch {B s : Nat} {v : Value} {bs : List Nat} {Ts : List Tree} {w w' : World} {g n c : Nat} {Ls : List (List Piece)} (hS : StockAt B w s v bs Ts) (h : RefAt w (.agg #[.slice (some ⟨g, 0, none⟩) n c]) Ls) (hg : g ≠ s)
    (ht : Touch (fun k => k = s ∨ v.ownBlock = some k) w w') : RefAt w' (.agg #[.slice (some ⟨g, 0, none⟩) n c]) Ls := by
  obtain ⟨p, cap, vs, hx, h1, h2, h3, h4, h5⟩ := h
  have sc := hS.box.cell 0
  simp only [List.getElem?_toArray, List.getElem?_cons_zero] at sc
  have hown : ∀ k, v.ownBlock = some k → ∃ q, w.cell? ⟨k, 0, none⟩ = some (.pointer q) := fun k hk => by
    rcases hS.slice with ⟨rfl, _⟩ | ⟨g0, cap0, rfl, hc, _⟩
    · simp [Value.ownBlock] at hk
    · simp only [Value.ownBlock, Option.some.injEq] at hk
      subst hk
      by_cases hb : bs = []
      · have := hS.nil hb; simp at this
      · exact ⟨_, hc 0 _ (List.getElem?_eq_getElem (List.length_pos_iff.2 hb))⟩
  have hsl : ∃ q m d, v = .slice q m d := by
    rcases hS.slice with ⟨rfl, _⟩ | ⟨g0, cap0, rfl, _⟩
    · exact ⟨_, _, _, rfl⟩
    · exact ⟨_, _, _, rfl⟩
  obtain ⟨q0, m0, d0, hv0⟩ := hsl
  have hxs : p = some ⟨g, 0, none⟩ := by
    simp only [Value.agg.injEq, Array.mk.injEq, List.cons.injEq, Value.slice.injEq, and_true] at hx
    exact hx.1.symm
  have hvs0 : ∃ q m d, vs[0]? = some (.slice q m d) := by
    have e := List.getElem?_eq_getElem h2
    obtain ⟨q, d, hv, _⟩ := h5 0 _ _ e (List.getElem?_eq_getElem (by omega))
    exact ⟨q, _, d, by rw [e, hv]⟩
  obtain ⟨qa, ma, da, hva⟩ := hvs0
  refine ⟨p, cap, vs, hx, h1, h2, h3, fun i u hu => ?_, fun i u l hu hl => ?_⟩
  · obtain ⟨g', hp, hc⟩ := h4 i u hu
    have hgg : g' = g := by rw [hxs] at hp; simp at hp; exact hp.symm
    refine ⟨g', hp, touch_cell ht ?_ hc⟩
    rintro (h | h)
    · exact hg (by rw [← hgg, h])
    · obtain ⟨q, hq⟩ := hown _ h
      obtain ⟨g2, hp2, hc2⟩ := h4 0 _ hva
      have : g2 = g' := by rw [hp] at hp2; simp at hp2; exact hp2.symm
      rw [this, hq] at hc2
      simp at hc2
  · obtain ⟨p', cap', hv, hc⟩ := h5 i u l hu hl
    refine ⟨p', cap', hv, fun j x hx' => ?_⟩
    obtain ⟨g1, hp, c0, c1, c2, c3, c4, c5⟩ := hc j x hx'
    have hn : ¬ (g1 = s ∨ v.ownBlock = some g1) := by
      have hl0 : 0 < l.length := by have := (List.getElem?_eq_some_iff.1 hx').1; omega
      obtain ⟨g2, hp2, e0, _⟩ := hc 0 _ (List.getElem?_eq_getElem hl0)
      have : g2 = g1 := by rw [hp] at hp2; simp at hp2; exact hp2.symm
      rw [this, Nat.zero_mul] at e0
      rintro (h | h)
      · rw [h, sc, hv0] at e0; simp at e0
      · obtain ⟨q, hq⟩ := hown _ h
        rw [hq] at e0; simp at e0
    exact ⟨g1, hp, touch_cell ht hn c0, touch_cell ht hn c1, touch_cell ht hn c2, touch_cell ht hn c3, touch_cell ht hn c4, touch_cell ht hn c5⟩

/-- What became of the reference. -/
def ROut (f : Int → Pk) (Ls : List (List Piece)) (a n : Int) (r : Bool) (rf : Pk → Int) (F : Pk → Pk) (c : Int) (g0 g1 : Nat) (x0 x1 : Value) (bd : Nat) (W : World) : Prop :=
  (c ≠ 0 ∧ x1 = x0 ∧ g1 = g0 ∧ (((r && validB a n) = false ∧ c = 1) ∨ ((r && validB a n) = true ∧ FirstErr rf f a n c)) ∧ RefAt W x1 Ls) ∨
  (c = 0 ∧ (r && validB a n) = true ∧ FirstErr rf f a n 0 ∧ bd ≤ g1 ∧ ∃ L', RefAt W x1 (Ls ++ [L']) ∧ Can (chgF f a n F) L' 1000001)

/-- What became of the register. -/
def SOut (T : Tree) (s : Nat) (v : Value) (bs : List Nat) (Ts : List Tree) (a n : Int) (r : Bool) (rf : Pk → Int) (F : Pk → Pk) (c : Int) (bd : Nat) (W : World) : Prop :=
  (c ≠ 0 ∧ (((r && validB a n) = false ∧ c = 1) ∨ ((r && validB a n) = true ∧ FirstErr rf T.look a n c)) ∧ StockAt W.heap.size W s v bs Ts) ∨
  (c = 0 ∧ (r && validB a n) = true ∧ FirstErr rf T.look a n 0 ∧ ∃ v' b T', StockAt W.heap.size W s v' (bs ++ [b]) (Ts ++ [T']) ∧ (∀ k, v'.ownBlock = some k → k = s ∨ v.ownBlock = some k ∨ bd ≤ k) ∧ ∀ k, 1 ≤ k → k ≤ 1000000 → T'.look k = chgF T.look a n F k)

theorem RefGot.out {f : Int → Pk} {Ls : List (List Piece)} {a n : Int} {r : Bool} {rf : Pk → Int} {F : Pk → Pk} {w w' : World} {e : Ending} {g0 n0 c0 : Nat} (h : RefGot f (.agg #[.slice (some ⟨g0, 0, none⟩) n0 c0]) Ls a n r rf F w e w') (hr : RefAt w (.agg #[.slice (some ⟨g0, 0, none⟩) n0 c0]) Ls) :
    ∃ c g1 n1 c1, e = .returned (.tuple #[.agg #[.slice (some ⟨g1, 0, none⟩) n1 c1], .int .i64 c]) ∧ Adds w w' ∧ ROut f Ls a n r rf F c g0 g1 (.agg #[.slice (some ⟨g0, 0, none⟩) n0 c0]) (.agg #[.slice (some ⟨g1, 0, none⟩) n1 c1]) w.heap.size w' := by
  rcases h with ⟨h1, h2, h3⟩ | ⟨h1, c, h2, ⟨h3, h4, h5⟩ | ⟨h3, g, n', c', L', h4, h5, h6, h7, h8⟩⟩
  · exact ⟨1, g0, n0, c0, h2, h3, Or.inl ⟨by omega, rfl, rfl, Or.inl ⟨h1, rfl⟩, hr.later h3⟩⟩
  · exact ⟨c, g0, n0, c0, h4, h5, Or.inl ⟨h3, rfl, rfl, Or.inr ⟨h1, h2⟩, hr.later h5⟩⟩
  · subst h3
    exact ⟨0, g, n', c', h4, h8, Or.inr ⟨rfl, h1, h2, h5, L', h6, h7⟩⟩

theorem ChangeAll.out {w w' : World} {B s : Nat} {v : Value} {bs : List Nat} {Ts : List Tree} {a n : Int} {r : Bool} {rf : Pk → Int} {F : Pk → Pk} {e : Ending} (h : ChangeAll w s v bs Ts a n r rf F e w') (hS : StockAt B w s v bs Ts) :
    ∃ c, e = .returned (.int .i64 c) ∧ Touch (fun k => k = s ∨ v.ownBlock = some k) w w' ∧ SOut (treeOf Ts bs.length) s v bs Ts a n r rf F c w.heap.size w' := by
  have ht := h.touch
  rcases h with ⟨h1, h2, h3⟩ | ⟨h1, ⟨k, k1, k2, k3, k4, k5, k6⟩ | ⟨k1, k2, v', b, T', k3, k4, k5⟩⟩
  · exact ⟨1, h2, ht, Or.inl ⟨by omega, Or.inl ⟨h1, rfl⟩, (hS.later h3).tight⟩⟩
  · exact ⟨_, k5, ht, Or.inl ⟨k3, Or.inr ⟨h1, Or.inr ⟨k, k1, k2, rfl, k3, k4⟩⟩, (hS.later k6).tight⟩⟩
  · exact ⟨0, k2, ht, Or.inr ⟨rfl, h1, Or.inl ⟨rfl, k1⟩, v', b, T', k3, fun j hj => (k5.2 j (Or.inr hj)).elim (fun h => h.elim Or.inl (fun h => Or.inr (Or.inl h))) (fun h => Or.inr (Or.inr h)), k4⟩⟩

theorem StockAt.put {B : Nat} {w : World} {s : Nat} {v : Value} {bs : List Nat} {Ts : List Tree} {b : Nat} {u : Value} {q : Option Addr} {n c : Nat} (h : StockAt B w s v bs Ts) (hb : w.cell? ⟨b, 0, none⟩ = some (.slice q n c)) (hs : b ≠ s) : StockAt (w.setCell ⟨b, 0, none⟩ u).heap.size (w.setCell ⟨b, 0, none⟩ u) s v bs Ts := by
  have hown : v.ownBlock ≠ some b := fun hk => by
    rcases h.slice with ⟨rfl, _⟩ | ⟨g0, cap0, rfl, hc, _⟩
    · simp [Value.ownBlock] at hk
    · simp only [Value.ownBlock, Option.some.injEq] at hk
      subst hk
      by_cases hb' : bs = []
      · have := h.nil hb'; simp at this
      · have := hc 0 _ (List.getElem?_eq_getElem (List.length_pos_iff.2 hb'))
        rw [hb] at this; simp at this
  refine ⟨h.box.far (by exact Ne.symm hs) _, ownsRow_setCell_other h.row (a := ⟨b, 0, none⟩) hown _, h.len, fun i b' T h1 h2 => ?_, h.sep, h.nil⟩
  obtain ⟨ht, hok⟩ := h.tree i b' T h1 h2
  refine ⟨?_, hok⟩
  have hp : TreeIn (fun k => (k ≠ s ∧ v.ownBlock ≠ some k ∧ k < w.heap.size) ∧ k ≠ b) w b' T := ht.tree.pred (fun k lo hi p l r hn => ⟨⟨(h.apart hn).1, (h.apart hn).2, cell_lt hn.1⟩, fun e => by subst e; have h0 := hn.1; rw [hb] at h0; simp at h0⟩)
  refine (hp.keep (w' := w.setCell ⟨b, 0, none⟩ u) (fun k _ hk => Below.heap_setCell _ _ _ _ (fun e => hk.2 (by exact e)))).mono (fun k hk => ⟨hk.1.1, hk.1.2.1, ?_⟩)
  have := hk.1.2.2
  simpa [World.setCell] using this

theorem ROut.put {f : Int → Pk} {Ls : List (List Piece)} {a n : Int} {r : Bool} {rf : Pk → Int} {F : Pk → Pk} {c : Int} {g0 g1 n1 c1 : Nat} {x0 : Value} {bd : Nat} {W : World} {b : Nat} {u : Value} {q : Option Addr} {n' c' : Nat}
    (h : ROut f Ls a n r rf F c g0 g1 x0 (.agg #[.slice (some ⟨g1, 0, none⟩) n1 c1]) bd W) (hg : g0 < b) (hbd : b < bd) (hb : W.cell? ⟨b, 0, none⟩ = some (.slice q n' c')) : ROut f Ls a n r rf F c g0 g1 x0 (.agg #[.slice (some ⟨g1, 0, none⟩) n1 c1]) bd (W.setCell ⟨b, 0, none⟩ u) := by
  rcases h with ⟨h1, h2, h3, h4, h5⟩ | ⟨h1, h2, h3, h4, L', h5, h6⟩
  · exact Or.inl ⟨h1, h2, h3, h4, h5.put (by omega) hb⟩
  · exact Or.inr ⟨h1, h2, h3, h4, L', h5.put (by omega) hb, h6⟩

theorem ROut.off {f : Int → Pk} {Ls : List (List Piece)} {a n : Int} {r : Bool} {rf : Pk → Int} {F : Pk → Pk} {c : Int} {g0 g1 : Nat} {x0 x1 : Value} {bd : Nat} {W : World} {s : Nat}
    (h : ROut f Ls a n r rf F c g0 g1 x0 x1 bd W) (hg : g0 ≠ s) (hs : s < bd) : g1 ≠ s := by
  rcases h with ⟨_, _, h3, _⟩ | ⟨_, _, _, h4, _⟩
  · rw [h3]; exact hg
  · omega

theorem ROut.touch {f : Int → Pk} {Ls : List (List Piece)} {a n : Int} {r : Bool} {rf : Pk → Int} {F : Pk → Pk} {c : Int} {g0 g1 n1 c1 : Nat} {x0 : Value} {bd : Nat} {W W' : World} {B s : Nat} {v : Value} {bs : List Nat} {Ts : List Tree}
    (h : ROut f Ls a n r rf F c g0 g1 x0 (.agg #[.slice (some ⟨g1, 0, none⟩) n1 c1]) bd W) (hg : g1 ≠ s) (hS : StockAt B W s v bs Ts) (ht : Touch (fun k => k = s ∨ v.ownBlock = some k) W W') : ROut f Ls a n r rf F c g0 g1 x0 (.agg #[.slice (some ⟨g1, 0, none⟩) n1 c1]) bd W' := by
  rcases h with ⟨h1, h2, h3, h4, h5⟩ | ⟨h1, h2, h3, h4, L', h5, h6⟩
  · exact Or.inl ⟨h1, h2, h3, h4, ref_touch hS h5 hg ht⟩
  · exact Or.inr ⟨h1, h2, h3, h4, L', ref_touch hS h5 hg ht, h6⟩

theorem SOut.put {T : Tree} {s : Nat} {v : Value} {bs : List Nat} {Ts : List Tree} {a n : Int} {r : Bool} {rf : Pk → Int} {F : Pk → Pk} {c : Int} {bd : Nat} {W : World} {b : Nat} {u : Value} {q : Option Addr} {n' c' : Nat}
    (h : SOut T s v bs Ts a n r rf F c bd W) (hb : W.cell? ⟨b, 0, none⟩ = some (.slice q n' c')) (hs : b ≠ s) : SOut T s v bs Ts a n r rf F c bd (W.setCell ⟨b, 0, none⟩ u) := by
  rcases h with ⟨h1, h2, h3⟩ | ⟨h1, h2, h3, v', b', T', h4, h5, h6⟩
  · exact Or.inl ⟨h1, h2, h3.put hb hs⟩
  · exact Or.inr ⟨h1, h2, h3, v', b', T', h4.put hb hs, h5, h6⟩

theorem SOut.low {T : Tree} {s : Nat} {v : Value} {bs : List Nat} {Ts : List Tree} {a n : Int} {r : Bool} {rf : Pk → Int} {F : Pk → Pk} {c : Int} {bd bd' : Nat} {W : World} (h : SOut T s v bs Ts a n r rf F c bd W) (hb : bd' ≤ bd) : SOut T s v bs Ts a n r rf F c bd' W := by
  rcases h with h | ⟨h1, h2, h3, v', b', T', h4, h5, h6⟩
  · exact Or.inl h
  · exact Or.inr ⟨h1, h2, h3, v', b', T', h4, fun k hk => (h5 k hk).imp id (fun h => h.imp id (fun h => Nat.le_trans hb h)), h6⟩

/-- What kind of change it is. -/
def Spec (z lt A B : Int) (r : Bool) (rf : Pk → Int) (FR FS : Pk → Pk) : Prop :=
  ((z = 0 ∨ z = 1) ∧ r = (inB 1000000 lt && inB 1000 A) ∧ rf = rfOut ∧ FR = (fun _ => ⟨1, lt, A, 0⟩) ∧ FS = (fun _ => ⟨1, lt, A, 0⟩)) ∨
  ((z = 2 ∨ z = 3) ∧ r = ((inB 1000 A && inB 1000 B) && (A != B)) ∧ rf = rfFree A ∧ FR = (fun q => whatF q ⟨0, 0, B, 0⟩ 1) ∧ FS = (fun q => ⟨q.st, q.lot, B, q.hold⟩)) ∨
  (z = 4 ∧ r = (inB 1000 A && inB 1000 B) ∧ rf = rfFree A ∧ FR = (fun q => whatF q ⟨0, 0, 0, B⟩ 2) ∧ FS = (fun q => ⟨q.st, q.lot, q.own, B⟩)) ∨
  (z = 5 ∧ r = inB 1000 A ∧ rf = rfHeld A ∧ FR = (fun q => whatF q ⟨0, 0, 0, 0⟩ 3) ∧ FS = (fun q => ⟨q.st, q.lot, q.own, 0⟩)) ∨
  (z = 6 ∧ r = inB 1000 A ∧ rf = rfHeld A ∧ FR = (fun q => whatF q ⟨0, 0, 0, 0⟩ 4) ∧ FS = (fun q => ⟨q.st, q.lot, A, 0⟩)) ∨
  (z = 7 ∧ r = inB 1000 A ∧ rf = rfFree A ∧ FR = (fun q => whatF q ⟨0, 0, 0, 0⟩ 5) ∧ FS = (fun _ => ⟨2, 0, 0, 0⟩))

theorem tmod8' (a : Int) : (IntKind.u64.wrap a).tmod 8 = 0 ∨ (IntKind.u64.wrap a).tmod 8 = 1 ∨ (IntKind.u64.wrap a).tmod 8 = 2 ∨ (IntKind.u64.wrap a).tmod 8 = 3 ∨ (IntKind.u64.wrap a).tmod 8 = 4 ∨ (IntKind.u64.wrap a).tmod 8 = 5 ∨ (IntKind.u64.wrap a).tmod 8 = 6 ∨ (IntKind.u64.wrap a).tmod 8 = 7 := by
  have h0 : 0 ≤ IntKind.u64.wrap a := by
    have : IntKind.u64.wrap a = a % 18446744073709551616 := by simp [IntKind.wrap, IntKind.signed, IntKind.bits]
    rw [this]; omega
  have k1 := Int.tmod_nonneg 8 h0
  have k2 := Int.tmod_lt_of_pos (IntKind.u64.wrap a) (show (0 : Int) < 8 by omega)
  omega

/-- The kind of a change, by its number. -/
def kindOf (k : Int) : Int := (IntKind.u64.wrap k).tmod 8

theorem touch_put {O : Nat → Prop} {w w' : World} {b : Nat} {u : Value} (h : Touch O w w') (hb : w.heap.size ≤ b) : Touch O w (w'.setCell ⟨b, 0, none⟩ u) :=
  ⟨h.os, h.tape, h.output, by have := h.size; simpa [World.setCell] using this, fun k hk hn => (Below.heap_setCell _ _ _ _ (fun e => by have : k = b := e; omega)).trans (h.same k hk hn)⟩

theorem box6' {w : World} {b : Nat} {x0 x1 x2 x3 x4 x5 : Value} {t : TypeId} (h : Box w b #[x0, x1, x2, x3, x4, x5] t) :
    w.cell? ⟨b, 0, none⟩ = some x0 ∧ w.cell? ⟨b, 1, none⟩ = some x1 ∧ w.cell? ⟨b, 2, none⟩ = some x2 ∧ w.cell? ⟨b, 3, none⟩ = some x3 ∧ w.cell? ⟨b, 4, none⟩ = some x4 ∧ w.cell? ⟨b, 5, none⟩ = some x5 :=
  ⟨h.cell 0, h.cell 1, h.cell 2, h.cell 3, h.cell 4, h.cell 5⟩

/-- What do returns. -/
def DoGot (s : Nat) (v : Value) (bs : List Nat) (Ts : List Tree) (f : Int → Pk) (g0 n0 c0 : Nat) (Ls : List (List Piece)) (kd a n lt A B : Int) (w : World) (e : Ending) (w' : World) : Prop :=
  ∃ r rf FR FS cR cS g1 n1 c1 bd, Spec (kindOf kd) lt A B r rf FR FS ∧ e = .returned (.tuple #[.agg #[.slice (some ⟨g1, 0, none⟩) n1 c1], .bool (cS == cR)]) ∧ w.heap.size ≤ bd ∧ g1 ≠ s ∧
    ROut f Ls a n r rf FR cR g0 g1 (.agg #[.slice (some ⟨g0, 0, none⟩) n0 c0]) (.agg #[.slice (some ⟨g1, 0, none⟩) n1 c1]) bd w' ∧ SOut (treeOf Ts bs.length) s v bs Ts a n r rf FS cS w.heap.size w' ∧ Touch (fun k => k = s ∨ v.ownBlock = some k) w w'

set_option maxRecDepth 100000 in
set_option maxHeartbeats 4000000 in
theorem do_any (Bd s : Nat) (v : Value) (bs : List Nat) (Ts : List Tree) (f : Int → Pk) (g0 n0 c0 : Nat) (Ls : List (List Piece)) (kd a n lt A B : Int) (w : World) (hS : StockAt Bd w s v bs Ts) (hlen : bs.length ≤ 1000000)
    (hR : RefAt w (.agg #[.slice (some ⟨g0, 0, none⟩) n0 c0]) Ls) (hg : g0 ≠ s) (hC : Can f (Ls.getLastD []) 1000001) (hLs : Ls.length < 1000000) :
    Calls Try.prog 15 #[.pointer (some ⟨s, 0, none⟩), .agg #[.slice (some ⟨g0, 0, none⟩) n0 c0], .agg #[.int .i64 kd, .int .i64 a, .int .i64 n, .int .i64 lt, .int .i64 A, .int .i64 B]] w (DoGot s v bs Ts f g0 n0 c0 Ls kd a n lt A B w) := by
  have hg0 : g0 < w.heap.size := by
    obtain ⟨p, cap, vs, hx, h1, h2, h3, h4, h5⟩ := hR
    obtain ⟨g, hp, hc⟩ := h4 0 _ (List.getElem?_eq_getElem h2)
    simp only [Value.agg.injEq, Array.mk.injEq, List.cons.injEq, Value.slice.injEq, and_true] at hx
    have := hx.1.trans hp
    simp only [Option.some.injEq, Addr.mk.injEq, and_true] at this
    rw [this]; exact cell_lt hc
  have HS := Lib.hid hS
  have HR := Lib.hid hR
  have HC := Lib.hid hC
  have hsw : s < w.heap.size := hS.box.lt
  have hno : Hid (∀ k, w.heap.size ≤ k → ¬ (k = s ∨ v.ownBlock = some k)) := Lib.hid (fun k hk h => h.elim (fun h => by omega) (fun h => by have := (hS.row.lt _ h).2; omega))
  clear hS hR hC
  go_enter Try.func15, Try.ntmps15
  go_upto_region 2 with fail
  obtain ⟨b4, hb4⟩ : ∃ k, k = w.heap.size := ⟨_, rfl⟩
  obtain ⟨b5, hb5⟩ : ∃ k, k = w.heap.size + 1 := ⟨_, rfl⟩
  obtain ⟨b6, hb6⟩ : ∃ k, k = w.heap.size + 1 + 1 := ⟨_, rfl⟩
  obtain ⟨W3, hW3⟩ : ∃ V, V = ((w.alloc (.cells #[.slice (some ⟨g0, 0, none⟩) n0 c0] 27)).alloc (.cells #[.int .i64 kd, .int .i64 a, .int .i64 n, .int .i64 lt, .int .i64 A, .int .i64 B] 34)).alloc (.cells #[.slice none 0 0] 27) := ⟨_, rfl⟩
  have A3 : Adds w W3 := by rw [hW3]; exact (((Adds.refl w).alloc _).alloc _).alloc _
  have X4 : Box W3 b4 #[.slice (some ⟨g0, 0, none⟩) n0 c0] 27 := by rw [hW3, hb4]; exact Box.later (Box.new w _ _) (((Adds.refl _).alloc _).alloc _)
  have X5 : Box W3 b5 #[.int .i64 kd, .int .i64 a, .int .i64 n, .int .i64 lt, .int .i64 A, .int .i64 B] 34 := by rw [hW3, hb5]; exact Box.later (new_at (w := w.alloc (.cells #[.slice (some ⟨g0, 0, none⟩) n0 c0] 27)) (by simp)) ((Adds.refl _).alloc _)
  have X6 : Box W3 b6 #[.slice none 0 0] 27 := by rw [hW3, hb6]; exact new_at (by simp)
  have hw4 : w.heap.size ≤ b4 := by omega
  have hw6 : w.heap.size ≤ b6 := by omega
  have h45 : b4 ≠ b5 := by omega
  have h46 : b4 ≠ b6 := by omega
  have h65 : b6 ≠ b5 := by omega
  have hbd : b4 < W3.heap.size ∧ b6 < W3.heap.size := ⟨X4.lt, X6.lt⟩
  rw [← hW3, ← hb6, ← hb5, ← hb4]
  have HA3 := Lib.hid A3
  have HX4 := Lib.hid X4
  have HX5 := Lib.hid X5
  have HX6 := Lib.hid X6
  have HRW : Hid (RefAt W3 (.agg #[.slice (some ⟨g0, 0, none⟩) n0 c0]) Ls) := Lib.hid (HR.out.later A3)
  have x4 := X4.cell 0
  have f4 := X4.free 0
  obtain ⟨z0, z1, z2, z3, z4, z5⟩ := box6' X5
  simp only [List.getElem?_toArray, List.getElem?_cons_zero] at x4
  clear hW3 hb4 hb5 hb6 A3 X4 X5 X6
  have hz8 := tmod8' kd
  rcases hz8 with hz8 | hz8 | hz8 | hz8 | hz8 | hz8 | hz8 | hz8
  all_goals
    go_wp2_with fail
    first
      | (go_at_call 46; refine (Enter_R _ Ls f a n lt A _ HRW.out HC.out hLs).mono ?_)
      | (go_at_call 47; refine (Move_R _ Ls f a n A B _ HRW.out HC.out hLs).mono ?_)
      | (go_at_call 48; refine (Pledge_R _ Ls f a n A B _ HRW.out HC.out hLs).mono ?_)
      | (go_at_call 49; refine (Release_R _ Ls f a n A _ HRW.out HC.out hLs).mono ?_)
      | (go_at_call 50; refine (Seize_R _ Ls f a n A _ HRW.out HC.out hLs).mono ?_)
      | (go_at_call 51; refine (Leave_R _ Ls f a n A _ HRW.out HC.out hLs).mono ?_)
    rintro e w4 hgot
    obtain ⟨cR, g1, n1, c1, rfl, A4, hro⟩ := hgot.out HRW.out
    have HRO := Lib.hid hro
    have Y4 := HX4.out.later A4
    have Y5 := HX5.out.later A4
    have Y6 := HX6.out.later A4
    have HY4 := Lib.hid Y4
    have HY5 := Lib.hid Y5
    have HY6 := Lib.hid Y6
    replace x4 := Y4.cell 0
    replace f4 := Y4.free 0
    obtain ⟨z0, z1, z2, z3, z4, z5⟩ := box6' Y5
    simp only [List.getElem?_toArray, List.getElem?_cons_zero] at x4
    have HA4 := Lib.hid A4
    clear hgot hro Y4 Y5 Y6 A4
    go_wp2_with fail
    obtain ⟨W5, hW5⟩ : ∃ V, V = w4.setCell ⟨b4, 0, none⟩ (.slice (some ⟨g1, 0, none⟩) n1 c1) := ⟨_, rfl⟩
    have A5 : Adds w W5 := by rw [hW5]; exact (HA3.out.trans HA4.out).set hw4 _
    have V4 : Box W5 b4 #[.slice (some ⟨g1, 0, none⟩) n1 c1] 27 := by rw [hW5]; exact HY4.out.set 0 _
    have V6 : Box W5 b6 #[.slice none 0 0] 27 := by rw [hW5]; exact HY6.out.far (by exact Ne.symm h46) _
    have HRO5 : Hid (ROut f Ls a n _ _ _ cR g0 g1 _ (.agg #[.slice (some ⟨g1, 0, none⟩) n1 c1]) W3.heap.size W5) := Lib.hid (by rw [hW5]; exact HRO.out.put (by omega) hbd.1 (HY4.out.cell 0))
    rw [← hW5]
    have HA5 := Lib.hid A5
    have HV4 := Lib.hid V4
    have HV6 := Lib.hid V6
    have HOFF := Lib.hid (HRO.out.off hg (by have := HA3.out.size; omega))
    clear hW5 A5 V4 V6 x4 f4
    first
      | (go_at_call 32; refine (enter_any Bd s v bs Ts a n lt A _ (HS.out.later HA5.out) hlen).mono ?_)
      | (go_at_call 33; refine (move_any Bd s v bs Ts a n A B _ (HS.out.later HA5.out) hlen).mono ?_)
      | (go_at_call 34; refine (pledge_any Bd s v bs Ts a n A B _ (HS.out.later HA5.out) hlen).mono ?_)
      | (go_at_call 35; refine (release_any Bd s v bs Ts a n A _ (HS.out.later HA5.out) hlen).mono ?_)
      | (go_at_call 36; refine (seize_any Bd s v bs Ts a n A _ (HS.out.later HA5.out) hlen).mono ?_)
      | (go_at_call 37; refine (leave_any Bd s v bs Ts a n A _ (HS.out.later HA5.out) hlen).mono ?_)
    rintro e w6 hch
    obtain ⟨cS, rfl, htch, hso⟩ := hch.out (HS.out.later HA5.out)
    have k4 := touch_cell htch (hno.out b4 hw4) (HV4.out.cell 0)
    have U6 : Box w6 b6 #[.slice none 0 0] 27 := HV6.out.same (htch.same _ HV6.out.lt (hno.out b6 hw6))
    have k6 := U6.cell 0
    have f6 := U6.free 0
    simp only [List.getElem?_toArray, List.getElem?_cons_zero] at k4 k6
    have HSO := Lib.hid hso
    have HTC := Lib.hid htch
    have HU6 := Lib.hid U6
    clear hch hso htch U6 z0 z1 z2 z3 z4 z5
    go_wp2_with fail
    refine bodyPost_ret (v := .tuple #[.agg #[.slice (some ⟨g1, 0, none⟩) n1 c1], .bool (cS == cR)]) ?_ rfl ⟨_, _, _, _, cR, cS, g1, n1, c1, W3.heap.size, ?_, rfl, HA3.out.size, HOFF.out, (HRO5.out.touch HOFF.out (HS.out.later HA5.out) HTC.out).put (by omega) hbd.2 k6, (HSO.out.low HA5.out.size).put k6 (by omega), touch_put (HTC.out.before HA5.out) hw6⟩
    · simp [results, Try.results15, go_sem, k4, k6]
    · first
        | exact Or.inl ⟨Or.inl hz8, rfl, rfl, rfl, rfl⟩
        | exact Or.inl ⟨Or.inr hz8, rfl, rfl, rfl, rfl⟩
        | exact Or.inr (Or.inl ⟨Or.inl hz8, rfl, rfl, rfl, rfl⟩)
        | exact Or.inr (Or.inl ⟨Or.inr hz8, rfl, rfl, rfl, rfl⟩)
        | exact Or.inr (Or.inr (Or.inl ⟨hz8, rfl, rfl, rfl, rfl⟩))
        | exact Or.inr (Or.inr (Or.inr (Or.inl ⟨hz8, rfl, rfl, rfl, rfl⟩)))
        | exact Or.inr (Or.inr (Or.inr (Or.inr (Or.inl ⟨hz8, rfl, rfl, rfl, rfl⟩))))
        | exact Or.inr (Or.inr (Or.inr (Or.inr (Or.inr ⟨hz8, rfl, rfl, rfl, rfl⟩))))
end Go.Proofs.Ytofaioabjkcaiaa
