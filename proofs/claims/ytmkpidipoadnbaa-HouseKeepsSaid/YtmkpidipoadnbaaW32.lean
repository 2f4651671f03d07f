/- What the closure of shares compares; rows that are filled. -/
import Derived.Test.YtmkpidipoadnbaaW31
import Derived.StillTailTactics
namespace Go.Proofs.Ytmkpidipoadnbaa
open Go Go.RowKit Go.Sort

def Filled (done : List Int) (n : Nat) : List Int := done ++ List.replicate (n - done.length) 0
theorem Filled.next {d : List Int} {n : Nat} {x : Int} {k : Nat} (hk : d.length = k) (h : k < n) : (Filled d n).set k x = Filled (d ++ [x]) n := by
  unfold Filled
  rw [List.set_append_right _ _ (by omega), hk, Nat.sub_self, show n - k = (n - (k + 1)) + 1 by omega, List.replicate_succ, List.set_cons_zero, List.length_append, hk, List.append_assoc]
  rfl
theorem Filled.full {d : List Int} {n : Nat} (h : d.length = n) : Filled d n = d := by
  unfold Filled
  rw [h, Nat.sub_self]
  simp
theorem Filled.len {d : List Int} {n : Nat} (h : d.length ≤ n) : (Filled d n).length = n := by
  unfold Filled
  rw [List.length_append, List.length_replicate]
  omega
theorem Filled.at {d : List Int} {n k : Nat} (hk : d.length = k) (h : k < n) : (Filled d n)[k]? = some 0 := by
  unfold Filled
  rw [List.getElem?_append_right (by omega), hk, Nat.sub_self, List.getElem?_replicate, if_pos (by omega)]

/-- A row of wide numbers in a block. -/
def RowD (w : World) (base g n : Nat) (l : List Int) : Prop := w.ownsRow base 89 2 (.slice (some ⟨g, 0, none⟩) n n) n (l.flatMap encW)
theorem RowD.cells {w : World} {base g n i : Nat} {l : List Int} {x : Int} (h : RowD w base g n l) (hx : l[i]? = some x) : w.cell? ⟨g, i * 2, none⟩ = some (.int .i64 (hiW x)) ∧ w.cell? ⟨g, i * 2 + 1, none⟩ = some (.int .u64 (loW x)) ∧ w.frozen? ⟨g, i * 2, none⟩ = false ∧ w.frozen? ⟨g, i * 2 + 1, none⟩ = false := by
  have h0 := own_cell h ((flat_get (f := encW) (k := 2) (fun _ => rfl) hx (show 0 < 2 by omega)).trans rfl)
  have h1 := own_cell h ((flat_get (f := encW) (k := 2) (fun _ => rfl) hx (show 1 < 2 by omega)).trans rfl)
  exact ⟨h0.1, h1.1, h0.2, h1.2⟩
theorem RowD.put {w : World} {base g n i : Nat} {l : List Int} (h : RowD w base g n l) (hi : i < l.length) (x : Int) : RowD ((w.setCell ⟨g, i * 2, none⟩ (.int .i64 (hiW x))).setCell ⟨g, i * 2 + 1, none⟩ (.int .u64 (loW x))) base g n (l.set i x) := by
  unfold RowD
  rw [← flatW_set x hi]
  exact own_put (own_put h _) _
theorem RowD.later {w w' : World} {base g n : Nat} {l : List Int} (h : RowD w base g n l) (ha : Adds w w') : RowD w' base g n l := own_later h ha
theorem RowD.touch {O : Nat → Prop} {w w' : World} {base g n : Nat} {l : List Int} (h : RowD w base g n l) (ht : Touch O w w') (hO : ¬ O g) : RowD w' base g n l :=
  own_same h fun k hk => by
    have e : k = g := by simpa [Value.ownBlock] using hk.symm
    subst e
    obtain ⟨_, _, h2⟩ := own_block h hk
    exact ht.same k (Array.getElem?_eq_some_iff.1 h2).1 hO
theorem RowD.far {w : World} {base g n : Nat} {l : List Int} (h : RowD w base g n l) {p : Addr} (hp : g ≠ p.block) (u : Value) : RowD (w.setCell p u) base g n l :=
  own_same h fun k hk => by
    have e : k = g := by simpa [Value.ownBlock] using hk.symm
    subst e
    exact Below.heap_setCell w p u k hp
theorem RowD.lt {w : World} {base g n : Nat} {l : List Int} (h : RowD w base g n l) : g < w.heap.size := by
  obtain ⟨_, _, h2⟩ := own_block h (show Value.ownBlock _ = some g from rfl)
  exact (Array.getElem?_eq_some_iff.1 h2).1
/-- A row that make has laid. -/
theorem made_rowI {t : TypeId} {k : IntKind} {w : World} {b n : Nat} (ho : w.ownsRow b t 1 (.slice (some ⟨b, 0, none⟩) n n) n (madeCells (Value.int k 0).cells (n * 1)).toList) : RowI t k w b n (List.replicate n 0) := by
  have hor := (own_rowI (made_row ho)).2
  rcases hor with ⟨h, _⟩ | ⟨g', cap', h, _, h2⟩
  · simp at h
  · simp only [Value.slice.injEq, Option.some.injEq, Addr.mk.injEq, and_true] at h
    obtain ⟨rfl, h3, rfl⟩ := h
    exact h2
/-- New rows, as blocks. -/
def blkW (n : Nat) : Obj := .cells (madeCells (encW 0).toArray (n * 2)) 89
def blkO (n : Nat) : Obj := .cells (madeCells (Value.int .i64 0).cells (n * 1)) 3
theorem run_makeW (n : Nat) (hn : n ≤ 1000) (W : World) : (Instr.makeSlice 111 (.int .i64 n) (.int .i64 n)).run Try.prog W = .ok (.slice (some ⟨W.heap.size, 0, none⟩) n n) (W.alloc (blkW n)) := by
  obtain ⟨j0, hj, hj0, hj1, hj2⟩ := info_parts info_wide
  have hr := run_make (P := Try.prog) W 111 89 j0 (.agg #[.int .i64 0, .int .u64 0]) Try.underlying111 hj hj0 .i64 .i64 n n (by omega) (Int.le_refl _) (by rw [hj2]; omega) (by omega)
  simp only [Int.toNat_natCast, hj1] at hr
  exact hr
theorem run_makeO (n : Nat) (hn : n ≤ 1000) (W : World) : (Instr.makeSlice 44 (.int .i64 n) (.int .i64 n)).run Try.prog W = .ok (.slice (some ⟨W.heap.size, 0, none⟩) n n) (W.alloc (blkO n)) := by
  obtain ⟨j0, hj, hj0, hj1, hj2⟩ := info_parts info_int
  have hr := run_make (P := Try.prog) W 44 3 j0 (.int .i64 0) Try.underlying44 hj hj0 .i64 .i64 n n (by omega) (Int.le_refl _) (by rw [hj2]; omega) (by omega)
  simp only [Int.toNat_natCast, hj1] at hr
  exact hr
theorem own_made {W : World} {xs : List Value} {t size n base : Nat} {cs : Array Value} (hc : cs.toList = xs) (hl : cs.size = n * size) (hb : base ≤ W.heap.size) (hn : n ≤ maxLen) : (W.alloc (.cells cs t)).ownsRow base t size (.slice (some ⟨W.heap.size, 0, none⟩) n n) n xs := by
  exact ⟨by rw [← hc, Array.length_toList, hl], .inr ⟨W.heap.size, n, cs, rfl, hb, World.alloc_heap_new W _, Nat.le_refl _, hn, hl, by rw [hc]; exact List.take_of_length_le (by rw [← hc, Array.length_toList, hl]; exact Nat.le_refl _)⟩⟩
theorem made_D {W : World} {n base : Nat} (hb : base ≤ W.heap.size) (hn : n ≤ 1000) : RowD (W.alloc (blkW n)) base W.heap.size n (List.replicate n 0) :=
  own_made (n := n) (size := 2) (cs := madeCells (encW 0).toArray (n * 2)) (made_flat (f := encW) (k := 2) 0 rfl (by omega)) (by unfold madeCells; simp) hb (by unfold maxLen; omega)
theorem made_O {W : World} {n : Nat} (hn : n ≤ 1000) : RowI 3 .i64 (W.alloc (blkO n)) W.heap.size n (List.replicate n 0) :=
  made_rowI (own_made (n := n) (size := 1) (cs := madeCells (Value.int .i64 0).cells (n * 1)) (base := W.heap.size) rfl (by unfold madeCells; simp) (Nat.le_refl _) (by unfold maxLen; omega))
theorem keep_far2 {w : World} {b o : Nat} {v : Value} {p : Addr} (hp : b ≠ p.block) (h : w.cell? ⟨b, o, none⟩ = some v) (u : Value) : (w.setCell p u).cell? ⟨b, o, none⟩ = some v :=
  (World.cell?_of_block (w := w) (a := ⟨b, o, none⟩) (Below.heap_setCell w p u b hp)).trans h
theorem made_D2 {W : World} {b n base : Nat} (e : b = W.heap.size) (hb : base ≤ W.heap.size) (hn : n ≤ 1000) : RowD (W.alloc (blkW n)) base b n (List.replicate n 0) := by subst e; exact made_D hb hn
theorem made_O2 {W : World} {b n : Nat} (e : b = W.heap.size) (hn : n ≤ 1000) : RowI 3 .i64 (W.alloc (blkO n)) b n (List.replicate n 0) := by subst e; exact made_O hn
theorem RowD.drew {w : World} {base g n : Nat} {l : List Int} (h : RowD w base g n l) : RowD w.drew base g n l := own_drawn h
theorem RowD.alloc {w : World} {base g n : Nat} {l : List Int} (h : RowD w base g n l) (o : Obj) : RowD (w.alloc o) base g n l := own_allocd h o
theorem RowI.allocd {t : TypeId} {k : IntKind} {w : World} {g cap : Nat} {l : List Int} (h : RowI t k w g cap l) (o : Obj) : RowI t k (w.alloc o) g cap l := h.later ((Adds.refl w).alloc o)
/-- What a step of the region may do that stores a quotient and a remainder. -/
def StS (bp br k : Nat) (q r : Int) (w1 w2 : World) : Prop := Adds w1 w2 ∨ w2 = (w1.setCell ⟨bp, 0, none⟩ (.int .i64 (hiW q))).setCell ⟨bp, 1, none⟩ (.int .u64 (loW q)) ∨ w2 = (w1.setCell ⟨br, k * 2, none⟩ (.int .i64 (hiW r))).setCell ⟨br, k * 2 + 1, none⟩ (.int .u64 (loW r))
theorem StS.refl {bp br k : Nat} {q r : Int} {w : World} : StS bp br k q r w w := .inl (Adds.refl w)
theorem StS.adds {bp br k : Nat} {q r : Int} {w w' : World} (h : Adds w w') : StS bp br k q r w w' := .inl h
theorem StS.putq {bp br k : Nat} {q r : Int} {w : World} : StS bp br k q r w ((w.setCell ⟨bp, 0, none⟩ (.int .i64 (hiW q))).setCell ⟨bp, 1, none⟩ (.int .u64 (loW q))) := .inr (.inl rfl)
theorem StS.putr {bp br k : Nat} {q r : Int} {w : World} : StS bp br k q r w ((w.setCell ⟨br, k * 2, none⟩ (.int .i64 (hiW r))).setCell ⟨br, k * 2 + 1, none⟩ (.int .u64 (loW r))) := .inr (.inr rfl)
structure SS (wv : World) (base bp br N k : Nat) (L0 : List Int) (r : Int) (wq : World) : Prop where
  t : Touch (fun y => y = bp ∨ y = br) wv wq
  b : ∃ c0 c1, Box wq bp #[c0, c1] 89
  d : RowD wq base br N L0 ∨ RowD wq base br N (L0.set k r)
section
variable {wv w1 w2 : World} {base bp br N k : Nat} {L0 : List Int} {q r : Int}
theorem SS.box (hs : StS bp br k q r w1 w2) (hne : bp ≠ br) (h : Box w1 bp #[.int .i64 (hiW q), .int .u64 (loW q)] 89) : Box w2 bp #[.int .i64 (hiW q), .int .u64 (loW q)] 89 := by
  rcases hs with hs | rfl | rfl
  · exact h.later hs
  · exact (h.set 0 _).set 1 _
  · exact (h.far (p := ⟨br, k * 2, none⟩) hne _).far (p := ⟨br, k * 2 + 1, none⟩) hne _
theorem SS.row (hs : StS bp br k q r w1 w2) (hne : br ≠ bp) (hk : k < L0.length) (h : RowD w1 base br N (L0.set k r)) : RowD w2 base br N (L0.set k r) := by
  rcases hs with hs | rfl | rfl
  · exact h.later hs
  · exact (h.far (p := ⟨bp, 0, none⟩) hne _).far (p := ⟨bp, 1, none⟩) hne _
  · have := h.put (i := k) (by rw [List.length_set]; exact hk) r
    rw [List.set_set] at this
    exact this
theorem SS.st (h : SS wv base bp br N k L0 r w1) (hs : StS bp br k q r w1 w2) (hne : bp ≠ br) (hk : k < L0.length) : SS wv base bp br N k L0 r w2 := by
  obtain ⟨t, ⟨c0, c1, b⟩, d⟩ := h
  rcases hs with hs | rfl | rfl
  · exact ⟨t.behind hs, ⟨c0, c1, b.later hs⟩, d.imp (fun x => x.later hs) (fun x => x.later hs)⟩
  · exact ⟨(t.set (p := ⟨bp, 0, none⟩) (.inl rfl) _).set (p := ⟨bp, 1, none⟩) (.inl rfl) _, ⟨_, _, (b.set 0 _).set 1 _⟩, d.imp (fun x => (x.far (p := ⟨bp, 0, none⟩) hne.symm _).far (p := ⟨bp, 1, none⟩) hne.symm _) (fun x => (x.far (p := ⟨bp, 0, none⟩) hne.symm _).far (p := ⟨bp, 1, none⟩) hne.symm _)⟩
  · refine ⟨(t.set (p := ⟨br, k * 2, none⟩) (.inr rfl) _).set (p := ⟨br, k * 2 + 1, none⟩) (.inr rfl) _, ⟨c0, c1, (b.far (p := ⟨br, k * 2, none⟩) hne _).far (p := ⟨br, k * 2 + 1, none⟩) hne _⟩, .inr ?_⟩
    rcases d with d | d
    · exact d.put hk r
    · have := d.put (i := k) (by rw [List.length_set]; exact hk) r
      rw [List.set_set] at this
      exact this
theorem SS.cells (h : SS wv base bp br N k L0 r w1) (hk : k < L0.length) : ∃ x, w1.cell? ⟨br, k * 2, none⟩ = some (.int .i64 (hiW x)) ∧ w1.cell? ⟨br, k * 2 + 1, none⟩ = some (.int .u64 (loW x)) ∧ w1.frozen? ⟨br, k * 2, none⟩ = false ∧ w1.frozen? ⟨br, k * 2 + 1, none⟩ = false := by
  rcases h.d with d | d
  · exact ⟨_, d.cells (List.getElem?_eq_getElem hk)⟩
  · exact ⟨r, d.cells (List.getElem?_set_self hk)⟩
theorem SS.put (h : SS wv base bp br N k L0 r w1) (hk : k < L0.length) : RowD ((w1.setCell ⟨br, k * 2, none⟩ (.int .i64 (hiW r))).setCell ⟨br, k * 2 + 1, none⟩ (.int .u64 (loW r))) base br N (L0.set k r) := by
  rcases h.d with d | d
  · exact d.put hk r
  · have := d.put (i := k) (by rw [List.length_set]; exact hk) r
    rw [List.set_set] at this
    exact this
end
set_option maxRecDepth 100000 in
set_option maxHeartbeats 1000000 in
theorem cmpS_any (cb gr n c a b : Nat) (v : Nat → Int) (w : World) (hb : w.cell? ⟨cb, 0, none⟩ = some (.slice (some ⟨gr, 0, none⟩) n c)) (ha : a < n) (hbn : b < n) (_hn : n ≤ 1000) (a0 : w.cell? ⟨gr, a * 2, none⟩ = some (.int .i64 (hiW (v a)))) (a1 : w.cell? ⟨gr, a * 2 + 1, none⟩ = some (.int .u64 (loW (v a)))) (b0 : w.cell? ⟨gr, b * 2, none⟩ = some (.int .i64 (hiW (v b)))) (b1 : w.cell? ⟨gr, b * 2 + 1, none⟩ = some (.int .u64 (loW (v b)))) :
    Calls Try.prog 75 #[.int .i64 a, .int .i64 b, .pointer (some ⟨cb, 0, none⟩)] w fun e w' => e = .returned (.int .i64 (cmpT (v b) (v a))) ∧ Adds w w' := by
  have ha2 : (a : Int) < (n : Int) := by omega
  have hb2 : (b : Int) < (n : Int) := by omega
  have ha0 : (0 : Int) ≤ (a : Int) := by omega
  have hb0 : (0 : Int) ≤ (b : Int) := by omega
  have HC := Lib.hid (fun W => compare_adds (v b) (v a) W)
  unfold wideV at HC
  obtain ⟨x, hx⟩ : ∃ x, x = v a := ⟨_, rfl⟩
  obtain ⟨y, hy⟩ : ∃ y, y = v b := ⟨_, rfl⟩
  rw [← hx] at a0 a1 HC ⊢
  rw [← hy] at b0 b1 HC ⊢
  clear hx hy
  go_enter Try.func75, Try.ntmps75
  go_upto_region 1 with fail
  go_still_tail 8, (by kernel_rfl)
  change wpList _ _ _ _ _ w.drew
  go_wp2_with (go_at_call 42; refine (HC.out _).mono ?_; rintro e w1 ⟨rfl, ha⟩; have HA := Lib.hid ha; clear ha)
  go_ret
  exact ⟨rfl, (Adds.refl w).drew.trans HA.out⟩

end Go.Proofs.Ytmkpidipoadnbaa
