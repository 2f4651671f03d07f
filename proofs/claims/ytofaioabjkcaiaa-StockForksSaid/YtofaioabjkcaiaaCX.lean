/- StockForks: a register forked; two registers beside each other, one of them changed. -/
import Derived.Test.YtofaioabjkcaiaaCA
import Derived.OwnWalk
import Derived.Lib.BufferMore
namespace Go.Proofs.Ytofaioabjkcaiaa
open Go.RowKit

theorem StockAt.first {B : Nat} {w : World} {s : Nat} {v : Value} {bs : List Nat} {Ts : List Tree} (h : StockAt B w s v bs Ts) : ∃ q n d, w.cell? ⟨s, 0, none⟩ = some (.slice q n d) := by
  have sc := h.box.cell 0
  simp only [List.getElem?_toArray, List.getElem?_cons_zero] at sc
  rcases h.slice with ⟨rfl, _⟩ | ⟨g0, cap0, rfl, _⟩
  · exact ⟨_, _, _, sc⟩
  · exact ⟨_, _, _, sc⟩

theorem StockAt.ownFirst {B : Nat} {w : World} {s : Nat} {v : Value} {bs : List Nat} {Ts : List Tree} (h : StockAt B w s v bs Ts) {k : Nat} (hk : v.ownBlock = some k) : ∃ b, w.cell? ⟨k, 0, none⟩ = some (.pointer (some ⟨b, 0, none⟩)) := by
  rcases h.slice with ⟨rfl, _⟩ | ⟨g0, cap0, rfl, hc, _⟩
  · simp [Value.ownBlock] at hk
  · simp only [Value.ownBlock, Option.some.injEq] at hk
    subst hk
    by_cases hb' : bs = []
    · have := h.nil hb'; simp at this
    · exact ⟨_, hc 0 _ (List.getElem?_eq_getElem (List.length_pos_iff.2 hb'))⟩

/-- A change of one register leaves another one as it is. -/
theorem StockAt.beside {B B' : Nat} {w w' : World} {s f : Nat} {v vf : Value} {bs bsf : List Nat} {Ts Tsf : List Tree} (h : StockAt B w s v bs Ts) (hf : StockAt B' w f vf bsf Tsf) (hsf : s ≠ f) (hv : ∀ k, vf.ownBlock = some k → v.ownBlock ≠ some k)
    (ht : Touch (fun k => k = f ∨ vf.ownBlock = some k) w w') : StockAt w'.heap.size w' s v bs Ts := by
  obtain ⟨qs, ns, ds, hs0⟩ := h.first
  obtain ⟨qf, nf, df, hf0⟩ := hf.first
  have n1 : ¬ (s = f ∨ vf.ownBlock = some s) := by
    rintro (e | e)
    · exact hsf e
    · obtain ⟨b, hb⟩ := hf.ownFirst e
      rw [hs0] at hb; simp at hb
  have n2 : ∀ k, v.ownBlock = some k → ¬ (k = f ∨ vf.ownBlock = some k) := by
    rintro k hk (e | e)
    · obtain ⟨b, hb⟩ := h.ownFirst hk
      rw [e, hf0] at hb; simp at hb
    · exact hv k e hk
  refine ⟨h.box.same (ht.same s h.box.lt n1), ownsRow_same h.row (fun k hk => ht.same k (h.row.lt k hk).2 (n2 k hk)), h.len, fun i b T h1 h2 => ?_, h.sep, h.nil⟩
  obtain ⟨htr, hok⟩ := h.tree i b T h1 h2
  refine ⟨?_, hok⟩
  have hp : TreeIn (fun k => (k ≠ s ∧ v.ownBlock ≠ some k ∧ k < w.heap.size) ∧ ¬ (k = f ∨ vf.ownBlock = some k)) w b T := htr.tree.pred (fun k lo hi p l r hn => ⟨⟨(h.apart hn).1, (h.apart hn).2, cell_lt hn.1⟩, by
    have h0 := hn.1
    rintro (e | e)
    · rw [e, hf0] at h0; simp at h0
    · obtain ⟨b', hb'⟩ := hf.ownFirst e
      rw [hb'] at h0; simp at h0⟩)
  exact (hp.keep (w' := w') (fun k hk hn => ht.same k hk hn.2)).mono (fun k hk => ⟨hk.1.1, hk.1.2.1, Nat.lt_of_lt_of_le hk.1.2.2 ht.size⟩)

theorem Link.beside {B : Nat} {w w' : World} {s f : Nat} {v vf : Value} {bs bsf : List Nat} {Ts Tsf : List Tree} {g0 n0 c0 : Nat} {Ls : List (List Piece)} (h : Link w s v bs Ts g0 n0 c0 Ls) (hf : StockAt B w f vf bsf Tsf) (hsf : s ≠ f) (hv : ∀ k, vf.ownBlock = some k → v.ownBlock ≠ some k) (hg : g0 ≠ f)
    (ht : Touch (fun k => k = f ∨ vf.ownBlock = some k) w w') : Link w' s v bs Ts g0 n0 c0 Ls :=
  ⟨h.stock.beside hf hsf hv ht, ref_touch hf h.ref hg ht, h.off, h.len, h.can, h.good⟩



set_option maxRecDepth 100000 in
set_option maxHeartbeats 2000000 in
theorem Clone_any (g n cap : Nat) (xs : List Nat) (w : World) (hn : n = xs.length) (h1 : 0 < n) (h2 : n ≤ 1000000) (hc : ∀ (i b : Nat), xs[i]? = some b → w.cell? ⟨g, i, none⟩ = some (.pointer (some ⟨b, 0, none⟩))) :
    Calls Try.prog 73 #[.slice (some ⟨g, 0, none⟩) n cap] w fun e w' => ∃ g9 c9, e = .returned (.slice (some ⟨g9, 0, none⟩) n c9) ∧ w'.ownsRow w.heap.size 112 1 (.slice (some ⟨g9, 0, none⟩) n c9) n (xs.map fun b => .pointer (some ⟨b, 0, none⟩)) ∧ Adds w w' := by
  have HC := Lib.hid hc
  have HN := Lib.hid hn
  clear hc hn
  obtain ⟨j0, hj, hj0, hj1, hj2⟩ := info_parts info112
  have HJ := Lib.hid hj
  have HJ0 := Lib.hid hj0
  have HJ1 := Lib.hid hj1
  have HJ2 := Lib.hid hj2
  clear hj hj0 hj1 hj2
  have hnil := fun (w : World) => Go.Lib.run_eql_slice_some_nil (P := Try.prog) w (⟨g, 0, none⟩ : Addr) n cap Try.underlying100
  go_enter Try.func73, Try.ntmps73
  have hw0 : ∀ V : World, V = w.alloc (.cells #[] 112) → V.ownsRow w.heap.size 112 1 (.slice (some ⟨w.heap.size, 0, none⟩) 0 0) 0 [] := fun V hV => by
    subst hV
    exact ⟨rfl, Or.inr ⟨w.heap.size, 0, #[], rfl, Nat.le_refl _, new_at rfl, Nat.le_refl _, by unfold maxLen; omega, rfl, rfl⟩⟩
  have hnews : Hid (∀ (j : Nat) (u : Value), (xs.map fun b => Value.pointer (some ⟨b, 0, none⟩))[j]? = some u → (w.alloc (.cells #[] 112)).cell? ((⟨g, 0, none⟩ : Addr).add j) = some u) := Lib.hid (news_add (fun j u hu => by
    rw [List.getElem?_map] at hu
    cases hx : xs[j]? with
    | none => rw [hx] at hu; simp at hu
    | some b =>
      rw [hx] at hu
      simp only [Option.map_some, Option.some.injEq] at hu
      subst hu
      exact keep_cell ((Adds.refl w).alloc (.cells #[] 112)) (HC.out j b hx)))
  go_wp2_with (at_builtin; ((refine wpList_append_lies _ rfl _ _ 100 rfl w.heap.size 112 j0 (.pointer none) 1 8 Try.underlying100 HJ.out HJ0.out HJ1.out HJ2.out rfl (by decide) (.slice (some ⟨w.heap.size, 0, none⟩) 0 0) 0 [] rfl (hw0 _ rfl) ⟨g, 0, none⟩ n cap (xs.map fun b => .pointer (some ⟨b, 0, none⟩)) rfl (by have := HN.out; simp; omega) hnews.out (by intro u hu; simp at hu; obtain ⟨b, _, rfl⟩ := hu; simp [Value.oneCell']) h1 (by unfold maxLen; omega) (by omega) (by simp) _ rfl ?_); intro g9 c9 Vc hown hgrow hgat hglt; have HOWN := Lib.hid hown; have HAD := Lib.hid (adds_touch (Adds.refl w) (row_grow (n := 0 + n) (cap := c9) ((Adds.refl w).alloc _) (v := .slice (some ⟨w.heap.size, 0, none⟩) 0 0) hgrow hgat).1 (fun k hk => by simp [Value.ownBlock] at hk; omega)); clear hown hgrow hgat))
  go_ret
  have h := HOWN.out
  simp only [Nat.zero_add, List.nil_append] at h
  exact ⟨g9, c9, by simp, h, HAD.out⟩

/-- A fork has the same versions, in a place of its own. -/
def ForkGot (w : World) (bs : List Nat) (Ts : List Tree) (e : Ending) (w' : World) : Prop :=
  ∃ f vf, e = .returned (.pointer (some ⟨f, 0, none⟩)) ∧ StockAt w'.heap.size w' f vf bs Ts ∧ w.heap.size ≤ f ∧ (∀ k, vf.ownBlock = some k → w.heap.size ≤ k) ∧ Adds w w'

theorem fork_stock {w W : World} {s f : Nat} {v u : Value} {bs : List Nat} {Ts : List Tree} (hS : StockAt w.heap.size w s v bs Ts) (hA : Adds w W) (hbox : Box W f #[u] 102) (hrow : W.ownsRow w.heap.size 112 1 u bs.length (bs.map fun b => .pointer (some ⟨b, 0, none⟩))) (hf : w.heap.size ≤ f) (hsep : u.ownBlock ≠ some f) (hnil : bs = [] → u = .slice none 0 0) :
    StockAt W.heap.size W f u bs Ts := by
  refine ⟨hbox, ⟨hrow.1, ?_⟩, hS.len, fun i b T h1 h2 => ?_, hsep, hnil⟩
  · rcases hrow.2 with h | ⟨g, cap, cur, a1, a2, a3⟩
    · exact Or.inl h
    · exact Or.inr ⟨g, cap, cur, a1, Nat.zero_le _, a3⟩
  · obtain ⟨ht, hok⟩ := hS.tree i b T h1 h2
    refine ⟨(ht.later hA).mono (fun k hk => ⟨by have := hk.2.2; omega, fun e => ?_, Nat.lt_of_lt_of_le hk.2.2 hA.size⟩), hok⟩
    have := (hrow.lt k e).1
    have := hk.2.2
    omega

set_option maxRecDepth 100000 in
set_option maxHeartbeats 2000000 in
theorem Fork_any (s : Nat) (v : Value) (bs : List Nat) (Ts : List Tree) (w : World) (hS : StockAt w.heap.size w s v bs Ts) (hlen : bs.length ≤ 1000000) : Calls Try.prog 31 #[.pointer (some ⟨s, 0, none⟩)] w (ForkGot w bs Ts) := by
  have hc := hS.box.cell 0
  simp only [List.getElem?_toArray, List.getElem?_cons_zero] at hc
  have HS := Lib.hid hS
  rcases hS.slice with ⟨rfl, hb⟩ | ⟨g, cap, rfl, hcl, hll⟩
  · have HBN := Lib.hid hb
    clear hS hb
    have hcl0 : Hid (∀ W : World, Calls Try.prog 73 #[.slice none 0 0] W fun e w' => e = .returned (.slice none 0 0) ∧ W = w') := Lib.hid (fun W => by
      have hnil := fun (w : World) => Go.Lib.run_eql_slice_nil_nil (P := Try.prog) w 0 0 Try.underlying100
      go_enter Try.func73, Try.ntmps73
      go_wp2
      go_ret
      exact ⟨rfl, rfl⟩)
    go_enter Try.func31, Try.ntmps31
    go_wp2_with (go_at_call 73; refine (hcl0.out _).mono ?_; rintro e w' ⟨rfl, rfl⟩)
    go_ret
    refine ⟨_, _, rfl, fork_stock HS.out ((Adds.refl w).alloc _) (Box.new _ _ _) ?_ (Nat.le_refl _) (by simp [Value.ownBlock]) (fun _ => rfl), Nat.le_refl _, fun k hk => by simp [Value.ownBlock] at hk, (Adds.refl w).alloc _⟩
    rw [HBN.out]
    exact World.ownsRow_nil _ _ _ _
  · obtain ⟨n, hn⟩ : ∃ n, n = bs.length := ⟨_, rfl⟩
    have h0 : 0 < n := by
      rcases Nat.eq_zero_or_pos n with h | h
      · have hb0 : bs = [] := List.length_eq_zero_iff.1 (by omega)
        have := hS.nil hb0
        simp at this
      · exact h
    rw [← hn] at hc hll hlen
    have HN := Lib.hid hn
    have hclo : Hid (∀ W : World, Adds w W → Calls Try.prog 73 #[.slice (some ⟨g, 0, none⟩) n cap] W fun e w' => ∃ g9 c9, e = .returned (.slice (some ⟨g9, 0, none⟩) n c9) ∧ w'.ownsRow W.heap.size 112 1 (.slice (some ⟨g9, 0, none⟩) n c9) n (bs.map fun b => .pointer (some ⟨b, 0, none⟩)) ∧ Adds W w') := Lib.hid (fun W hA => Clone_any g n cap bs W hn h0 hlen (fun i b hib => keep_cell hA (hcl i b hib)))
    clear hS hcl hn
    go_enter Try.func31, Try.ntmps31
    go_wp2_with (go_at_call 73; refine (hclo.out _ (Adds.refl w)).mono ?_; rintro e w3 ⟨g9, c9, rfl, hrow, hb3⟩; have HROW := Lib.hid hrow; have HB3 := Lib.hid hb3; clear hrow hb3)
    go_ret
    have hrow := HROW.out
    have hA : Adds w (w3.alloc (.cells #[.slice (some ⟨g9, 0, none⟩) n c9] 102)) := HB3.out.alloc _
    refine ⟨_, _, rfl, fork_stock HS.out hA (Box.new _ _ _) ?_ HB3.out.size ?_ (fun hb0 => ?_), HB3.out.size, fun k hk => (hrow.lt k hk).1, hA⟩
    · rw [← HN.out]
      exact ownsRow_same hrow (fun k hk => ((Adds.refl w3).alloc _).block k (hrow.lt k hk).2)
    · intro e
      have := (hrow.lt _ e).2
      omega
    · have := HN.out
      rw [hb0] at this
      simp at this
      omega

end Go.Proofs.Ytofaioabjkcaiaa

namespace Go.Proofs.Ytofaioabjkcaiaa
open Go.RowKit

/-- What do gives where both go together; the versions that there were stay. -/
def DoLink2 (s : Nat) (v : Value) (bs : List Nat) (Ts : List Tree) (g0 : Nat) (w : World) (e : Ending) (w' : World) : Prop :=
  ∃ v' bs' Ts' g1 n1 c1 Ls', e = .returned (.tuple #[.agg #[.slice (some ⟨g1, 0, none⟩) n1 c1], .bool true]) ∧ Link w' s v' bs' Ts' g1 n1 c1 Ls' ∧ bs.length ≤ bs'.length ∧ bs'.length ≤ bs.length + 1 ∧
    Touch (fun k => k = s ∨ v.ownBlock = some k) w w' ∧ (∀ k, v'.ownBlock = some k → k = s ∨ v.ownBlock = some k ∨ w.heap.size ≤ k) ∧ (∀ i, i ≤ bs.length → treeOf Ts' i = treeOf Ts i) ∧ (g1 = g0 ∨ w.heap.size ≤ g1)

theorem do_link2 (s : Nat) (v : Value) (bs : List Nat) (Ts : List Tree) (g0 n0 c0 : Nat) (Ls : List (List Piece)) (kd a n lt A B : Int) (w : World) (h : Link w s v bs Ts g0 n0 c0 Ls) (hlen : bs.length ≤ 900000) :
    Calls Try.prog 15 #[.pointer (some ⟨s, 0, none⟩), .agg #[.slice (some ⟨g0, 0, none⟩) n0 c0], .agg #[.int .i64 kd, .int .i64 a, .int .i64 n, .int .i64 lt, .int .i64 A, .int .i64 B]] w (DoLink2 s v bs Ts g0 w) :=
  (do_any w.heap.size s v bs Ts (treeOf Ts bs.length).look g0 n0 c0 Ls kd a n lt A B w h.stock (by omega) h.ref h.off h.last (by have := h.len; omega)).mono fun e w' hd => by
    obtain ⟨r, rf, FR, FS, cR, cS, g1, n1, c1, bd, hsp, rfl, hbd, hoff, hro, hso, ht⟩ := hd
    rcases hro with ⟨h1, h2, h3, h4, h5⟩ | ⟨h1, h2, h3, h4, L', h5, h6⟩
    · rcases hso with ⟨k1, k2, k3⟩ | ⟨k1, k2, k3, _⟩
      · have hc : cS = cR := by
          rcases h4 with ⟨p, q⟩ | ⟨p, q⟩
          · rcases k2 with ⟨p', q'⟩ | ⟨p', q'⟩
            · omega
            · rw [p] at p'; cases p'
          · rcases k2 with ⟨p', q'⟩ | ⟨p', q'⟩
            · rw [p] at p'; cases p'
            · exact q'.unique q
        have hb : (cS == cR) = true := beq_iff_eq.2 hc
        rw [hb]
        simp only [Value.agg.injEq, Array.mk.injEq, List.cons.injEq, and_true] at h2
        refine ⟨v, bs, Ts, g1, n1, c1, Ls, rfl, ⟨k3, h5, hoff, h.len, h.can, h.good⟩, Nat.le_refl _, by omega, ht, fun k hk => Or.inr (Or.inl hk), fun _ _ => rfl, Or.inl h3⟩
      · exfalso
        rcases h4 with ⟨p, _⟩ | ⟨_, q⟩
        · rw [p] at k2; cases k2
        · exact h1 (q.unique k3)
    · rcases hso with ⟨k1, k2, _⟩ | ⟨k1, k2, k3, v', b', T', k4, k5, k6⟩
      · exfalso
        rcases k2 with ⟨p, _⟩ | ⟨_, q⟩
        · rw [h2] at p; cases p
        · exact k1 (q.unique h3)
      · have hb : (cS == cR) = true := beq_iff_eq.2 (by omega)
        rw [hb]
        have hTl : Ts.length = bs.length := h.stock.len
        refine ⟨v', bs ++ [b'], Ts ++ [T'], g1, n1, c1, Ls ++ [L'], rfl, ⟨k4, h5, hoff, by simp [h.len], fun i L hi => ?_, fun i k hi x1 x2 => ?_⟩, by simp, by simp, ht, k5, fun i hi => treeOf_old (by omega), Or.inr (Nat.le_trans hbd h4)⟩
        · have hi2 := (List.getElem?_eq_some_iff.1 hi).1
          simp only [List.length_append, List.length_singleton] at hi2
          by_cases hil : i < Ls.length
          · rw [List.getElem?_append_left hil] at hi
            rw [treeOf_old (by have := h.len; omega)]
            exact h.can i L hi
          · have hie : i = Ts.length + 1 := by have := h.len; omega
            rw [List.getElem?_append_right (by omega), show i - Ls.length = 0 by have := h.len; omega] at hi
            simp only [List.getElem?_cons_zero, Option.some.injEq] at hi
            subst hi
            rw [hie, treeOf_new]
            refine h6.congr (fun k x1 x2 => ?_)
            rw [chgF_same h3 (spec_same hsp) k, k6 k x1 (by omega)]
        · simp only [List.length_append, List.length_singleton] at hi
          by_cases hil : i ≤ bs.length
          · rw [treeOf_old (by omega)]
            exact h.good i k hil x1 x2
          · rw [show i = Ts.length + 1 by omega, treeOf_new, k6 k x1 x2]
            have hgk := h.good bs.length k (Nat.le_refl _) x1 x2
            unfold chgF
            split
            · rename_i hk
              exact spec_good hsp (by revert h2; cases r <;> simp) _ hgk (firstErr_all k3 k hk.1 hk.2)
            · exact hgk

/-- Two registers with their references, and the reference that both come from. -/
structure Duo (w : World) (a bA o bO b6 g0 n0 c0 : Nat) (Ls : List (List Piece)) (va : Value) (bsA : List Nat) (TsA : List Tree) (gA nA cA : Nat) (LsA : List (List Piece)) (vo : Value) (bsO : List Nat) (TsO : List Tree) (gO nO cO : Nat) (LsO : List (List Piece)) (wr : World) : Prop where
  one : Link wr a va bsA TsA gA nA cA LsA
  box1 : Box wr bA #[.slice (some ⟨gA, 0, none⟩) nA cA] 27
  two : Link wr o vo bsO TsO gO nO cO LsO
  box2 : Box wr bO #[.slice (some ⟨gO, 0, none⟩) nO cO] 27
  ref : RefAt wr (.agg #[.slice (some ⟨g0, 0, none⟩) n0 c0]) Ls
  box3 : Box wr b6 #[.slice (some ⟨g0, 0, none⟩) n0 c0] 27
  ne : a ≠ o ∧ bA ≠ a ∧ bA ≠ o ∧ bO ≠ a ∧ b6 ≠ a
  ne2 : gA ≠ bA ∧ gO ≠ a ∧ gO ≠ bA ∧ g0 ≠ a ∧ g0 ≠ bA
  ne3 : bA ≠ bO ∧ bA ≠ b6
  ne4 : gA ≠ o
  own1 : ∀ j, va.ownBlock = some j → w.heap.size ≤ j ∧ vo.ownBlock ≠ some j
  adds : Adds w wr

theorem Box.first {w : World} {b g n c : Nat} {t : TypeId} (h : Box w b #[.slice (some ⟨g, 0, none⟩) n c] t) : w.cell? ⟨b, 0, none⟩ = some (.slice (some ⟨g, 0, none⟩) n c) := by
  have := h.cell 0
  simpa using this

/-- What a change of the first one gives, its reference kept. -/
theorem Duo.next {w wr wa w8 : World} {a bA o bO b6 g0 n0 c0 : Nat} {Ls : List (List Piece)} {va : Value} {bsA : List Nat} {TsA : List Tree} {gA nA cA : Nat} {LsA : List (List Piece)} {vo : Value} {bsO : List Nat} {TsO : List Tree} {gO nO cO : Nat} {LsO : List (List Piece)} {e : Ending}
    (h : Duo w a bA o bO b6 g0 n0 c0 Ls va bsA TsA gA nA cA LsA vo bsO TsO gO nO cO LsO wr) (hwa : w.heap.size ≤ a) (hwb : w.heap.size ≤ bA) (hA : Adds wr wa) (hd : DoLink2 a va bsA TsA gA wa e w8) :
    ∃ va' bsA' TsA' g1 n1 c1 LsA', e = .returned (.tuple #[.agg #[.slice (some ⟨g1, 0, none⟩) n1 c1], .bool true]) ∧ Touch (fun k => k = a ∨ va.ownBlock = some k) wr w8 ∧ Box w8 bA #[.slice (some ⟨gA, 0, none⟩) nA cA] 27 ∧ bsA'.length ≤ bsA.length + 1 ∧ bsA.length ≤ bsA'.length ∧
      (∀ i, i ≤ bsA.length → treeOf TsA' i = treeOf TsA i) ∧
      Duo w a bA o bO b6 g0 n0 c0 Ls va' bsA' TsA' g1 n1 c1 LsA' vo bsO TsO gO nO cO LsO (w8.setCell ⟨bA, 0, none⟩ (.slice (some ⟨g1, 0, none⟩) n1 c1)) := by
  obtain ⟨v', bs', Ts', g1, n1, c1, Ls', rfl, hlk, hb1, hb2, ht', ho', hold, hg1⟩ := hd
  have ht := ht'.before hA
  have hz := hA.size
  obtain ⟨e1, e2, e3, e4, e5⟩ := h.ne
  obtain ⟨f1, f2, f3, f4, f5⟩ := h.ne2
  obtain ⟨q1, q2⟩ := h.ne3
  have off : ∀ {b g n c : Nat}, Box wr b #[.slice (some ⟨g, 0, none⟩) n c] 27 → b ≠ a → ¬ (b = a ∨ va.ownBlock = some b) := fun hbx hba hh => by
    rcases hh with hh | hh
    · exact hba hh
    · obtain ⟨b', hb'⟩ := h.one.stock.ownFirst hh
      rw [hbx.first] at hb'; simp at hb'
  have y1 : Box w8 bA #[.slice (some ⟨gA, 0, none⟩) nA cA] 27 := h.box1.same (ht.same _ h.box1.lt (off h.box1 e2))
  have y2 : Box w8 bO #[.slice (some ⟨gO, 0, none⟩) nO cO] 27 := h.box2.same (ht.same _ h.box2.lt (off h.box2 e4))
  have y3 : Box w8 b6 #[.slice (some ⟨g0, 0, none⟩) n0 c0] 27 := h.box3.same (ht.same _ h.box3.lt (off h.box3 e5))
  have hbA := h.box1.lt
  have hg1b : g1 ≠ bA := by
    rcases hg1 with hg | hg
    · rw [hg]; exact f1
    · omega
  have hg1o : g1 ≠ o := by
    rcases hg1 with hg | hg
    · rw [hg]; exact h.ne4
    · have := h.two.stock.box.lt; omega
  have hdis : ∀ k, va.ownBlock = some k → vo.ownBlock ≠ some k := fun k hk => (h.own1 k hk).2
  have l2 : Link w8 o vo bsO TsO gO nO cO LsO := h.two.beside h.one.stock (Ne.symm e1) hdis f2 ht
  have r3 : RefAt w8 (.agg #[.slice (some ⟨g0, 0, none⟩) n0 c0]) Ls := ref_touch h.one.stock h.ref f4 ht
  refine ⟨v', bs', Ts', g1, n1, c1, Ls', rfl, ht, y1, hb2, hb1, hold, ⟨hlk.touch y1.first e2 hg1b, y1.set 0 _, l2.touch y1.first e3 f3, y2.far (by exact Ne.symm q1) _, r3.put f5 y1.first, y3.far (by exact Ne.symm q2) _, h.ne, ⟨hg1b, f2, f3, f4, f5⟩, h.ne3, hg1o, fun j hj => ?_, (adds_touch h.adds ht (fun j hj => hj.elim (fun e => by omega) (fun e => (h.own1 j e).1))).set hwb _⟩⟩
  rcases ho' j hj with e | e | e
  · subst e; exact (hlk.stock.sep hj).elim
  · exact h.own1 j e
  · have hw := h.adds.size
    refine ⟨by omega, fun hv => ?_⟩
    have := (h.two.stock.row.lt j hv).2
    omega

end Go.Proofs.Ytofaioabjkcaiaa
