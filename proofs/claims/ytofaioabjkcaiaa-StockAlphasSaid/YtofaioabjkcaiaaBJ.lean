/- For every input the law StockAlphas of package oastlaw01 returns true (the mean alpha acid of any tests and the worth of any delivery are those of the reference, or the same errors), and its inputs read afterwards as they did before.
   Conditions: none beyond those of the given statement. -/
import Derived.Test.YtofaioabjkcaiaaBI
import Derived.Test.YtofaioabjkcaiaaBC
import Derived.OpenShut
namespace Go.Proofs.Ytofaioabjkcaiaa
open Go.ChangeShapes Go.WideShapes Go.ChangeAt Go.RowKit Go.Deep

theorem cells92 : Try.prog.cellsOf 92 = 2 := by kernel_rfl
theorem cells2 : Try.prog.cellsOf 2 = 1 := by kernel_rfl
theorem cells88 : Try.prog.cellsOf 88 = 4 := by kernel_rfl

set_option maxRecDepth 100000 in
theorem pair_cells {H : Type} {enc : TypeId × Value → H} {w : World} {base : Nat} {spare : Nat → Bool} {held : Bool} {n : Nat} {cs : List Value} {x : DataW H × List MemPlace}
    (h : DataW.trod enc Try.prog w base spare held n 92 cs = some x) : ∃ g : Int × Int, cs[0]? = some (.int .i64 g.1) ∧ cs[1]? = some (.int .i64 g.2) := by
  obtain ⟨xs, n, _, hx, hsz, hlen, hg⟩ := DataW.trod_struct Try.underlying92 h
  match xs, hlen with
  | [y0, y1], _ =>
    have g0 := hg 0 _ rfl
    have g1 := hg 1 _ rfl
    have h2 : cs.length = 2 := by have := hsz; rw [cells92] at this; omega
    match cs, h2 with
    | [c0, c1], _ =>
      simp [cells2] at g0 g1
      obtain ⟨a, e0, _, _⟩ := DataW.trod_int Try.underlying2 g0
      obtain ⟨b, e1, _, _⟩ := DataW.trod_int Try.underlying2 g1
      simp only [List.cons.injEq, and_true] at e0 e1
      subst e0 e1
      exact ⟨(a, b), rfl, rfl⟩

set_option maxRecDepth 100000 in
/-- A list of pairs, opened. -/
theorem open_pairs {H : Type} {enc : TypeId × Value → H} {w : World} {r : Reach} {b0 : Nat} {v : Value} {d : DataW H} {p : List MemPlace}
    (hv : Value.okWide Try.prog w r b0 87 v) (h : DataW.Trod enc Try.prog w 0 (fun _ => true) true 87 v d p) :
    ∃ (q : Option Addr) (N cap : Nat) (f : Nat → Int × Int), v = .slice q N cap ∧ N ≤ maxLen ∧ PairsAt w q N f := by
  obtain ⟨q, len, cap, rfl⟩ := okWide_slice Try.underlying87 hv
  obtain ⟨fuel, hf⟩ := h
  rcases open_slice Try.underlying87 hf with ⟨hcs, _⟩ | ⟨a, len', cap', m, n, D, Pl, hcs, _, hl, hm, hmm, _, hi⟩
  · simp [Value.cells] at hcs
    obtain ⟨rfl, rfl, rfl⟩ := hcs
    exact ⟨none, 0, 0, fun _ => (0, 0), rfl, by simp [maxLen], fun i hi => absurd hi (Nat.not_lt_zero i)⟩
  · simp [Value.cells] at hcs
    obtain ⟨rfl, rfl, rfl⟩ := hcs
    simp only [if_true] at hmm
    subst hmm
    have key : ∀ i, i < len → ∃ g : Int × Int, w.cell? ((a.add (i * 2)).add 0) = some (.int .i64 g.1) ∧ w.cell? ((a.add (i * 2)).add 1) = some (.int .i64 g.2) := fun i him => by
      obtain ⟨cs', hc, ht⟩ := hi i (by omega)
      rw [cells92] at hc
      obtain ⟨g, h0, h1⟩ := pair_cells ht
      obtain ⟨_, hcl, hat⟩ := World.cells?_some hc
      exact ⟨g, by rw [hat 0 (by omega)]; exact h0, by rw [hat 1 (by omega)]; exact h1⟩
    by_cases h0 : len = 0
    · exact ⟨some a, len, _, fun _ => (0, 0), rfl, by omega, fun i hi => absurd hi (by omega)⟩
    · obtain ⟨b, off, spot⟩ := a
      obtain ⟨g0, hg0, _⟩ := key 0 (by omega)
      have hspot : spot = none := by simpa [Addr.add] using World.cell?_spot hg0
      subst hspot
      refine ⟨some ⟨b, off, none⟩, len, _, fun i => if h : i < len then Classical.choose (key i h) else (0, 0), rfl, by omega, fun i hi => ⟨b, off, rfl, ?_⟩⟩
      simp only [dif_pos hi]
      have hsp := Classical.choose_spec (key i hi)
      generalize Classical.choose (key i hi) = gg at hsp ⊢
      obtain ⟨h1, h2⟩ := hsp
      rw [add_plain, add_plain] at h1 h2
      exact ⟨h1, h2⟩

set_option maxRecDepth 100000 in
/-- Four integers, opened. -/
theorem open_four {H : Type} {enc : TypeId × Value → H} {w : World} {base : Nat} {spare : Nat → Bool} {held : Bool} {r : Reach} {b0 : Nat} {v : Value} {d : DataW H} {p : List MemPlace}
    (hv : Value.okWide Try.prog w r b0 88 v) (h : DataW.Trod enc Try.prog w base spare held 88 v d p) : ∃ a b c e : Int, v = .agg #[.int .i64 a, .int .i64 b, .int .i64 c, .int .i64 e] := by
  simp only [Value.okWide, Try.underlying88] at hv
  obtain ⟨cs, rfl, hsz, _⟩ := hv
  obtain ⟨l⟩ := cs
  match l, hsz.trans cells88 with
  | [c0, c1, c2, c3], _ =>
    obtain ⟨fuel, hf⟩ := h
    obtain ⟨xs, n, _, hx, _, hlen, hg⟩ := DataW.trod_array Try.underlying88 hf
    match xs, hlen with
    | [y0, y1, y2, y3], _ =>
      have g0 := hg 0 (by omega)
      have g1 := hg 1 (by omega)
      have g2 := hg 2 (by omega)
      have g3 := hg 3 (by omega)
      simp [cells2, Value.cells] at g0 g1 g2 g3
      obtain ⟨a, e0, _, _⟩ := DataW.trod_int Try.underlying2 g0
      obtain ⟨b, e1, _, _⟩ := DataW.trod_int Try.underlying2 g1
      obtain ⟨c, e2, _, _⟩ := DataW.trod_int Try.underlying2 g2
      obtain ⟨e, e3, _, _⟩ := DataW.trod_int Try.underlying2 g3
      simp only [List.cons.injEq, and_true] at e0 e1 e2 e3
      subst e0 e1 e2 e3
      exact ⟨a, b, c, e, rfl⟩

set_option maxRecDepth 100000 in
theorem alphas_lifted (os : Os) (started : os.Started) (H : Type) (enc : TypeId × Value → H) :
    ReturnsInHanded {} Try.checked os 12 .any (Rows.stockAlphasSpec.pre6 enc Try.prog Try.f12 Rows.stockAlphasRow.domain false) (Rows.stockAlphasSpec.post enc Try.prog Try.f12 false true false false) := by
  refine returnsInHanded_of_change (C := Try.checked) own started (by kernel_rfl) Try.func12
    (ChangeSpec.witness6 (enc := enc) (C := Try.checked) false ⟨#[], #[.slice none 0 0, .agg #[.int .i64 0, .int .i64 0, .int .i64 0, .int .i64 0]], []⟩ 12 (by kernel_rfl) (by kernel_rfl) (by kernel_rfl) (by kernel_rfl)) ?_
  intro W base args ds gs before hval0 hW hcnd _
  have hval : ∀ (j : Nat) t v, Try.f12.params[j]? = some t → args[j]? = some v → Value.okWide Try.prog W .any base t v := hval0
  have hW' := hW
  obtain ⟨p, q, hA0, hV, rfl, hfz, hnd⟩ := hW
  have hA : DataW.TrodAll enc Try.prog W 0 (fun _ => true) true Try.f12.params.toList args.toList ds p := hA0
  rw [Try.params12] at hA hval
  obtain ⟨v0, v1, d0, d1, p0, p1, rfl, rfl, rfl, h0, h1⟩ := trodAll_two hA
  obtain ⟨rfl, rfl⟩ := trodVars_none hV
  obtain ⟨a, N, cap, f, rfl, hN, hpairs⟩ := open_pairs (hval 0 87 v0 rfl rfl) h0
  obtain ⟨o0, o1, o2, o3, rfl⟩ := open_four (hval 1 88 v1 rfl rfl) h1
  clear hA0 hval0
  simp only [List.append_nil] at hW'
  refine (alphas_any a N cap f o0 o1 o2 o3 W hN hpairs).mono fun e W' ⟨he, hb⟩ => ?_
  subst he
  have hlt : ∀ x ∈ p0 ++ p1, x.block < W.heap.size := fun x hx => hW'.lt x hx
  exact ⟨_, rfl, post_of_adds (pa := p0 ++ p1) (pv := []) hW' (fun _ _ _ => trodAll_mk1 (shut_bool Try.underlying4 _))
    (fun sp hs => trodAll_mk2 (arg_stays (by kernel_rfl) (of_decide_eq_true (by kernel_rfl)) h0 hb (fun x hx => hlt x (List.mem_append_left _ hx)) (fun x hx => hs x (List.mem_append_left _ hx)))
      (arg_stays (by kernel_rfl) (of_decide_eq_true (by kernel_rfl)) h1 hb (fun x hx => hlt x (List.mem_append_right _ hx)) (fun x hx => hs x (List.mem_append_right _ hx)))) (fun _ _ => rfl) (by simp)
    hb (ok_one (by kernel_rfl) rfl (okWide_bool_mk Try.underlying4 _))⟩

theorem alphas_holds : Rows.StockAlphasSaid :=
  OpenClaim.holds_of_wide 12 Try.f12 rfl rfl rfl rfl rfl rfl rfl ⟨rfl, rfl, rfl, rfl, rfl⟩ rfl rfl rfl rfl rfl (by kernel_rfl) Try.func12 (by kernel_rfl)
    (of_decide_eq_true (by kernel_rfl)) (by unfold Func.isWrapper; first | (rw [if_pos (by decide +kernel)]; kernel_rfl) | (rw [if_neg (by decide +kernel)]; exact ⟨rfl, rfl⟩))
    (fun os started H enc _ => alphas_lifted os started H enc)

end Go.Proofs.Ytofaioabjkcaiaa
