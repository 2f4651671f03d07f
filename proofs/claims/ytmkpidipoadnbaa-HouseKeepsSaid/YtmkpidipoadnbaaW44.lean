/- Sums over a house's accounts. -/
import Derived.Test.YtmkpidipoadnbaaW43
import Derived.BigQuiet
namespace Go.Proofs.Ytmkpidipoadnbaa
open Go Go.RowKit Go.Sort

theorem new_tame {c : Cfg} (e : cfgE c = 0) : Tame 0 (newH c) := by
  obtain ⟨k1, k2, k3, k4, k5, k6, k7, k8, k9⟩ := cfg_ok e
  have hmo : c.months ≤ 12 := by unfold inB at k2; simp at k2; omega
  refine Tame.of ⟨padM_len _, fun m hm => ?_, by show (c.moves.map padM).length ≤ 64; rw [List.length_map]; exact k6, by show 0 ≤ c.rate; unfold inB at k3; simp at k3; omega, by show c.rate ≤ 1000; unfold inB at k3; simp at k3; omega, fun p hp => ?_⟩ (by show (List.replicate _ _).length ≤ 64; rw [List.length_replicate]; unfold inB at k1; simp at k1; omega) (fun a ha => ?_)
  · obtain ⟨m0, h0, rfl⟩ := List.mem_map.1 hm
    refine ⟨padM_len m0, fun x hx => ?_⟩
    unfold padM at hx
    rcases List.mem_append.1 hx with h | h
    · have := k9 m0 h0
      unfold allIn at this
      rw [List.all_eq_true] at this
      have := this x (List.mem_of_mem_take h)
      unfold inB at this
      simp at this
      omega
    · have := List.eq_of_mem_replicate h
      omega
  · have hp : p ∈ padM c.prices := hp
    unfold padM at hp
    rcases List.mem_append.1 hp with h | h
    · unfold allIn at k8
      rw [List.all_eq_true] at k8
      have := k8 p (List.mem_of_mem_take h)
      unfold inB at this
      simp at this
      omega
    · have := List.eq_of_mem_replicate h
      omega
  · have : a = acc0 := List.eq_of_mem_replicate ha
    rw [this]
    exact ⟨rfl, fun x hx => by have := List.eq_of_mem_replicate hx; omega, by decide, by decide⟩
theorem new_good {c : Cfg} (e : cfgE c = 0) (hn : c.members ≤ 20) : Good 0 (newH c) := by
  obtain ⟨k1, k2, k3, k4, k5, k6, k7, k8, k9⟩ := cfg_ok e
  refine ⟨new_tame e, by show (List.replicate _ _).length ≤ 20; rw [List.length_replicate]; omega, ?_, ?_, ?_, ?_, Int.le_refl _, by show (0 : Int) ≤ _; omega, by show ([] : List Kt).length ≤ 0; simp⟩
  · show 0 < c.months.toNat; unfold inB at k2; simp at k2; omega
  · show c.months.toNat ≤ 12; unfold inB at k2; simp at k2; omega
  · show 0 ≤ c.cap; unfold inB at k4; simp at k4; omega
  · show c.cap ≤ _; unfold inB at k4; simp at k4; omega
/-- awake's configuration. -/
def cfgW : Cfg := ⟨3, 1, [100], [[10], [-20]], 0, 50⟩
def hW0 : Hs := newH cfgW
def hW1 : Hs := depositT hW0 1 100
def hW2 : Hs := depositT hW1 2 100
def hW3 : Hs := tradeT hW2 1 2 0 5 100
theorem wake0 : cfgE cfgW = 0 := by decide
theorem wake1 : payerE hW0 1 100 = 0 := by decide
theorem wake2 : payerE hW1 2 100 = 0 := by kernel_rfl
theorem wake3 : tradeE hW2 1 2 0 5 100 = 0 := by kernel_rfl
theorem wake4 : (accOf hW3 1).map (marginH hW3) = some 100 := by kernel_rfl
theorem wake5 : totalT hW3 = 250 := by kernel_rfl

theorem box_cells {w : World} {s : Nat} {vs : List Value} {t : TypeId} (hb : Box w s vs.toArray t) : CellsAt w (some ⟨s, 0, none⟩) vs := fun j v hj => ⟨s, 0, rfl, by
  rw [Nat.zero_add, hb.cell]
  rw [List.getElem?_toArray]
  exact hj⟩
/-- The world in which awake asks for a house. -/
def wakeW (w : World) (s : Nat) : World := (((w.alloc (.cells #[.int .i64 100] 2)).alloc (.cells #[.int .i64 10] 2)).alloc (.cells #[.int .i64 (-20)] 2)).alloc (.cells #[.slice (some ⟨s + 1, 0, none⟩) 1 1, .slice (some ⟨s + 2, 0, none⟩) 1 1] 22)
theorem wake_rows {w : World} {s : Nat} (hs : s = w.heap.size) : CellsAt (wakeW w s) (some ⟨s, 0, none⟩) ([100].map (Value.int .i64)) ∧ MovesAt (wakeW w s) (some ⟨s + 3, 0, none⟩) [[10], [-20]] ∧ Adds w (wakeW w s) := by
  have b0 : Box (wakeW w s) s #[.int .i64 100] 2 := (((box_new hs).alloc _).alloc _).alloc _
  have b1 : Box (wakeW w s) (s + 1) #[.int .i64 10] 2 := ((box_new (by simp [hs])).alloc _).alloc _
  have b2 : Box (wakeW w s) (s + 2) #[.int .i64 (-20)] 2 := (box_new (by simp [hs])).alloc _
  have b3 : Box (wakeW w s) (s + 3) #[.slice (some ⟨s + 1, 0, none⟩) 1 1, .slice (some ⟨s + 2, 0, none⟩) 1 1] 22 := box_new (by simp [hs])
  refine ⟨box_cells b0, ⟨[(some ⟨s + 1, 0, none⟩, 1), (some ⟨s + 2, 0, none⟩, 1)], rfl, box_cells b3, fun i x m hx hm => ?_⟩, ((((Adds.refl w).alloc _).alloc _).alloc _).alloc _⟩
  match i, hx, hm with
  | 0, hx, hm =>
    simp at hx hm
    subst hx hm
    exact box_cells b1
  | 1, hx, hm =>
    simp at hx hm
    subst hx hm
    exact box_cells b2
set_option maxRecDepth 100000 in
set_option maxHeartbeats 4000000 in
theorem awake_any (w : World) : Calls Try.prog 17 #[] w fun r w' => r = .returned (.bool true) ∧ Adds w w' := by
  obtain ⟨s, hs⟩ : ∃ s, s = w.heap.size := ⟨_, rfl⟩
  obtain ⟨hP, hM, hAW⟩ := wake_rows hs
  have HAW := Lib.hid hAW
  have HNW : Hid (Calls Try.prog 5 #[.agg #[.int .i64 3, .int .i64 1, .slice (some ⟨s, 0, none⟩) 1 1, .slice (some ⟨s + 3, 0, none⟩) 2 2, .int .i64 0, .int .i64 50]] (wakeW w s) fun r w' => ∃ b ga ca pm cm', r = .returned (.tuple #[.pointer (some ⟨b, 0, none⟩), .int .i64 0]) ∧ HouseAt w' (wakeW w s).heap.size b ga ca pm cm' none 0 hW0 ∧ OwnK w' (wakeW w s).heap.size none 0 [] ∧ Adds (wakeW w s) w') := Lib.hid (new_ok cfgW (some ⟨s, 0, none⟩) 1 (some ⟨s + 3, 0, none⟩) 2 (wakeW w s) hP hM wake0)
  have HS := Lib.hid hs
  have HBS := Lib.hid hAW.size
  obtain ⟨bs, hbs⟩ : ∃ bs, bs = (wakeW w s).heap.size := ⟨_, rfl⟩
  rw [← hbs] at HNW HBS
  clear hP hM hAW hs hbs
  unfold wakeW at HNW
  go_enter Try.func17, Try.ntmps17
  go_upto_region 2 with (simp only [← HS.out]; go_at_call 5; refine HNW.out.mono ?_; rintro e w1 ⟨b, ga, ca, pm, cm, rfl, hh, hk, ha⟩; have HH := Lib.hid hh; have HK := Lib.hid hk; have HA := Lib.hid (HAW.out.trans ha); clear hh hk ha)
  have g0 : Good 0 hW0 := new_good wake0 (by decide)
  have g1 : Good 1 hW1 := g0.deposit 1 100
  have g2 : Good 2 hW2 := g1.deposit 2 100
  have g3 : Good 3 hW3 := g2.trade 1 2 0 5 100
  obtain ⟨a3, ha3, hm3⟩ : ∃ a3, accOf hW3 1 = some a3 ∧ marginH hW3 a3 = 100 := by
    have h4 := wake4
    cases e : accOf hW3 1 with
    | none => rw [e] at h4; cases h4
    | some a3 => rw [e] at h4; injection h4 with h4; exact ⟨a3, rfl, h4⟩
  have HD1 : Hid (Calls Try.prog 8 #[.pointer (some ⟨b, 0, none⟩), .int .i64 1, .int .i64 100] w1 fun r w' => r = .returned (.int .i64 0) ∧ HouseAt w' bs b ga ca pm cm none 0 hW1 ∧ Touch (fun k => k = ga) w1 w') := Lib.hid (by
    have := Deposit_any HH.out (g0.t.sound (by omega)) 1 100
    rw [wake1] at this
    exact this)
  have HD2 := Lib.hid (fun W (hW : HouseAt W bs b ga ca pm cm none 0 hW1) => by
    have := Deposit_any hW (g1.t.sound (by omega)) 2 100
    rw [wake2] at this
    exact this)
  have ht2 : tradeN hW2 1 2 0 5 100 = 1 := by unfold tradeN; rw [if_pos wake3]; rfl
  have HT := Lib.hid (fun W (hW : HouseAt W bs b ga ca pm cm none 0 hW2) => by
    have := Trade_any hW g2.t (by omega) g2.mo1 (World.ownsRow_nil _ _ _ _) (by decide) 1 2 0 5 100
    rw [wake3, ht2] at this
    exact this)
  have HMG := Lib.hid (fun W pk ck (hW : HouseAt W bs b ga ca pm cm pk ck hW3) => by
    have := Margin_some hW (g3.t.sound (by omega)) ha3 (by rw [hm3]; omega)
    rw [hm3] at this
    exact this)
  have HTO := Lib.hid (fun W pk ck (hW : HouseAt W bs b ga ca pm cm pk ck hW3) => by
    have := Total_any hW g3.t.calm.prices g3.t.few
    rw [wake5] at this
    exact this)
  have HB0 : Hid (w.heap.size ≤ ga ∧ w.heap.size ≤ b) := Lib.hid (by
    have h1 := HH.out.blk.1
    have h2 := HH.out.lo
    have h3 := HBS.out
    omega)
  unfold TradeTo ktV at HT
  clear g0 g1 g2 g3 ha3 hm3 ht2 HNW
  go_upto_region 4 with (first
    | (go_at_call 8; refine HD1.out.mono ?_; rintro e w2 ⟨rfl, h2, t2⟩; have H2 := Lib.hid h2; have T2 := Lib.hid t2; clear h2 t2 HD1)
    | (go_at_call 8; refine (HD2.out _ H2.out).mono ?_; rintro e w3 ⟨rfl, h3, t3⟩; have H3 := Lib.hid h3; have T3 := Lib.hid t3; clear h3 t3 HD2))
  go_upto_region 5 with (go_at_call 11; refine (HT.out _ H3.out).mono ?_; rintro e w4 ⟨pk, ck, rfl, h4, _, t4⟩; have H4 := Lib.hid h4; have T4 := Lib.hid t4; clear h4 t4)
  go_upto_region 6 with (go_at_call 34; refine (HMG.out _ _ _ H4.out).mono ?_; rintro e w5 ⟨rfl, ha5⟩; have H5 := Lib.hid (H4.out.later ha5); have A5 := Lib.hid ha5; clear ha5)
  go_wp2_with (go_at_call 15; refine (HTO.out _ _ _ H5.out).mono ?_; rintro e w6 ⟨rfl, ha6⟩; have A6 := Lib.hid ha6; clear ha6)
  go_ret
  refine ⟨rfl, Adds.trans ?_ (A5.out.trans A6.out)⟩
  have t1 : Touch (fun k => k = ga ∨ k = b) w1 w4 := ((T2.out.mono fun k hk => .inl hk).trans (T3.out.mono fun k hk => .inl hk)).trans (T4.out.mono fun k hk => by
    rcases hk with hk | hk | hk
    · exact .inl hk
    · exact .inr hk
    · cases hk)
  refine Touch.adds HA.out t1 (fun k hk => ?_)
  have := HB0.out
  rcases hk with e | e <;> omega

end Go.Proofs.Ytmkpidipoadnbaa

namespace Go.Proofs.Ytmkpidipoadnbaa
open Go Go.RowKit Go.Sort

def sumG (g : Ac → Int) (l : List Ac) : Int := (l.map g).sum
theorem sum_set {g : Ac → Int} : ∀ {l : List Ac} {i : Nat} {a b : Ac}, l[i]? = some a → sumG g (l.set i b) = sumG g l - g a + g b
  | [], i, a, b, h => by simp at h
  | c :: l, 0, a, b, h => by
    simp at h
    subst h
    simp only [sumG, List.set_cons_zero, List.map_cons, List.sum_cons]
    omega
  | c :: l, i + 1, a, b, h => by
    have ih := sum_set (g := g) (l := l) (i := i) (a := a) (b := b) (by simpa using h)
    simp only [sumG] at ih
    simp only [sumG, List.set_cons_succ, List.map_cons, List.sum_cons]
    omega
theorem putAcs_sum {P : Ac → Prop} {g : Ac → Int} {upd : Ac → Int → Ac} {d : Ac → Int → Int} (hu : ∀ a x, P a → P (upd a x)) (hd : ∀ a x, P a → g (upd a x) = g a + d a x) : ∀ (r : List (Nat × Int)) (l : List Ac), (∀ a ∈ l, P a) → (r.map Prod.fst).Nodup → (∀ x ∈ r, x.1 < l.length) → sumG g (putAcs upd l r) = sumG g l + (r.map fun x => d (l[x.1]?.getD acc0) x.2).sum
  | [], l, _, _, _ => by simp [putAcs]
  | (i, x) :: r, l, hP, hn, hl => by
    obtain ⟨a, ha⟩ : ∃ a, l[i]? = some a := ⟨_, List.getElem?_eq_getElem (hl (i, x) (by simp))⟩
    simp only [List.map_cons, List.nodup_cons] at hn
    have hPa := hP a (List.mem_of_getElem? ha)
    have ih := putAcs_sum hu hd r (l.set i (upd a x)) (fun c hc => by
      rcases List.mem_or_eq_of_mem_set hc with e | e
      · exact hP c e
      · rw [e]; exact hu a x hPa) hn.2 (fun y hy => by rw [List.length_set]; exact hl y (by simp [hy]))
    have e : putAcs upd l ((i, x) :: r) = putAcs upd (l.set i (upd a x)) r := by rw [putAcs, ha]
    rw [e, ih, sum_set ha, hd a x hPa]
    have e2 : (r.map fun y => d ((l.set i (upd a x))[y.1]?.getD acc0) y.2) = r.map fun y => d (l[y.1]?.getD acc0) y.2 := by
      apply List.map_congr_left
      intro y hy
      rw [List.getElem?_set_ne]
      intro e
      exact hn.1 (List.mem_map.2 ⟨y, hy, e.symm⟩)
    rw [e2, List.map_cons, List.sum_cons, ha]
    simp only [Option.getD_some]
    omega
theorem map_zip_fst {α β : Type} : ∀ (l : List α) (m : List β), l.length ≤ m.length → (l.zip m).map Prod.fst = l
  | [], _, _ => rfl
  | x :: l, [], h => by simp at h
  | x :: l, y :: m, h => by
    rw [List.zip_cons_cons, List.map_cons, map_zip_fst l m (by simpa using h)]
theorem near_sum {ab : Bool} : ∀ (vs fs : List Int), vs.length = fs.length → (∀ v ∈ vs, if ab then 0 < v else v < 0) → (List.zipWith (fun v f => nearV v f - v) vs fs).sum = if ab then -fs.sum else fs.sum
  | [], [], _, _ => by cases ab <;> rfl
  | v :: vs, f :: fs, hl, hv => by
    have ih := near_sum (ab := ab) vs fs (by simpa using hl) (fun x hx => hv x (by simp [hx]))
    have h1 := hv v (by simp)
    simp only [List.zipWith_cons_cons, List.sum_cons, ih]
    unfold nearV
    cases ab
    · simp at h1 ⊢
      rw [if_pos h1]
      omega
    · simp at h1 ⊢
      rw [if_neg (by omega)]
      omega
theorem pot_lt {h : Hs} {ab : Bool} {val : Ac → Int} {i : Nat} (hi : i ∈ potL h ab val h.ac.length) : ∃ a, h.ac[i]? = some a ∧ a.out = false ∧ (if ab then 0 < val a else val a < 0) := by
  obtain ⟨h1, h2⟩ := List.mem_filter.1 hi
  have hl := List.mem_range.1 h1
  obtain ⟨a, ha⟩ : ∃ a, h.ac[i]? = some a := ⟨_, List.getElem?_eq_getElem hl⟩
  unfold potB at h2
  rw [ha] at h2
  simp only [Bool.and_eq_true, Bool.not_eq_true', bne_iff_ne, beq_iff_eq] at h2
  refine ⟨a, ha, h2.1, ?_⟩
  cases ab
  · simp at h2 ⊢; omega
  · simpa using h2.2.2
theorem pot_nodup (h : Hs) (ab : Bool) (val : Ac → Int) : (potL h ab val h.ac.length).Nodup := List.Pairwise.filter _ List.nodup_range
theorem potV_sign (h : Hs) (ab : Bool) (val : Ac → Int) : ∀ v ∈ potV h val (potL h ab val h.ac.length), if ab then 0 < v else v < 0 := fun v hv => by
  obtain ⟨i, hi, rfl⟩ := List.mem_map.1 hv
  obtain ⟨a, ha, _, hs⟩ := pot_lt hi
  simp only [ha, Option.map_some, Option.getD_some]
  exact hs
theorem potF_len (h : Hs) (ab : Bool) (val : Ac → Int) (A : Int) : (potF h ab val A).length = (potL h ab val h.ac.length).length := by
  unfold potF
  rw [shareU_len, sizeL_len]
  unfold potV
  rw [List.length_map]
/-- What drawing does to a sum. -/
theorem draw_sum {P : Ac → Prop} (h : Hs) (ab : Bool) (val : Ac → Int) (upd : Ac → Int → Ac) (A : Int) {g : Ac → Int} (hP : ∀ a ∈ h.ac, P a) (hu : ∀ a x, P a → P (upd a x)) (hg : ∀ a x, P a → g (upd a x) = g a + (x - val a)) : sumG g (drawH h ab val upd A).ac = sumG g h.ac + if ab then -(potF h ab val A).sum else (potF h ab val A).sum := by
  have hvl : (potV h val (potL h ab val h.ac.length)).length = (potF h ab val A).length := by
    rw [potF_len]; unfold potV; rw [List.length_map]
  have hnl : (nearL (potV h val (potL h ab val h.ac.length)) (potF h ab val A)).length = (potL h ab val h.ac.length).length := by
    unfold nearL
    rw [List.length_zipWith, ← hvl, Nat.min_self]
    unfold potV
    rw [List.length_map]
  show sumG g (putAcs upd h.ac ((potL h ab val h.ac.length).zip (nearL (potV h val (potL h ab val h.ac.length)) (potF h ab val A)))) = _
  rw [putAcs_sum (P := P) (d := fun a x => x - val a) hu hg _ _ hP (by rw [map_zip_fst _ _ (by rw [hnl]; exact Nat.le_refl _)]; exact pot_nodup h ab val) (fun x hx => by
    obtain ⟨a, ha, _⟩ := pot_lt (List.of_mem_zip hx).1
    exact (List.getElem?_eq_some_iff.1 ha).1)]
  congr 1
  rw [← near_sum (ab := ab) _ _ hvl (potV_sign h ab val)]
  congr 1
  obtain ⟨L, hL⟩ : ∃ L, L = potL h ab val h.ac.length := ⟨_, rfl⟩
  have hLt : ∀ i ∈ L, ∃ a, h.ac[i]? = some a := fun i hi => by
    rw [hL] at hi
    obtain ⟨a, ha, _⟩ := pot_lt hi
    exact ⟨a, ha⟩
  obtain ⟨F, hF⟩ : ∃ F, F = potF h ab val A := ⟨_, rfl⟩
  rw [← hL, ← hF] at hvl ⊢
  clear hL hF hnl
  unfold potV at hvl ⊢
  rw [List.length_map] at hvl
  induction L generalizing F with
  | nil => simp [nearL]
  | cons i L ih =>
    cases F with
    | nil => simp at hvl
    | cons f F =>
      obtain ⟨a, ha⟩ := hLt i (by simp)
      simp only [List.map_cons, nearL, List.zipWith_cons_cons, List.zip_cons_cons, ha, Option.map_some, Option.getD_some]
      congr 1
      exact ih (fun j hj => hLt j (List.mem_cons_of_mem _ hj)) F (by simpa using hvl)
/-- A sum that drawing does not see. -/
theorem draw_same (h : Hs) (ab : Bool) (val : Ac → Int) (upd : Ac → Int → Ac) (A : Int) {g : Ac → Int} (hg : ∀ a x, g (upd a x) = g a) : sumG g (drawH h ab val upd A).ac = sumG g h.ac := by
  have hnl : (potL h ab val h.ac.length).length ≤ (nearL (potV h val (potL h ab val h.ac.length)) (potF h ab val A)).length := by
    unfold nearL
    rw [List.length_zipWith, potF_len]
    unfold potV
    rw [List.length_map]
    omega
  show sumG g (putAcs upd h.ac ((potL h ab val h.ac.length).zip (nearL (potV h val (potL h ab val h.ac.length)) (potF h ab val A)))) = _
  rw [putAcs_sum (P := fun _ => True) (d := fun _ _ => 0) (fun _ _ _ => trivial) (fun a x _ => by rw [hg]; omega) _ _ (fun _ _ => trivial) (by rw [map_zip_fst _ _ hnl]; exact pot_nodup h ab val) (fun x hx => by
    obtain ⟨a, ha, _⟩ := pot_lt (List.of_mem_zip hx).1
    exact (List.getElem?_eq_some_iff.1 ha).1)]
  have : ∀ r : List (Nat × Int), (r.map fun _ => (0 : Int)).sum = 0 := fun r => by induction r with
    | nil => rfl
    | cons _ _ ih => simp [ih]
  rw [this]
  omega
theorem putAcs_not {upd : Ac → Int → Ac} : ∀ (r : List (Nat × Int)) (l : List Ac) (j : Nat), j ∉ r.map Prod.fst → (putAcs upd l r)[j]? = l[j]?
  | [], _, _, _ => rfl
  | (i, x) :: r, l, j, hj => by
    simp only [List.map_cons, List.mem_cons, not_or] at hj
    rw [putAcs, putAcs_not r _ j hj.2]
    split
    · rw [List.getElem?_set_ne (fun e => hj.1 e.symm)]
    · rfl
theorem putAcs_keep {upd : Ac → Int → Ac} {f : Ac → Bool} (hf : ∀ a x, f (upd a x) = f a) : ∀ (r : List (Nat × Int)) (l : List Ac) (j : Nat), ((putAcs upd l r)[j]?).map f = (l[j]?).map f
  | [], _, _ => rfl
  | (i, x) :: r, l, j => by
    rw [putAcs, putAcs_keep hf r]
    split
    · rename_i a ha
      by_cases e : i = j
      · subst e
        rw [List.getElem?_set_self (List.getElem?_eq_some_iff.1 ha).1, ha]
        simp [hf]
      · rw [List.getElem?_set_ne e]
    · rfl
/-- Who is out is not drawn at. -/
theorem draw_out (h : Hs) (ab : Bool) (val : Ac → Int) (upd : Ac → Int → Ac) (A : Int) {j : Nat} {a : Ac} (ha : h.ac[j]? = some a) (ho : a.out = true) : (drawH h ab val upd A).ac[j]? = some a := by
  rw [← ha]
  refine putAcs_not _ _ j fun hm => ?_
  obtain ⟨x, hx, e⟩ := List.mem_map.1 hm
  have := (List.of_mem_zip hx).1
  rw [e] at this
  obtain ⟨b, hb, hbo, _⟩ := pot_lt this
  rw [ha] at hb
  injection hb with hb
  rw [hb, hbo] at ho
  cases ho
theorem draw_keep (h : Hs) (ab : Bool) (val : Ac → Int) {upd : Ac → Int → Ac} (A : Int) (hf : ∀ a x, (upd a x).out = a.out) (j : Nat) : ((drawH h ab val upd A).ac[j]?).map (fun a => a.out) = (h.ac[j]?).map (fun a => a.out) := putAcs_keep (f := fun a => a.out) hf _ _ j

end Go.Proofs.Ytmkpidipoadnbaa
