/- differences: an iterator over the pieces in which two trees differ. -/
import Derived.Test.YtofaioabjkcaiaaBN
import Derived.Test.YtofaioabjkcaiaaM
namespace Go.Proofs.Ytofaioabjkcaiaa
open Go.RowKit

set_option maxRecDepth 100000 in
set_option maxHeartbeats 1000000 in
theorem diffs_iter (b b' nb ob : Nat) (t t' : Tree) (w0 : World) (Pr : Nat → Prop) (ht : TreeIn Pr w0 b t) (ht' : TreeIn Pr w0 b' t') (hok : t.ok 1 1000000) (hok' : t'.ok 1 1000000)
    (hnb : w0.cell? ⟨nb, 0, none⟩ = some (.pointer (some ⟨b, 0, none⟩))) (hob : w0.cell? ⟨ob, 0, none⟩ = some (.pointer (some ⟨b', 0, none⟩))) :
    Iter Try.prog 102 #[.pointer (some ⟨nb, 0, none⟩), .pointer (some ⟨ob, 0, none⟩)] encD (diffT 1000000 t t') Pr w0 := by
  intro l J Jx O W hW hPr hlt hst hstx hy hl1 hl2 hJ
  have HY : Hid (YieldsL l (diffT 1000000 t t') J Jx) := Lib.hid ⟨hlt, fun O pre V V' h a => hst O pre V V' h (.of_adds a _ _), fun O pre V V' h a => hstx O pre V V' h (.of_adds a _ _), hy⟩
  have HT : Hid (TreeIn (fun k => ¬ (O k ∨ k = l)) W b t) := Lib.hid ((ht.lt.later hW).mono (fun k h h' => h'.elim (hPr k h.1) (fun h' => by have := h.2; omega)))
  have HT' : Hid (TreeIn (fun k => ¬ (O k ∨ k = l)) W b' t') := Lib.hid ((ht'.lt.later hW).mono (fun k h h' => h'.elim (hPr k h.1) (fun h' => by have := h.2; omega)))
  have n0 := keep_cell hW hnb
  have o0 := keep_cell hW hob
  have HJ := Lib.hid hJ
  have HOK := Lib.hid hok
  have HOK' := Lib.hid hok'
  clear ht ht' hok hok' hnb hob hPr hlt hst hstx hy hJ
  go_enter Try.func102, Try.ntmps102
  go_wp2_with (go_at_call 103; refine (cmp_any HY.out 1000000 t t' b b' 1 1000000 _ O [] [] (by decide) HOK.out HOK'.out (by decide) (by decide) HT.out HT'.out HJ.out (fun k hk => by omega) (by simp)).mono ?_; rintro e w3 ⟨v, O', rfl, htch, h1, h2⟩; have H1 := Lib.hid h1; have H2 := Lib.hid h2; clear h1 h2)
  go_end0
  refine ⟨⟨_, rfl⟩, ?_⟩
  cases v
  · obtain ⟨pr, rs, e1, e2⟩ := H2.out rfl
    exact Or.inr ⟨O', pr, rs, by rw [e1]; simp, e2⟩
  · exact Or.inl ⟨O', by have := (H1.out rfl).1; simpa using this⟩

end Go.Proofs.Ytofaioabjkcaiaa
