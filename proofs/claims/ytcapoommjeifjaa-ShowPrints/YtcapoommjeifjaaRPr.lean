import Derived.Test.YtcapoommjeifjaaRPrB
import Derived.Test.YtcapoommjeifjaaRPrC
import Derived.Test.YtcapoommjeifjaaRPrD
import Derived.Test.YtcapoommjeifjaaRPrE
import Derived.Test.YtcapoommjeifjaaRPrF
import Derived.Test.YtcapoommjeifjaaRPrG
import Derived.Test.YtcapoommjeifjaaRPrH
namespace Go.Proofs.Ytcapoommjeifjaa
open Go.RowKit
open Ex.pr (prKs)
theorem prKs_one (least : Int) (l : List Ex) (h : l.length = 1) : ∃ BB, prKs least l = [BB] := by
  match l, h with
  | [x], _ => exact ⟨_, rfl⟩
/-- The reference's Print tells an expression's text. -/
theorem rprint_any : ∀ (s : Nat) (e : Ex), e.size ≤ s → e.size ≤ 60 → e.okA = true → RpC e := by
  intro s
  induction s with
  | zero =>
    intro e he
    rw [size_eq] at he; omega
  | succ s ih =>
    intro e he h60 hok w hin
    have hf : formOk e = true := by rw [okA_eq, Bool.and_eq_true] at hok; exact hok.1
    have hrp : ∀ x ∈ e.kids, RpC x := fun x hx => by
      have h1 := size_kid hx
      exact ih x (by omega) (by omega) (okA_kid hok hx)
    have hpl : ∀ x ∈ e.kids, x.pr.length ≤ 190000 := fun x hx => by
      have h1 := size_kid hx
      have h2 := pr_len x (okA_kid hok hx)
      omega
    have hjl : e.pr.length ≤ 1000000 := by have := pr_len e hok; omega
    rcases form_kinds e hf with (⟨h1, h0⟩ | ⟨h1, h0⟩ | ⟨h1, h0, h2⟩ | ⟨h1, h0, h2⟩) | ⟨h1 | h1, _, h8⟩ | ⟨h1, h2, h3⟩
    · exact rp_1 e h0 h1 w hin
    · exact rp_2 e h0 h1 w hin
    · exact rp_3 e h0 h2 h1 w hin
    · exact rp_4 e h0 h1 w hin
    · exact rp_5 e hrp hpl hjl h8 h1 w hin
    · exact rp_6 e hrp hpl hjl h8 h1 w hin
    · have h8 : e.kids.length ≤ 8 := by omega
      have hk : e.k = 7 ∨ e.k = 8 ∨ e.k = 9 ∨ e.k = 10 ∨ e.k = 11 := by omega
      rcases hk with hk | hk | hk | hk | hk
      · exact rp_7 e hrp hpl hjl h8 (prKs_one 3 _ h3) hk w hin
      · exact rp_8 e hrp hpl hjl h8 (prKs_one 3 _ h3) hk w hin
      · exact rp_9 e hrp hpl hjl h8 (prKs_one 3 _ h3) hk w hin
      · exact rp_10 e hrp hpl hjl h8 (prKs_one 2 _ h3) hk w hin
      · exact rp_11 e hrp hpl hjl h8 (prKs_one 2 _ h3) hk w hin
end Go.Proofs.Ytcapoommjeifjaa
