/-
  The walk of the document's answer for layer 3: Total.
-/
import Derived.Test.YtalopnkdnlkdoaaSpanRefS
namespace Go.Proofs.Ytalopnkdnlkdoaa.SpanRef
open Go.RowKit Go.Proofs.Ytalopnkdnlkdoaa.SpanPlain Go.Proofs.Ytalopnkdnlkdoaa.Mem Go.Proofs.Ytalopnkdnlkdoaa.SpanMem
/-- How many times a cover's spans have together. -/
theorem tot_take {l : List Sp} {k : Nat} (hk : k < l.length) : totL (l.take (k + 1)) = totL (l.take k) + (l.getD k (0, 0)).2 - (l.getD k (0, 0)).1 := by
  rw [List.take_succ_eq_append_getElem hk, totL_snoc]
  simp [List.getD, hk]
theorem cov_take {l : List Sp} (h : Cov l) (k : Nat) : Cov (l.take k) := ⟨fun s hs => h.1 s (List.mem_of_mem_take hs), h.2.sublist (List.take_sublist k l)⟩
theorem cov_at {l : List Sp} (h : Cov l) {k : Nat} (hk : k < l.length) : May (l.getD k (0, 0)) := by
  have e : l.getD k (0, 0) = l[k] := by simp [List.getD, hk]
  rw [e]; exact h.1 _ (List.getElem_mem hk)
end Go.Proofs.Ytalopnkdnlkdoaa.SpanRef
