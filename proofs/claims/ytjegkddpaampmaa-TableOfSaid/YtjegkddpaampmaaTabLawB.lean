/-
  The walks of the statements of layer 11: what all of them end with (awake).
-/
import Derived.Test.YtjegkddpaampmaaTabLawA
namespace Go.Proofs.Ytjegkddpaampmaa.TabWalk
open Go.RowKit Go.Proofs.Ytjegkddpaampmaa.JobPlain Go.Proofs.Ytjegkddpaampmaa.OrdPlain Go.Proofs.Ytjegkddpaampmaa.TabPlain Go.Proofs.Ytjegkddpaampmaa.Mem Go.Proofs.Ytjegkddpaampmaa.JobMem Go.Proofs.Ytjegkddpaampmaa.OrdMem Go.Proofs.Ytjegkddpaampmaa.OrdRef Go.Proofs.Ytjegkddpaampmaa.TabRef
theorem job_spare {O : List Nat} {w w' : World} {n : Nat} {j : Jb} (h : JobBox w n j) (hs : Spare O w w') (hn : n ∉ O) : JobBox w' n j := h.of_block (Nat.lt_of_lt_of_le h.lt hs.size) (hs.block n h.lt hn)
theorem owns_not {O O' : List Nat} {w : World} {n : Nat} (h : Owns O O' w) (hn : n ∉ O) (hl : n < w.heap.size) : n ∉ O' := fun e => by
  rcases h n e with h1 | h1
  · exact hn h1
  · omega
def exQ : Jb := ⟨1, ⟨#[97, 110, 110]⟩, 2, 9, 0, 0, 1, 0, 0⟩
theorem ex_job : mayJ exQ = true := by rfl
theorem ex_fit : Fit exQ := ⟨by decide, by decide, by decide⟩
theorem ex_in (s : Int) : inL [exQ] s = if s = 1 then [exQ] else [] := by
  unfold inL
  by_cases h : s = 1
  · subst h; rfl
  · rw [if_neg h, List.filter_eq_nil_iff]
    intro j hj he
    have e : j = exQ := by simpa using hj
    subst e
    have h2 : (1 : Int) = s := by simpa [exQ] using he
    exact h h2.symm
theorem ex_inT : inT [exQ] 1 = [exQ] := by unfold inT; rw [ex_in, if_pos rfl]; rfl
theorem ex_live : liveN [exQ] = 1 := by
  unfold liveN
  rw [ex_inT]
  have h0 : inT [exQ] 0 = [] := by unfold inT; rw [ex_in, if_neg (by decide)]; rfl
  have h2 : inT [exQ] 2 = [] := by unfold inT; rw [ex_in, if_neg (by decide)]; rfl
  rw [h0, h2]
  rfl
theorem ex_none : findL [] 1 = -1 := by rfl
theorem ex_live0 : liveN [] = 0 := by rfl
theorem ex_add0 : addE [] exQ = 0 := by
  unfold addE
  rw [if_neg (by rw [ex_job]; decide), show exQ.id = 1 from rfl, ex_none, if_neg (by decide), ex_live0, if_neg (by decide)]
theorem ex_addR : addR [] exQ = [exQ] := by rw [addR_yes ex_add0]; rfl
theorem ex_find : findL [exQ] 1 = 0 := by rfl
theorem ex_add7 : addE [exQ] exQ = 7 := by
  unfold addE
  rw [if_neg (by rw [ex_job]; decide), show exQ.id = 1 from rfl, ex_find, if_pos (by decide)]
theorem ex_addR7 : addR [exQ] exQ = [exQ] := addR_no (by rw [ex_add7]; decide)
set_option maxRecDepth 100000 in
set_option maxHeartbeats 3200000 in
theorem awake11 (w : World) : Calls Try.prog 6 #[] w (TrueIs w) := by
  have CN := Lib.hid (newS w)
  have CA := Lib.hid (fun (O : List Nat) W v (h : Tab O [] W v) => addS h (by simp) exQ ex_fit)
  have CB := Lib.hid (fun (O : List Nat) W v (h : Tab O [exQ] W v) => addS h (by simp) exQ ex_fit)
  have CL := Lib.hid (fun (O : List Nat) W v (h : Tab O [exQ] W v) => liveS h (by simp))
  have CI := Lib.hid (fun (O : List Nat) W v (h : Tab O [exQ] W v) => inS h (by simp) 1)
  rw [ex_add0, ex_addR] at CA
  rw [ex_add7, ex_addR7] at CB
  rw [ex_live] at CL
  rw [ex_inT] at CI
  unfold Acts at CA CB CL
  unfold ActsList at CI
  unfold jobV jobA exQ at CA CB
  dsimp only at CA CB
  go_enter Try.func6, Try.ntmps6
  go_wp2_with fail
  refine CN.out.mono ?_
  rintro e w1 ⟨v, O, rfl, ht, hO, hb⟩
  have HO := Lib.hid hO
  have HB := Lib.hid (below_then hb (below_box w1 (.cells #[.int .i64 1, .string ⟨#[97, 110, 110]⟩, .int .i64 2, .int .i64 9, .int .i64 0, .int .i64 0, .int .i64 1, .int .i64 0, .int .i64 0] 28)))
  have HN : Hid (w1.heap.size ∉ O) := fun e => Nat.lt_irrefl _ (ht.lt _ e)
  have HX : Hid (JobBox (w1.alloc (.cells #[.int .i64 1, .string ⟨#[97, 110, 110]⟩, .int .i64 2, .int .i64 9, .int .i64 0, .int .i64 0, .int .i64 1, .int .i64 0, .int .i64 0] 28)) w1.heap.size exQ) := JobBox.new w1 exQ 28
  have HT := Lib.hid (tab_below ht (below_box w1 (.cells #[.int .i64 1, .string ⟨#[97, 110, 110]⟩, .int .i64 2, .int .i64 9, .int .i64 0, .int .i64 0, .int .i64 1, .int .i64 0, .int .i64 0] 28)))
  clear ht hO hb CN
  go_upto_region 3 with fail
  generalize w1.alloc (.cells #[.int .i64 1, .string ⟨#[97, 110, 110]⟩, .int .i64 2, .int .i64 9, .int .i64 0, .int .i64 0, .int .i64 1, .int .i64 0, .int .i64 0] 28) = w2 at *
  obtain ⟨y, y0, y1, y2, y3, y4, y5, y6, y7, y8, _, _, _, _, _, _, _, _, _⟩ := HX.out
  unfold exQ at y0 y1 y2 y3 y4 y5 y6 y7 y8
  dsimp only at y0 y1 y2 y3 y4 y5 y6 y7 y8
  go_wp2_with fail
  refine (CA.out O w2 v HT.out).mono ?_
  rintro e w3 ⟨O3, rfl, ht, ho, hs⟩
  have HX3 := Lib.hid (job_spare HX.out hs HN.out)
  have HN3 := Lib.hid (owns_not ho HN.out HX.out.lt)
  have HB3 := Lib.hid (Spare.below HB.out hs HO.out HB.out.size)
  have HO3 := Lib.hid (ho.above HO.out HB.out.size)
  have HT3 := Lib.hid ht
  clear ht ho hs HX HN HB HO HT CA y y0 y1 y2 y3 y4 y5 y6 y7 y8
  obtain ⟨y, y0, y1, y2, y3, y4, y5, y6, y7, y8, _, _, _, _, _, _, _, _, _⟩ := HX3.out
  unfold exQ at y0 y1 y2 y3 y4 y5 y6 y7 y8
  dsimp only at y0 y1 y2 y3 y4 y5 y6 y7 y8
  go_wp2_with fail
  refine (CB.out O3 w3 v HT3.out).mono ?_
  rintro e w4 ⟨O4, rfl, ht, ho, hs⟩
  have HB4 := Lib.hid (Spare.below HB3.out hs HO3.out HB3.out.size)
  have HO4 := Lib.hid (ho.above HO3.out HB3.out.size)
  have HT4 := Lib.hid ht
  clear ht ho hs HX3 HN3 HB3 HO3 HT3 CB y y0 y1 y2 y3 y4 y5 y6 y7 y8
  go_wp2_with fail
  refine (CL.out O4 w4 v HT4.out).mono ?_
  rintro e w5 ⟨O5, rfl, ht, ho, hs⟩
  have HB5 := Lib.hid (Spare.below HB4.out hs HO4.out HB4.out.size)
  have HO5 := Lib.hid (ho.above HO4.out HB4.out.size)
  have HT5 := Lib.hid ht
  clear ht ho hs HB4 HO4 HT4 CL
  go_wp2_with fail
  refine (CI.out O5 w5 v HT5.out).mono ?_
  rintro e w6 ⟨O6, u6, rfl, hj, _, ht, ho, hs⟩
  have HB6 := Lib.hid (Spare.below HB5.out hs HO5.out HB5.out.size)
  obtain ⟨A6, c6, rfl, _, _⟩ := hj.open_
  clear hj ht ho hs HB5 HO5 HT5 CI
  go_wp2_with fail
  go_ret
  exact ⟨rfl, HB6.out⟩
end Go.Proofs.Ytjegkddpaampmaa.TabWalk
