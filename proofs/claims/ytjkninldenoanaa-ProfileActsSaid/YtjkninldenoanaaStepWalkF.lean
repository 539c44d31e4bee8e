/-
  The walk of layer 4's code: steps cut at a time.
-/
import Derived.Test.YtjkninldenoanaaStepWalkE
namespace Go.Proofs.Ytjkninldenoanaa.StepWalk
open Go.RowKit Go.Proofs.Ytjkninldenoanaa.SpanPlain Go.Proofs.Ytjkninldenoanaa.StepPlain Go.Proofs.Ytjkninldenoanaa.Mem Go.Proofs.Ytjkninldenoanaa.SpanMem Go.Proofs.Ytjkninldenoanaa.StepMem Go.Proofs.Ytjkninldenoanaa.SpanRef Go.Proofs.Ytjkninldenoanaa.StepRef

/-- What cut answers. -/
def CutSays (s : List Sp) (t : Int) (w : World) (e : Ending) (w' : World) : Prop := ∃ v k, e = .returned v ∧ LastIs s t k ∧ OwnR 62 2 w.heap.size w' v (cutL s t k).length (svals (cutL s t k)) ∧ Below w.heap.size w w'
theorem cut_says {s : List Sp} {t : Int} {k : Nat} (hk : LastIs s t k) {w w1 w' : World} {v : Value} {n : Nat} {xs : List Value} (hb1 : Below w.heap.size w w1) (ho : OwnR 62 2 w1.heap.size w' v n xs) (hx : xs = svals (cutL s t k)) (hb : Below w1.heap.size w1 w') : CutSays s t w (.returned v) w' := by
  subst hx
  have hl := ho.1.1
  rw [svals_len] at hl
  obtain rfl : (cutL s t k).length = n := by omega
  exact ⟨v, k, rfl, hk, ⟨(OwnN.rebase ho.toN hb1.size).1, ho.2.1, Nat.le_trans hb1.size (Nat.le_trans ho.2.2 (Nat.le_refl _))⟩, below_then hb1 hb⟩
theorem take_raw {s : List Sp} {w : World} {ad : Addr} {n c : Nat} (h : SpansIs s w (.slice (some ad) n c)) (k : Nat) : Raw w ad (svals (s.take k)) := by rw [← svals_take]; exact (raw_of h).take _
theorem drop_raw {s : List Sp} {w : World} {ad : Addr} {n c : Nat} (h : SpansIs s w (.slice (some ad) n c)) (k : Nat) : Raw w (ad.add (k * 2)) (svals (s.drop k)) := by rw [← svals_drop]; exact (raw_of h).drop _

set_option maxHeartbeats 1600000 in
theorem cutS (s : List Sp) (t : Int) (v : Value) (w : World) (hv : SpansIs s w v) (hu : Up s) (hp : 0 < s.length) (hh : head s ≤ t) (hl : s.length ≤ 2000) : Calls Try.prog 44 #[v, .int .i64 t] w (CutSays s t w) := by
  have CL := Lib.hid (lastS s t v w hv hu hp hh (by omega))
  have HV := Lib.hid hv
  obtain ⟨A, c, rfl, hn, hA⟩ := hv.open2
  have HA := Lib.hid hA
  obtain ⟨ad, rfl, had, _, _⟩ := pair_zero HA.out hp
  clear hA hv hu
  obtain ⟨i0, z0, hi0, hz0, hz1, hz2, hzs⟩ := steps_t.info
  go_enter Try.func44, Try.ntmps44
  go_wp2_with fail
  refine CL.out.mono ?_
  rintro e w1 ⟨k, rfl, hk, hb1⟩
  have hkl := hk.lt
  have HK := Lib.hid hk
  have HB1 := Lib.hid hb1
  clear hk hb1 CL
  have k0 : (0 : Int) ≤ (k : Int) + 1 := by omega
  have k1 : IntKind.i64.wrap ((k : Int) + 1) = (k : Int) + 1 := by rw [IntKind.wrap_i64]; omega
  have k2 : (k : Int) + 1 ≤ (c : Int) := by omega
  have k3 : ((k : Int) + 1).toNat = k + 1 := by omega
  go_wp2_with (at_make; refine wpList_make_own _ rfl _ _ 45 rfl w1.heap.size 62 i0 z0 2 steps_t.und hi0 hz0 hz1 .i64 .i64 _ (s.length + 1) rfl rfl ?hC ?hb2 ?hb3 (Nat.le_refl _) ?_)
  case hC => omega
  case hb2 => rw [hz2]; omega
  case hb3 => unfold maxLen; omega
  intro w2 ho2 hg2
  have HO2 : Hid (OwnR 62 2 w1.heap.size w2 (.slice (some ⟨w1.heap.size, 0, none⟩) 0 (s.length + 1)) 0 []) := ⟨ho2, by simp, hg2.size⟩
  have HB2 : Hid (Below w1.heap.size w1 w2) := ⟨hg2.os, hg2.tape, hg2.output, hg2.size, fun i hi => hg2.block i hi (by simp)⟩
  clear ho2 hg2
  have HT := Lib.hid (take_raw (HV.out.below (below_then HB1.out HB2.out)) (k + 1))
  go_wp2_with (at_builtin; refine push_raw steps_t rfl (.tmp 14) (.tmp 18) rfl w1.heap.size _ _ _ rfl HO2.out ad (k + 1) c (svals (s.take (k + 1))) rfl ?h1a HT.out (svals_cell _) ?h1b ?_)
  case h1a => rw [svals_len, List.length_take]; omega
  case h1b => omega
  intro v3 w3 ho3 hb3
  have HO3 := Lib.hid ho3
  have HB3 := Lib.hid (HB2.out.trans hb3)
  clear ho3 hb3 HO2 HB2 HT k3
  obtain ⟨ad2, ead, had2, c1, c2⟩ := nth_cells (HA.out.below (below_then HB1.out HB3.out)) hkl
  injection ead with ead
  subst ead
  have hk5 : (k : Int) < (s.length : Int) := by omega
  have HD := Lib.hid (fun (W : World) (hb : Below w1.heap.size w1 W) => drop_raw (HV.out.below (below_then HB1.out hb)) (k + 1))
  have HE : Hid (cutL s t k = s.take (k + 1) ++ (if (nth s k).1 < t then [(t, (nth s k).2)] else []) ++ s.drop (k + 1)) := rfl
  have HS := Lib.hid (fun (w' : World) (v : Value) (n : Nat) (xs : List Value) (ho : OwnR 62 2 w1.heap.size w' v n xs) (hx : xs = svals (cutL s t k)) (hb : Below w1.heap.size w1 w') => cut_says HK.out HB1.out ho hx hb)
  generalize nth s k = y at *
  have j0 : (0 : Int) ≤ (k : Int) := Int.natCast_nonneg _
  have j1 : (k : Int) + 1 ≤ (s.length : Int) := by omega
  have j3 : ((k : Int) + 1).toNat = k + 1 := by omega
  rcases Decidable.em (y.1 < t) with hy | hy <;> rcases Decidable.em (c = k + 1) with hc | hc
  · have hy2 : decide (y.1 < t) = true := decide_eq_true hy
    have HE2 := Lib.hid (HE.out.trans (by rw [if_pos hy]))
    have HDN : Hid (s.drop (k + 1) = []) := List.drop_eq_nil_of_le (by omega)
    subst hc
    clear hy HE
    go_wp2_with (at_builtin; refine push_raw steps_t rfl (.tmp 27) (.tmp 35) rfl w1.heap.size _ _ _ rfl (HO3.out.alloc (.cells #[.int .i64 t, .int .i64 y.2] 62)) ⟨w3.heap.size, 0, none⟩ 1 1 [.int .i64 t, .int .i64 y.2] rfl rfl (Raw.alloc w3 _ _) two_cells ?e1 ?_)
    case e1 => omega
    intro v4 w4 ho4 hb4
    have HO4 := Lib.hid ho4
    have HB4 := Lib.hid ((HB3.out.alloc HB3.out.size _).trans hb4)
    clear ho4 hb4
    go_wp2_with (at_builtin; refine push_raw steps_t rfl (.tmp 37) (.tmp 41) rfl w1.heap.size _ _ _ rfl HO4.out ad 0 _ [] rfl rfl (fun j u hu => by simp at hu) (fun u hu => by simp at hu) ?b1 ?_)
    case b1 => omega
    intro v5 w5 ho5 hb5
    have HO5 := Lib.hid ho5
    have HB5 := Lib.hid (HB4.out.trans hb5)
    clear ho5 hb5
    go_wp2_with fail
    go_ret
    exact HS.out _ _ _ _ HO5.out (by rw [HE2.out, HDN.out]; simp [svals, spCells]) HB5.out
  · have hy2 : decide (y.1 < t) = true := decide_eq_true hy
    have HE2 := Lib.hid (HE.out.trans (by rw [if_pos hy]))
    clear hy HE
    go_wp2_with (at_builtin; refine push_raw steps_t rfl (.tmp 27) (.tmp 35) rfl w1.heap.size _ _ _ rfl (HO3.out.alloc (.cells #[.int .i64 t, .int .i64 y.2] 62)) ⟨w3.heap.size, 0, none⟩ 1 1 [.int .i64 t, .int .i64 y.2] rfl rfl (Raw.alloc w3 _ _) two_cells ?e2 ?_)
    case e2 => omega
    intro v4 w4 ho4 hb4
    have HO4 := Lib.hid ho4
    have HB4 := Lib.hid ((HB3.out.alloc HB3.out.size _).trans hb4)
    clear ho4 hb4
    go_wp2_with (at_builtin; refine push_raw steps_t rfl (.tmp 37) (.tmp 41) rfl w1.heap.size _ _ _ rfl HO4.out (ad.add ((k + 1) * 2)) (s.length - (k + 1)) _ (svals (s.drop (k + 1))) rfl ?a2 (HD.out _ HB4.out) (svals_cell _) ?b2 ?_)
    case a2 => rw [svals_len, List.length_drop]
    case b2 => omega
    intro v5 w5 ho5 hb5
    have HO5 := Lib.hid ho5
    have HB5 := Lib.hid (HB4.out.trans hb5)
    clear ho5 hb5
    go_wp2_with fail
    go_ret
    exact HS.out _ _ _ _ HO5.out (by rw [HE2.out]; simp [svals, spCells]) HB5.out
  · have hy2 : decide (y.1 < t) = false := decide_eq_false hy
    have HE2 := Lib.hid (HE.out.trans (by rw [if_neg hy]))
    have HDN : Hid (s.drop (k + 1) = []) := List.drop_eq_nil_of_le (by omega)
    subst hc
    clear hy HE
    go_wp2_with (at_builtin; refine push_raw steps_t rfl (.tmp 37) (.tmp 41) rfl w1.heap.size _ _ _ rfl HO3.out ad 0 _ [] rfl rfl (fun j u hu => by simp at hu) (fun u hu => by simp at hu) ?b3 ?_)
    case b3 => omega
    intro v5 w5 ho5 hb5
    have HO5 := Lib.hid ho5
    have HB5 := Lib.hid (HB3.out.trans hb5)
    clear ho5 hb5
    go_wp2_with fail
    go_ret
    exact HS.out _ _ _ _ HO5.out (by rw [HE2.out, HDN.out]; simp [svals, spCells]) HB5.out
  · have hy2 : decide (y.1 < t) = false := decide_eq_false hy
    have HE2 := Lib.hid (HE.out.trans (by rw [if_neg hy]))
    clear hy HE
    go_wp2_with (at_builtin; refine push_raw steps_t rfl (.tmp 37) (.tmp 41) rfl w1.heap.size _ _ _ rfl HO3.out (ad.add ((k + 1) * 2)) (s.length - (k + 1)) _ (svals (s.drop (k + 1))) rfl ?a4 (HD.out _ HB3.out) (svals_cell _) ?b4 ?_)
    case a4 => rw [svals_len, List.length_drop]
    case b4 => omega
    intro v5 w5 ho5 hb5
    have HO5 := Lib.hid ho5
    have HB5 := Lib.hid (HB3.out.trans hb5)
    clear ho5 hb5
    go_wp2_with fail
    go_ret
    exact HS.out _ _ _ _ HO5.out (by rw [HE2.out, List.append_nil, svals_append]) HB5.out
end Go.Proofs.Ytjkninldenoanaa.StepWalk
