/-
  The walks of the document's answers for layer 9: Check, Of.
-/
import Derived.Test.YtmggmaackgnicaaQueRefA
import Derived.Deep.CutBlock
import Derived.Deep.DeepCutAuto
namespace Go.Proofs.Ytmggmaackgnicaa.QueRef
open Go.RowKit Go.Proofs.Ytmggmaackgnicaa.JobPlain Go.Proofs.Ytmggmaackgnicaa.ApiPlain Go.Proofs.Ytmggmaackgnicaa.QuePlain Go.Proofs.Ytmggmaackgnicaa.Mem Go.Proofs.Ytmggmaackgnicaa.ApiMem
/-- Names' lengths are lengths. -/
def Short (l : List Cl) : Prop := ∀ c ∈ l, ClFit c
theorem Short.at {l : List Cl} (h : Short l) {k : Nat} (hk : k < l.length) : (nthC l k).name.size ≤ 9223372036854775807 := (h _ (by rw [nthC_at hk]; exact List.getElem_mem hk)).f0
theorem Short.fit {l : List Cl} (h : Short l) {k : Nat} (hk : k < l.length) : ClFit (nthC l k) := h _ (by rw [nthC_at hk]; exact List.getElem_mem hk)
/-- A class's place, in words of cells. -/
theorem cls_nth {l : List Cl} {w w' : World} {A : Option Addr} (h : ∀ i (hi : i < l.length), ∃ a, A = some a ∧ ClAt w (a.add (i * 5)) l[i]) (hb : Below w.heap.size w w') {k : Nat} (hk : k < l.length) : ∃ a, A = some a ∧ ClAt w' (a.add (k * 5)) (nthC l k) := by
  obtain ⟨a, ea, h1⟩ := h k hk
  exact ⟨a, ea, by rw [nthC_at hk]; exact h1.below hb⟩
theorem pair_ways (l : List Cl) {i k : Nat} : (((nthC l i).name.toList == (nthC l k).name.toList) = true ∧ Hid (clash (nthC l i) (nthC l k) = true)) ∨ (((nthC l i).name.toList == (nthC l k).name.toList) = false ∧ meetC (nthC l i) (nthC l k) = true ∧ Hid (clash (nthC l i) (nthC l k) = true)) ∨
    (((nthC l i).name.toList == (nthC l k).name.toList) = false ∧ meetC (nthC l i) (nthC l k) = false ∧ Hid (clash (nthC l i) (nthC l k) = false)) := by
  unfold clash
  cases (nthC l i).name.toList == (nthC l k).name.toList with
  | true => exact .inl ⟨rfl, rfl⟩
  | false =>
    cases meetC (nthC l i) (nthC l k) with
    | true => exact .inr (.inl ⟨rfl, rfl, rfl⟩)
    | false => exact .inr (.inr ⟨rfl, rfl, rfl⟩)
theorem ret_i {a b : Int} (h : a = b) : Ending.returned (.int .i64 a) = .returned (.int .i64 b) := by rw [h]
set_option maxRecDepth 100000 in
set_option maxHeartbeats 6400000 in
theorem check9 (l : List Cl) (v : Value) (w : World) (hv : clL.Is l w v) (hs : Short l) (hl : l.length ≤ 1000) : Calls Try.prog 8 #[v] w (IntC (checkC l) w) := by
  obtain ⟨A, c, rfl, hn, hA⟩ := cls_open hv
  have HA := Lib.hid hA
  have HS := Lib.hid hs
  clear hA hv hs
  by_cases h20 : 20 < l.length
  · have HR := Lib.hid (checkC_full h20)
    have d1 : decide ((20 : Int) < (l.length : Int)) = true := decide_eq_true (by omega)
    go_enter Try.func8, Try.ntmps8
    go_wp2_with fail
    go_ret
    exact ⟨ret_i HR.out.symm, Below.refl _ _⟩
  · have d1 : decide ((20 : Int) < (l.length : Int)) = false := decide_eq_false (by omega)
    have HARG := Lib.hid (fun h => checkC_arg h20 h)
    have HTHERE := Lib.hid (fun h h2 => checkC_there h20 h h2)
    have HOK := Lib.hid (fun h h2 => checkC_ok h20 h h2)
    go_enter Try.func8, Try.ntmps8
    go_wp2_with fail
    go_loopw [3] (fun i wr => ∃ k : Nat, i = .int .i64 k ∧ k ≤ l.length ∧ Hid (MayTo l k ∧ Below w.heap.size w wr)) (fun i _ => l.length - (intOf i).toNat)
    case atStart => exact ⟨0, rfl, Nat.zero_le _, fun i hi => absurd hi (Nat.not_lt_zero _), Below.refl _ _⟩
    case round =>
      obtain ⟨k, rfl, hk, HL⟩ := hrel
      obtain ⟨hm, hbl⟩ := HL.out
      have HBL := Lib.hid hbl
      by_cases hlt : k < l.length
      · obtain ⟨ad, rfl, ⟨p, p0, p1, p2, p3, p4⟩⟩ := cls_nth HA.out hbl hlt
        have CM := Lib.hid (fun W => may9 (nthC l k) W (HS.out.at hlt))
        have HNO := Lib.hid (fun h => HARG.out (all_no hlt h))
        have HNX := Lib.hid (fun h => hm.next h)
        have hlt2 : (k : Int) < (l.length : Int) := by omega
        have i0 : (0 : Int) ≤ (k : Int) := Int.natCast_nonneg _
        clear hm hbl HL HTHERE HOK
        unfold clV at CM
        generalize nthC l k = x at *
        cases hb : mayC x with
        | false =>
          rw [hb] at CM
          have HR := Lib.hid (HNO.out hb)
          clear hb HNO HNX
          go_wp2_with fail
          refine (CM.out _).mono ?_
          rintro e w1 ⟨rfl, hb1⟩
          have HB1 := Lib.hid (HBL.out.trans (hb1.mono HBL.out.size))
          clear hb1
          go_wp2_with fail
          go_ret
          exact ⟨ret_i HR.out.symm, HB1.out⟩
        | true =>
          rw [hb] at CM
          have HR := Lib.hid (HNX.out hb)
          clear hb HNO HNX
          go_wp2_with fail
          refine (CM.out _).mono ?_
          rintro e w1 ⟨rfl, hb1⟩
          have HB1 := Lib.hid (HBL.out.trans (hb1.mono HBL.out.size))
          clear hb1
          go_wp2_with fail
          exact ⟨⟨k + 1, by go_num, by omega, HR.out, HB1.out⟩, by simp [intOf] <;> omega⟩
      · have HALL := Lib.hid (hm.all (by omega))
        clear hm hbl HL HARG
        go_wp2_with fail
        go_loopw [4] (fun i wq => ∃ k : Nat, i = .int .i64 k ∧ k ≤ l.length ∧ Hid (apartTo l k = true ∧ Below w.heap.size w wq)) (fun i _ => l.length - (intOf i).toNat)
        case atStart => exact ⟨0, rfl, Nat.zero_le _, rfl, HBL.out⟩
        case round =>
          obtain ⟨k, rfl, hk, HL⟩ := hrel
          obtain ⟨hap, hbl⟩ := HL.out
          have HAP := Lib.hid hap
          have HBQ := Lib.hid hbl
          by_cases hlt : k < l.length
          · clear hap hbl HL
            go_wp2_with fail
            go_loopw [5] (fun j wi => ∃ m : Nat, j = .int .i64 m ∧ m ≤ k ∧ Hid (apartAt l k m = true ∧ Below w.heap.size w wi)) (fun j _ => k - (intOf j).toNat)
            case atStart => exact ⟨0, rfl, Nat.zero_le _, rfl, HBQ.out⟩
            case round =>
              obtain ⟨m, rfl, hmk, HI⟩ := hrel
              obtain ⟨haa, hbi⟩ := HI.out
              have HAA := Lib.hid haa
              have HBI := Lib.hid hbi
              by_cases hml : m < k
              · obtain ⟨ad, rfl, ⟨p, p0, p1, p2, p3, p4⟩⟩ := cls_nth HA.out hbi hlt
                obtain ⟨ad2, ead, ⟨q, q0, q1, q2, q3, q4⟩⟩ := cls_nth HA.out hbi (show m < l.length by omega)
                injection ead with ead
                subst ead
                have CM := Lib.hid (fun W => meet9 (nthC l k) (nthC l m) W (HS.out.at hlt) (HS.out.at (show m < l.length by omega)))
                have hways := pair_ways l (i := k) (k := m)
                have HNO := Lib.hid (fun h => HTHERE.out HALL.out (apartTo_no hlt (apartAt_no hml h)))
                have HNX : Hid (clash (nthC l k) (nthC l m) = false → apartAt l k (m + 1) = true) := fun h => by rw [apartAt_next, HAA.out, h]; rfl
                have i0 : (0 : Int) ≤ (k : Int) := Int.natCast_nonneg _
                have i1 : (k : Int) < (l.length : Int) := by omega
                have i2 : (0 : Int) ≤ (m : Int) := Int.natCast_nonneg _
                have i3 : (m : Int) < (l.length : Int) := by omega
                have i4 : (m : Int) < (k : Int) := by omega
                have P0 := calm_cell p p0
                have P1 := calm_cell (a := ⟨_, _, none⟩) p p1
                have P2 := calm_cell (a := ⟨_, _, none⟩) p p2
                have P3 := calm_cell (a := ⟨_, _, none⟩) p p3
                have P4 := calm_cell (a := ⟨_, _, none⟩) p p4
                have Q0 := calm_cell q q0
                have Q1 := calm_cell (a := ⟨_, _, none⟩) q q1
                have Q2 := calm_cell (a := ⟨_, _, none⟩) q q2
                have Q3 := calm_cell (a := ⟨_, _, none⟩) q q3
                have Q4 := calm_cell (a := ⟨_, _, none⟩) q q4
                clear haa hbi HI HAA p p0 p1 p2 p3 p4 q q0 q1 q2 q3 q4
                unfold clV at CM
                generalize nthC l k = x at *
                generalize nthC l m = y at *
                rcases hways with ⟨h1, HR⟩ | ⟨h1, h2, HR⟩ | ⟨h1, h2, HR⟩
                · have HE := Lib.hid (HNO.out HR.out)
                  clear HNO HNX HR CM
                  go_wp2_with fail
                  refine wp_region_calm (by kernel_rfl) (by kernel_rfl) ?_
                  repeat (first | go_big_quiet_step (fail) | quiet_step (fail))
                  refine wpQuiet_nil ?_
                  intro w1 hw
                  have hb1 := lull_below hw
                  clear hw
                  have HB1 := Lib.hid (HBI.out.trans (hb1.mono HBI.out.size))
                  clear hb1 P0 P1 P2 P3 P4 Q0 Q1 Q2 Q3 Q4
                  go_wp2_with fail
                  go_ret
                  exact ⟨ret_i HE.out.symm, HB1.out⟩
                · have HE := Lib.hid (HNO.out HR.out)
                  rw [h2] at CM
                  clear HNO HNX HR h2
                  go_wp2_with fail
                  refine wp_region_calm (by kernel_rfl) (by kernel_rfl) ?_
                  repeat (first | go_big_quiet_step ((go_at_call 14; exact calm_of (v := .bool true) (CM.out _))) | quiet_step ((go_at_call 14; exact calm_of (v := .bool true) (CM.out _))))
                  refine wpQuiet_nil ?_
                  intro w1 hw
                  have hb1 := lull_below hw
                  clear hw
                  have HB1 := Lib.hid (HBI.out.trans (hb1.mono HBI.out.size))
                  clear hb1 P0 P1 P2 P3 P4 Q0 Q1 Q2 Q3 Q4
                  go_wp2_with fail
                  go_ret
                  exact ⟨ret_i HE.out.symm, HB1.out⟩
                · have HE := Lib.hid (HNX.out HR.out)
                  rw [h2] at CM
                  clear HNO HNX HR h2
                  go_wp2_with fail
                  refine wp_region_calm (by kernel_rfl) (by kernel_rfl) ?_
                  repeat (first | go_big_quiet_step ((go_at_call 14; exact calm_of (v := .bool false) (CM.out _))) | quiet_step ((go_at_call 14; exact calm_of (v := .bool false) (CM.out _))))
                  refine wpQuiet_nil ?_
                  intro w1 hw
                  have hb1 := lull_below hw
                  clear hw
                  have HB1 := Lib.hid (HBI.out.trans (hb1.mono HBI.out.size))
                  clear hb1 P0 P1 P2 P3 P4 Q0 Q1 Q2 Q3 Q4
                  go_wp2_with fail
                  exact ⟨⟨m + 1, by go_num, by omega, HE.out, HB1.out⟩, by simp [intOf] <;> omega⟩
              · obtain rfl : m = k := by omega
                have HN : Hid (apartTo l (m + 1) = true) := by show _ = _; rw [apartTo_next, HAP.out, HAA.out]; rfl
                clear haa hbi HI
                go_wp2_with fail
                exact ⟨⟨m + 1, by go_num, by omega, HN.out, HBI.out⟩, by simp [intOf] <;> omega⟩
          · obtain rfl : k = l.length := by omega
            have HE := Lib.hid (HOK.out HALL.out hap)
            clear hap hbl HL
            go_wp2_with fail
            go_ret
            exact ⟨ret_i HE.out.symm, HBQ.out⟩
set_option maxRecDepth 100000 in
set_option maxHeartbeats 1600000 in
theorem of9 (l : List Cl) (wd e : Int) (v : Value) (w : World) (hv : clL.Is l w v) (hs : Short l) (hl : l.length ≤ 1000) : Calls Try.prog 9 #[v, .int .i64 wd, .int .i64 e] w (IntC (ofC l wd e) w) := by
  obtain ⟨A, c, rfl, hn, hA⟩ := cls_open hv
  have HA := Lib.hid hA
  have HS := Lib.hid hs
  clear hA hv hs
  unfold ofC
  go_enter Try.func9, Try.ntmps9
  go_wp2_with fail
  go_loopw [7] (fun i wr => ∃ k : Nat, i = .int .i64 k ∧ k ≤ l.length ∧ Hid (ofFrom l wd e 0 = ofFrom l wd e k ∧ Below w.heap.size w wr)) (fun i _ => l.length - (intOf i).toNat)
  case atStart => exact ⟨0, rfl, Nat.zero_le _, rfl, Below.refl _ _⟩
  case round =>
    obtain ⟨k, rfl, hk, HL⟩ := hrel
    obtain ⟨ho, hbl⟩ := HL.out
    have HBL := Lib.hid hbl
    by_cases hlt : k < l.length
    · obtain ⟨ad, rfl, ⟨p, p0, p1, p2, p3, p4⟩⟩ := cls_nth HA.out hbl hlt
      have CM := Lib.hid (fun W => has9 (nthC l k) wd e W (HS.out.at hlt))
      have HYES := Lib.hid (fun h => ho.trans (of_yes hlt h))
      have HNX := Lib.hid (fun h => ho.trans (of_next hlt h))
      have hlt2 : (k : Int) < (l.length : Int) := by omega
      have i0 : (0 : Int) ≤ (k : Int) := Int.natCast_nonneg _
      clear ho hbl HL
      unfold clV at CM
      generalize nthC l k = x at *
      cases hb : hasC x wd e with
      | true =>
        rw [hb] at CM
        have HR := Lib.hid (HYES.out hb)
        clear hb HYES HNX
        go_wp2_with fail
        refine (CM.out _).mono ?_
        rintro e1 w1 ⟨rfl, hb1⟩
        have HB1 := Lib.hid (HBL.out.trans (hb1.mono HBL.out.size))
        clear hb1
        go_wp2_with fail
        go_ret
        exact ⟨ret_i HR.out.symm, HB1.out⟩
      | false =>
        rw [hb] at CM
        have HR := Lib.hid (HNX.out hb)
        clear hb HYES HNX
        go_wp2_with fail
        refine (CM.out _).mono ?_
        rintro e1 w1 ⟨rfl, hb1⟩
        have HB1 := Lib.hid (HBL.out.trans (hb1.mono HBL.out.size))
        clear hb1
        go_wp2_with fail
        exact ⟨⟨k + 1, by go_num, by omega, HR.out, HB1.out⟩, by simp [intOf] <;> omega⟩
    · have HR := Lib.hid (ho.trans (of_end (by omega)))
      clear ho hbl HL
      go_wp2_with fail
      go_ret
      exact ⟨ret_i HR.out.symm, HBL.out⟩
end Go.Proofs.Ytmggmaackgnicaa.QueRef
