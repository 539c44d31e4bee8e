/-
  The walks of the document's answers for layer 13: May, Sums. The walks of the document's answers for layer 13: Best. What layer 13's functions answer: the posts that the law texts name.
-/
import Derived.Test.YtkaepadkdohmpaaSubRefA
import Derived.Test.YtkaepadkdohmpaaApiMem
import Derived.Test.YtkaepadkdohmpaaTwnPlain
namespace Go.Proofs.Ytkaepadkdohmpaa.TwnRef
open Go.RowKit Go.Proofs.Ytkaepadkdohmpaa.SubPlain Go.Proofs.Ytkaepadkdohmpaa.ApiPlain Go.Proofs.Ytkaepadkdohmpaa.TwnPlain Go.Proofs.Ytkaepadkdohmpaa.Mem Go.Proofs.Ytkaepadkdohmpaa.ApiMem Go.Proofs.Ytkaepadkdohmpaa.SubRef
/-- Items in memory. -/
def ItmsAt (l : List Itm) (w : World) (v : Value) : Prop := ∃ A c, v = .slice A l.length c ∧ l.length ≤ c ∧ ∀ i (hi : i < l.length), ∃ a, A = some a ∧ ItmAt w (a.add (i * 2)) l[i]
theorem ItmsAt.below {l : List Itm} {w w' : World} {v : Value} (h : ItmsAt l w v) (hb : Below w.heap.size w w') : ItmsAt l w' v := by
  obtain ⟨A, c, e, hc, hA⟩ := h
  exact ⟨A, c, e, hc, fun i hi => by
    obtain ⟨a, ea, h1⟩ := hA i hi
    exact ⟨a, ea, h1.below hb⟩⟩
theorem ItmsAt.of {l : List Itm} {w : World} {v : Value} (h : itmL.Is l w v) : ItmsAt l w v := itms_open h
theorem wsd_at {l : List Itm} {k : Nat} (h : k < l.length) : (wsOf l).getD k 0 = l[k].width := by rw [getD_at (by rw [ws_len]; exact h), ws_at h]
theorem may_end_T {l : List Itm} (h : (wsOf l).all wideB = true) : mayT l = decide (l.length ≤ 32) := by unfold mayT; rw [h]; rfl
theorem mayT_no {l : List Itm} {k : Nat} (hk : k < l.length) (hx : wideB l[k].width = false) : mayT l = false := by
  unfold mayT
  have : (wsOf l).all wideB = false := by
    rw [List.all_eq_false]
    exact ⟨l[k].width, by rw [← ws_at hk]; exact List.getElem_mem _, by rw [hx]; decide⟩
  rw [this]; rfl
def TwoQ (a b : Int) (w : World) (e : Ending) (w' : World) : Prop := e = .returned (.tuple #[.int .i64 a, .int .i64 b]) ∧ w = w'
set_option maxHeartbeats 1600000 in
theorem sums13 (l : List Itm) (b : Nat) (v : Value) (w : World) (hv : ItmsAt l w v) (hw : (wsOf l).all wideB = true) (hl : l.length ≤ 62) (hb : b < 4611686018427387904) : Calls Try.prog 22 #[v, .int .i64 b] w (TwoQ (tot (wsOf l) b) (tot (lsOf l) b) w) := by
  obtain ⟨A, c, rfl, hc, hA⟩ := hv
  have HA := Lib.hid hA
  have HW := Lib.hid hw
  clear hA hw
  go_enter Try.func22, Try.ntmps22
  go_wp2_with fail
  go_loop [6, 7, 8] (fun n m i => ∃ k : Nat, k ≤ l.length ∧ i = .int .i64 k ∧ n = .int .i64 (totTo (wsOf l) b k) ∧ m = .int .i64 (totTo (lsOf l) b k)) (fun _ _ i => l.length - (intOf i).toNat)
  case atStart => exact ⟨0, Nat.zero_le _, rfl, by rw [totTo_zero], by rw [totTo_zero]⟩
  case round =>
    obtain ⟨k, hk, rfl, rfl, rfl⟩ := hrel
    have hbd := totTo_bound HW.out b k (by rw [ws_len]; exact hk)
    have hbl := longTo_bound HW.out b k hk
    by_cases hlt : k < l.length
    · obtain ⟨ad, rfl, ⟨hb2, h1, h2⟩⟩ := HA.out k hlt
      have i0 : (0 : Int) ≤ (k : Int) := Int.natCast_nonneg _
      have i1 : (k : Int) < (l.length : Int) := by omega
      have hx : wideB l[k].width = true := (List.all_eq_true.1 HW.out) _ (by rw [← ws_at hlt]; exact List.getElem_mem _)
      unfold wideB at hx
      rw [Bool.and_eq_true, decide_eq_true_eq, decide_eq_true_eq] at hx
      obtain ⟨x1, x2⟩ := hx
      have HS := Lib.hid (totTo_succ b (show k < (wsOf l).length by rw [ws_len]; exact hlt))
      have HT := Lib.hid (totTo_succ b (show k < (lsOf l).length by rw [ls_len]; exact hlt))
      rw [ws_at hlt, ws_len] at HS
      rw [ls_at hlt, ls_len] at HT
      have hbit := bit_is b (l.length - 1 - k)
      generalize l[k] = y at *
      obtain ⟨x, g⟩ := y
      dsimp only at h1 h2 x1 x2 HS HT
      generalize totTo (wsOf l) b k = S at *
      generalize totTo (lsOf l) b k = T at *
      cases hd : b.testBit (l.length - 1 - k)
      · rw [hd] at hbit HS HT
        clear hd
        go_wp2_with fail
        exact ⟨⟨k + 1, by omega, by go_num, by rw [HS.out]; simp, by rw [HT.out]; simp⟩, by simp [intOf] <;> omega⟩
      · rw [hd] at hbit HS HT
        clear hd
        cases g
        all_goals
          go_wp2_with fail
          exact ⟨⟨k + 1, by omega, by go_num, by rw [HS.out]; simp, by rw [HT.out]; simp⟩, by simp [intOf] <;> omega⟩
    · go_wp2_with fail
      go_ret2
      exact ⟨by rw [totTo_all _ b (by rw [ws_len]; omega), totTo_all _ b (by rw [ls_len]; omega)]; rfl, rfl⟩
end Go.Proofs.Ytkaepadkdohmpaa.TwnRef
namespace Go.Proofs.Ytkaepadkdohmpaa.TwnRef
open Go.RowKit Go.Proofs.Ytkaepadkdohmpaa.SubPlain Go.Proofs.Ytkaepadkdohmpaa.ApiPlain Go.Proofs.Ytkaepadkdohmpaa.TwnPlain Go.Proofs.Ytkaepadkdohmpaa.Mem Go.Proofs.Ytkaepadkdohmpaa.ApiMem Go.Proofs.Ytkaepadkdohmpaa.SubRef
theorem takesT_ways (l : List Itm) (room long : Int) (b best : Nat) : (decide (tot (wsOf l) b ≤ room) = false ∧ takesT l room long b best = false) ∨ (decide (tot (wsOf l) b ≤ room) = true ∧ decide (tot (lsOf l) b ≤ long) = false ∧ takesT l room long b best = false) ∨
    (decide (tot (wsOf l) b ≤ room) = true ∧ decide (tot (lsOf l) b ≤ long) = true ∧ decide (tot (wsOf l) best ≤ tot (wsOf l) b) = false ∧ takesT l room long b best = false) ∨
    (decide (tot (wsOf l) b ≤ room) = true ∧ decide (tot (lsOf l) b ≤ long) = true ∧ decide (tot (wsOf l) best ≤ tot (wsOf l) b) = true ∧ takesT l room long b best = true) := by
  unfold takesT
  cases decide (tot (wsOf l) b ≤ room) <;> cases decide (tot (lsOf l) b ≤ long) <;> cases decide (tot (wsOf l) best ≤ tot (wsOf l) b) <;> simp
set_option maxHeartbeats 1600000 in
theorem best13 (l : List Itm) (room long : Int) (v : Value) (w : World) (hv : ItmsAt l w v) (hw : (wsOf l).all wideB = true) (hl : l.length ≤ 60) : Calls Try.prog 11 #[v, .int .i64 room, .int .i64 long] w (IntQ (bestI l room long) w) := by
  have CT := Lib.hid (fun (b : Nat) (h : b < 4611686018427387904) => sums13 l b v w hv hw (by omega) h)
  obtain ⟨A, c, rfl, hc, hA⟩ := hv
  have hwr : ∃ P : Nat, P = 2 ^ l.length ∧ wrap64 ((2 : Int) ^ l.length) = (P : Int) ∧ P ≤ 1152921504606846976 := by
    have h2 : 2 ^ l.length ≤ 2 ^ 60 := Nat.pow_le_pow_right (by decide) hl
    have h3 : ((2 ^ l.length : Nat) : Int) = (2 : Int) ^ l.length := by simp
    have key : ∀ (p : Nat) (q : Int), (p : Int) = q → p ≤ 1152921504606846976 → wrap64 q = (p : Int) := fun p q h h2 => by subst h; exact IntWalk.wrap64_in _ (by omega)
    exact ⟨_, rfl, key _ _ h3 h2, h2⟩
  obtain ⟨P, hP, hwr, hP2⟩ := hwr
  have HP := Lib.hid hP
  have HZ : Hid (tot (wsOf l) 0 = 0) := Lib.hid (tot_zero _)
  clear hA hw hP
  go_enter Try.func11, Try.ntmps11
  go_wp2_with fail
  go_loop [7, 8, 9] (fun n m i => ∃ B : Nat, B ≤ P ∧ i = .int .i64 B ∧ n = .int .i64 (bestT l room long B) ∧ m = .int .i64 (tot (wsOf l) (bestT l room long B))) (fun _ _ i => P - (intOf i).toNat)
  case atStart => exact ⟨0, Nat.zero_le _, rfl, rfl, by show _ = Value.int _ (tot (wsOf l) 0); rw [HZ.out]⟩
  case round =>
    obtain ⟨B, hB, rfl, rfl, rfl⟩ := hrel
    have hle := bestT_le l room long B
    by_cases hlt : B < P
    · have HS := Lib.hid (bestT_step l room long B)
      have C1 := Lib.hid (CT.out B (by omega))
      have b0 : (0 : Int) ≤ (B : Int) := Int.natCast_nonneg _
      have b1 : (B : Int) < (P : Int) := by omega
      have htw := takesT_ways l room long B (bestT l room long B)
      generalize bestT l room long B = M at *
      have HTM := Lib.hid (fun (x : Nat) (h : x = M) => congrArg (tot (wsOf l)) h)
      have HTB := Lib.hid (fun (x : Nat) (h : x = B) => congrArg (tot (wsOf l)) h)
      generalize tot (wsOf l) B = TB at *
      generalize tot (lsOf l) B = LB at *
      generalize tot (wsOf l) M = TM at *
      rcases htw with ⟨a1, a2⟩ | ⟨a1, a3, a2⟩ | ⟨a1, a3, a4, a2⟩ | ⟨a1, a3, a4, a2⟩
      all_goals
        have HR := Lib.hid a2
        clear a2
        go_wp2_with fail
        refine C1.out.mono ?_
        rintro e w1 ⟨rfl, rfl⟩
        go_wp2_with fail
        exact ⟨⟨B + 1, by omega, by go_num, by rw [HS.out, HR.out]; rfl, by first | rw [HTM.out _ (show bestT l room long (B + 1) = M by rw [HS.out, HR.out]; rfl)] | rw [HTB.out _ (show bestT l room long (B + 1) = B by rw [HS.out, HR.out]; rfl)]⟩, by simp [intOf] <;> omega⟩
    · have hBP : Hid (bestT l room long B = bestI l room long) := Lib.hid (by
        have e : B = 2 ^ l.length := by have := HP.out; omega
        rw [e]; rfl)
      have d1 : decide ((B : Int) < (P : Int)) = false := decide_eq_false (by omega)
      go_wp2_with fail
      go_ret
      exact ⟨by rw [← hBP.out]; rfl, rfl⟩
end Go.Proofs.Ytkaepadkdohmpaa.TwnRef
namespace Go.Proofs.Ytkaepadkdohmpaa.TwnWalk
open Go.RowKit Go.Proofs.Ytkaepadkdohmpaa.SubPlain Go.Proofs.Ytkaepadkdohmpaa.ApiPlain Go.Proofs.Ytkaepadkdohmpaa.TwnPlain Go.Proofs.Ytkaepadkdohmpaa.Mem Go.Proofs.Ytkaepadkdohmpaa.ApiMem Go.Proofs.Ytkaepadkdohmpaa.SubRef Go.Proofs.Ytkaepadkdohmpaa.TwnRef Go.Proofs.Ytkaepadkdohmpaa.SubWalk
def ItmsFit (l : List Itm) : Prop := ∀ x ∈ l, -9223372036854775808 ≤ x.width ∧ x.width ≤ 9223372036854775807
def BoolB (b : Bool) (w : World) (e : Ending) (w' : World) : Prop := e = .returned (.bool b) ∧ Below w.heap.size w w'
def badT (l : List Itm) (room long : Int) : Bool := !mayT l || decide (room < 0) || decide (256 < room) || decide (long < 0) || decide (256 < long)
def bestLT (l : List Itm) (room long : Int) : List Int := if badT l room long = true then [] else placesB l.length (bestI l room long)
def bestNT (l : List Itm) (room long : Int) : Int := if badT l room long = true then 0 else tot (wsOf l) (bestI l room long)
def badET (l : List Itm) (room long : Int) : Int := if badT l room long = true then 1 else 0
def TBestSays (l : List Itm) (room long : Int) (w : World) (e : Ending) (w' : World) : Prop := ∃ u, e = .returned (.tuple #[u, .int .i64 (bestNT l room long), .int .i64 (badET l room long)]) ∧ IntsAt (bestLT l room long) w' u ∧ FreshV w.heap.size u ∧ Below w.heap.size w w'
def sumA (l : List Itm) (ps : List Int) : Int := if okT l ps = true then sumP (wsOf l) ps else 0
def sumB (l : List Itm) (ps : List Int) : Int := if okT l ps = true then sumP (lsOf l) ps else 0
def SumsSays (l : List Itm) (ps : List Int) (w : World) (e : Ending) (w' : World) : Prop := e = .returned (.tuple #[.int .i64 (sumA l ps), .int .i64 (sumB l ps), .bool (okT l ps)]) ∧ Below w.heap.size w w'
theorem badT_ways (l : List Itm) (room long : Int) : (mayT l = false ∧ badT l room long = true) ∨ (mayT l = true ∧ decide (room < 0) = true ∧ badT l room long = true) ∨ (mayT l = true ∧ decide (room < 0) = false ∧ decide (256 < room) = true ∧ badT l room long = true) ∨
    (mayT l = true ∧ decide (room < 0) = false ∧ decide (256 < room) = false ∧ decide (long < 0) = true ∧ badT l room long = true) ∨ (mayT l = true ∧ decide (room < 0) = false ∧ decide (256 < room) = false ∧ decide (long < 0) = false ∧ decide (256 < long) = true ∧ badT l room long = true) ∨
    (mayT l = true ∧ decide (room < 0) = false ∧ decide (256 < room) = false ∧ decide (long < 0) = false ∧ decide (256 < long) = false ∧ badT l room long = false) := by
  unfold badT
  cases mayT l <;> cases decide (room < 0) <;> cases decide (256 < room) <;> cases decide (long < 0) <;> cases decide (256 < long) <;> simp
theorem badT_l {l : List Itm} {room long : Int} (h : badT l room long = true) : bestLT l room long = [] ∧ bestNT l room long = 0 ∧ badET l room long = 1 := by
  unfold bestLT bestNT badET
  rw [if_pos h, if_pos h, if_pos h]
  exact ⟨rfl, rfl, rfl⟩
theorem goodT_l {l : List Itm} {room long : Int} (h : badT l room long = false) : bestLT l room long = placesB l.length (bestI l room long) ∧ bestNT l room long = tot (wsOf l) (bestI l room long) ∧ badET l room long = 0 := by
  unfold bestLT bestNT badET
  rw [if_neg (by rw [h]; decide), if_neg (by rw [h]; decide), if_neg (by rw [h]; decide)]
  exact ⟨rfl, rfl, rfl⟩
def exL : List Itm := [⟨3, true⟩, ⟨3, false⟩]
theorem ex_badT : badT exL 6 2 = false := by decide +kernel
theorem ex_lT : bestLT exL 6 2 = [1] := by rw [(goodT_l ex_badT).1, show bestI exL 6 2 = 1 from ex_bestI]; exact ex_placesI
theorem ex_nT : bestNT exL 6 2 = 3 := by rw [(goodT_l ex_badT).2.1, show bestI exL 6 2 = 1 from ex_bestI]; exact ex_totI
theorem ex_eT : badET exL 6 2 = 0 := (goodT_l ex_badT).2.2
theorem may_lenT {l : List Itm} (h : 32 < l.length) : mayT l = false := by
  cases hm : mayT l
  · rfl
  · have := (mayT_all hm).2; omega
end Go.Proofs.Ytkaepadkdohmpaa.TwnWalk
