/-
  The walks of layer 4's code: which busy times there may be; by how many more are free at each time, in a map. The walk of layer 4's code: by how many more are free at each time than ahead of it, in a map. The walk of layer 4's code: the times at which something turns, out of the map, in order.
-/
import Derived.Test.YtkaepadkdohmpaaStepWalkD
import Derived.Maps.OwnOps
import Derived.Maps.Views
import Derived.Maps.RangeWalk
import Derived.Sort.OwnSortedInts
namespace Go.Proofs.Ytkaepadkdohmpaa.StepWalk
open Go.RowKit Go.Proofs.Ytkaepadkdohmpaa.SpanPlain Go.Proofs.Ytkaepadkdohmpaa.StepPlain Go.Proofs.Ytkaepadkdohmpaa.Mem Go.Proofs.Ytkaepadkdohmpaa.SpanMem Go.Proofs.Ytkaepadkdohmpaa.StepMem Go.Proofs.Ytkaepadkdohmpaa.SpanRef Go.Proofs.Ytkaepadkdohmpaa.StepRef
def busyB (l : List By) : Bool := decide (l.length ≤ 300) && l.all byB
theorem byb_ways (b : By) : (byB b = false ∧ mayB (b.1, b.2.1) = false) ∨ (byB b = false ∧ mayB (b.1, b.2.1) = true ∧ decide (b.2.2 < 1) = true) ∨ (byB b = false ∧ mayB (b.1, b.2.1) = true ∧ decide (b.2.2 < 1) = false ∧ decide (256 < b.2.2) = true) ∨
    (byB b = true ∧ mayB (b.1, b.2.1) = true ∧ decide (b.2.2 < 1) = false ∧ decide (256 < b.2.2) = false) := by
  unfold byB
  cases mayB (b.1, b.2.1) with
  | false => exact .inl ⟨rfl, rfl⟩
  | true =>
    by_cases h1 : b.2.2 < 1
    · exact .inr (.inl ⟨by rw [decide_eq_false (by omega : ¬ 1 ≤ b.2.2)]; rfl, rfl, decide_eq_true h1⟩)
    · by_cases h2 : 256 < b.2.2
      · exact .inr (.inr (.inl ⟨by rw [decide_eq_false (by omega : ¬ b.2.2 ≤ 256), Bool.and_false], rfl, decide_eq_false h1, decide_eq_true h2⟩))
      · exact .inr (.inr (.inr ⟨by rw [decide_eq_true (by omega : 1 ≤ b.2.2), decide_eq_true (by omega : b.2.2 ≤ 256)]; rfl, rfl, decide_eq_false h1, decide_eq_false h2⟩))
theorem busy_no {l : List By} {k : Nat} (hk : k < l.length) (h : byB (byCell l k) = false) : busyB l = false := by
  unfold busyB
  rw [Bool.and_eq_false_iff]
  right
  rw [List.all_eq_false]
  exact ⟨byCell l k, by rw [by_at hk]; exact List.getElem_mem hk, by rw [h]; simp⟩
theorem busy_yes {l : List By} (hl : l.length ≤ 300) (h : ∀ b ∈ l, byB b = true) : busyB l = true := by
  unfold busyB
  rw [decide_eq_true hl, List.all_eq_true.2 h]; rfl
set_option maxHeartbeats 1600000 in
theorem busyS (l : List By) (v : Value) (w : World) (hv : BusyIs l w v) (hl : l.length ≤ 310) : Calls Try.prog 40 #[v] w (BoolIs (busyB l) w) := by
  obtain ⟨A, c, rfl, hA⟩ := hv.open_
  have HA := Lib.hid hA
  clear hA hv
  by_cases h3 : l.length ≤ 300
  · have d1 : decide ((300 : Int) < (l.length : Int)) = false := decide_eq_false (by omega)
    go_enter Try.func40, Try.ntmps40
    go_wp2_with fail
    go_loopw [10] (fun i wr => ∃ k : Nat, i = .int .i64 k ∧ k ≤ l.length ∧ Hid ((∀ b ∈ l.take k, byB b = true) ∧ Below w.heap.size w wr)) (fun i _ => l.length - (intOf i).toNat)
    case atStart => exact ⟨0, rfl, Nat.zero_le _, fun b hb => by simp at hb, Below.refl _ _⟩
    case round =>
      obtain ⟨k, rfl, hk, HL⟩ := hrel
      obtain ⟨hall, hbl⟩ := HL.out
      by_cases hlt : k < l.length
      · obtain ⟨ad, rfl, had, c1, c2, c3⟩ := (HA.out.below hbl) k hlt
        have hways := byb_ways (byCell l k)
        have HNO := Lib.hid (fun h => busy_no hlt h)
        have HNX := Lib.hid (fun h => all_next hlt hall h)
        have HBL := Lib.hid hbl
        have CM := Lib.hid (fun W => mayS ((byCell l k).1, (byCell l k).2.1) W)
        have HBB := Lib.hid (fun w1 (hb : Below (wr.alloc (.cells #[.int .i64 (byCell l k).1, .int .i64 (byCell l k).2.1, .int .i64 (byCell l k).2.2] 50)).heap.size (wr.alloc (.cells #[.int .i64 (byCell l k).1, .int .i64 (byCell l k).2.1, .int .i64 (byCell l k).2.2] 50)) w1) => box_cell hb (j := 2) rfl)
        unfold spV at CM
        clear hall hbl HL
        generalize byCell l k = b at *
        rcases hways with ⟨hB, hm⟩ | ⟨hB, hm, h1⟩ | ⟨hB, hm, h1, h2⟩ | ⟨hB, hm, h1, h2⟩
        all_goals
          rw [hm] at CM
          first | have HN := Lib.hid (HNO.out hB) | have HN := Lib.hid (HNX.out hB)
          clear hm hB HNO HNX
          go_wp2_with fail
          refine (CM.out _).mono ?_
          rintro e w1 ⟨rfl, hb1⟩
          have x2 := HBB.out w1 hb1
          have HB1 := Lib.hid ((HBL.out.alloc HBL.out.size _).trans (hb1.mono (by have := HBL.out.size; simp; omega)))
          clear hb1 HBB CM
          go_wp2_with fail
        · go_ret
          rw [HN.out]
          exact ⟨rfl, HB1.out⟩
        · go_ret
          rw [HN.out]
          exact ⟨rfl, HB1.out⟩
        · go_ret
          rw [HN.out]
          exact ⟨rfl, HB1.out⟩
        · exact ⟨⟨k + 1, by go_num, by omega, HN.out, HB1.out⟩, by simp [intOf] <;> omega⟩
      · rw [List.take_of_length_le (by omega)] at hall
        have HY := Lib.hid (busy_yes h3 hall)
        have HBL := Lib.hid hbl
        clear hall hbl HL
        go_wp2_with fail
        go_ret
        rw [HY.out]
        exact ⟨rfl, HBL.out⟩
  · have d1 : decide ((300 : Int) < (l.length : Int)) = true := decide_eq_true (by omega)
    have HN : Hid (busyB l = false) := by unfold busyB; rw [decide_eq_false h3]; rfl
    clear h3
    go_enter Try.func40, Try.ntmps40
    go_wp2_with fail
    go_ret
    rw [HN.out]
    exact ⟨rfl, Below.refl _ _⟩
end Go.Proofs.Ytkaepadkdohmpaa.StepWalk
namespace Go.Proofs.Ytkaepadkdohmpaa.StepWalk
open Go.RowKit Go.Proofs.Ytkaepadkdohmpaa.SpanPlain Go.Proofs.Ytkaepadkdohmpaa.StepPlain Go.Proofs.Ytkaepadkdohmpaa.Mem Go.Proofs.Ytkaepadkdohmpaa.SpanMem Go.Proofs.Ytkaepadkdohmpaa.StepMem Go.Proofs.Ytkaepadkdohmpaa.SpanRef Go.Proofs.Ytkaepadkdohmpaa.StepRef
theorem intLaw : Maps.Keyed Try.prog 3 := Maps.int_keyed Try.underlying3
theorem intZero (w : World) : (zeroValue 3).run Try.prog w = .ok (.int .i64 0) w := by kernel_rfl
abbrev MapD := DataW Unit
abbrev MapAt (w : World) (b n : Nat) (D : MapD) : Prop := w.ownsMap Try.prog 3 (plainElem Try.prog 3) b n D
abbrev ik (x : Int) : Lit := .int .i64 x
/-- A map that tells a function, and has these keys. -/
structure Tells (D : MapD) (f : Int → Int) (K : Int → Bool) : Prop where
  is : Maps.IsMap D
  at_ : ∀ x, D.atKey (ik x) (.lit (ik 0)) = .lit (ik (f x))
  has : ∀ x, Maps.has D (ik x) = K x
theorem key_lit (x : Int) : WideAt.IsKeyLit (ik x) := by unfold WideAt.IsKeyLit ik; simp
theorem Tells.put {D : MapD} {f : Int → Int} {K : Int → Bool} (h : Tells D f K) (a c : Int) : Tells (D.put (ik a) (.lit (ik (f a + c)))) (fun x => f x + pt a c x) (fun x => K x || decide (x = a)) := by
  refine ⟨h.is.put _ _, fun x => ?_, fun x => ?_⟩
  · by_cases hx : x = a
    · subst hx
      rw [Maps.atKey_put_same h.is (key_lit _)]
      unfold pt
      rw [if_pos rfl]
    · rw [Maps.atKey_put_other (fun e => hx (by injection e)), h.at_]
      unfold pt
      rw [if_neg hx, Int.add_zero]
  · by_cases hx : x = a
    · subst hx
      rw [Maps.has_put_same h.is (key_lit _)]; simp
    · rw [Maps.has_put_other (fun e => hx (by injection e)), h.has]; simp [hx]
theorem Tells.congr {D : MapD} {f g : Int → Int} {K L : Int → Bool} (h : Tells D f K) (e1 : ∀ x, f x = g x) (e2 : ∀ x, K x = L x) : Tells D g L := ⟨h.is, fun x => by rw [h.at_, e1], fun x => by rw [h.has, e2]⟩
theorem Tells.empty : Tells (.map []) (fun _ => 0) (fun _ => false) := ⟨⟨_, rfl⟩, fun _ => rfl, fun _ => rfl⟩
theorem Tells.first (p t : Int) : Tells ((.map [] : MapD).put (ik t) (.lit (ik p))) (turnF p t []) (keyB t []) := by
  have h := Tells.empty.put t p
  rw [Int.zero_add] at h
  exact h.congr (fun x => by show 0 + pt t p x = pt t p x; omega) (fun x => by unfold keyB; simp)
theorem Tells.next {D : MapD} {p t : Int} {l : List By} (h : Tells D (turnF p t l) (keyB t l)) {b : By} (ht : t < b.2.1) (hb : b.1 < b.2.1) :
    Tells ((D.put (ik (max b.1 t)) (.lit (ik (turnF p t l (max b.1 t) - b.2.2)))).put (ik b.2.1) (.lit (ik (turnF p t l b.2.1 + b.2.2)))) (turnF p t (l ++ [b])) (keyB t (l ++ [b])) := by
  have h1 := h.put (max b.1 t) (-b.2.2)
  have h2 := h1.put b.2.1 b.2.2
  have e : turnF p t l b.2.1 + pt (max b.1 t) (-b.2.2) b.2.1 + b.2.2 = turnF p t l b.2.1 + b.2.2 := by
    unfold pt
    rw [if_neg (by omega)]; omega
  rw [e, ← Int.sub_eq_add_neg] at h2
  refine h2.congr (fun x => ?_) (fun x => ?_)
  · rw [turn_snoc]
    unfold turn1
    rw [if_pos ht]; omega
  · rw [key_snoc, decide_eq_true ht, Bool.true_and, Bool.or_assoc]
theorem Tells.skip {D : MapD} {p t : Int} {l : List By} (h : Tells D (turnF p t l) (keyB t l)) {b : By} (ht : ¬ t < b.2.1) : Tells D (turnF p t (l ++ [b])) (keyB t (l ++ [b])) := by
  refine h.congr (fun x => ?_) (fun x => ?_)
  · rw [turn_snoc]
    unfold turn1
    rw [if_neg ht]; omega
  · rw [key_snoc, decide_eq_false ht]; simp
theorem Tells.look {D : MapD} {f : Int → Int} {K : Int → Bool} (h : Tells D f K) {x c : Int} (hc : D.atKey (ik x) (.lit (ik 0)) = .lit (ik c)) : c = f x := by
  rw [h.at_] at hc
  injection hc with hc
  injection hc with _ hc
  exact hc.symm
/-- The second look-up, behind the first store. -/
theorem Tells.look2 {D : MapD} {f : Int → Int} {K : Int → Bool} (h : Tells D f K) {x y c d : Int} (hxy : y ≠ x) (hc : (D.put (ik x) (.lit (ik d))).atKey (ik y) (.lit (ik 0)) = .lit (ik c)) : c = f y := by
  rw [Maps.atKey_put_other (fun e => hxy (by injection e))] at hc
  exact h.look hc
/-- What turnsOf answers. -/
def TurnsSays (p t : Int) (l : List By) (w : World) (e : Ending) (w' : World) : Prop := ∃ b n D, e = .returned (.map (some b)) ∧ MapAt w' b n D ∧ n ≤ 2 * l.length + 1 ∧ Tells D (turnF p t l) (keyB t l) ∧ Below w.heap.size w w'
/-- How its loop stands. -/
def TurnsAt2 (p t : Int) (l : List By) (w wr : World) (k : Nat) : Prop := ∃ n D, MapAt wr w.heap.size n D ∧ n ≤ 2 * k + 1 ∧ Tells D (turnF p t (l.take k)) (keyB t (l.take k)) ∧ Below w.heap.size w wr
theorem wf64 {x : Int} (h1 : -1000000000000000000 ≤ x) (h2 : x ≤ 1000000000000000000) : (Lit.int .i64 x).wf = true := WalkArith.wf_i64 (by omega)
set_option maxRecDepth 100000 in
set_option maxHeartbeats 3200000 in
theorem turnsS (p t : Int) (l : List By) (v : Value) (w : World) (hv : BusyIs l w v) (hl : l.length ≤ 300) (hall : ∀ b ∈ l, byB b = true) (hp : 1 ≤ p ∧ p ≤ 256) (ht : 0 ≤ t ∧ t ≤ 1125899906842624) : Calls Try.prog 41 #[.int .i64 p, .int .i64 t, v] w (TurnsSays p t l w) := by
  obtain ⟨A, c, rfl, hA⟩ := hv.open_
  have HA := Lib.hid hA
  have HALL := Lib.hid hall
  clear hA hv hall
  have hmm := @run_makeMap Try.prog
  obtain ⟨w0, hrun0, hown0, hg0⟩ := World.ownsMap.update (val := .int .i64 p) (World.ownsMap_made (H := Unit) w Try.prog 3 (plainElem Try.prog 3)) intLaw Try.underlying79 (by unfold maxLen; omega) (Maps.keyOf_int_mk Try.underlying3 (wf64 (x := t) (by omega) (by omega))) (plainElem_int Try.underlying3 (wf64 (x := p) (by omega) (by omega)))
  have HOWN0 := Lib.hid hown0
  have HB0 : Hid (Below w.heap.size w w0) := ((Below.refl _ _).alloc (Nat.le_refl _) _).grown hg0 (by simp) (fun j hj => by cases hj; exact Nat.le_refl _)
  clear hown0 hg0
  go_enter Try.func41, Try.ntmps41
  go_wp2_with fail
  go_loopw [16] (fun i wr => ∃ k : Nat, i = .int .i64 k ∧ k ≤ l.length ∧ Hid (TurnsAt2 p t l w wr k)) (fun i _ => l.length - (intOf i).toNat)
  case atStart => exact ⟨0, rfl, Nat.zero_le _, _, _, HOWN0.out, by omega, Tells.first p t, HB0.out⟩
  case round =>
    obtain ⟨k, rfl, hk, HL⟩ := hrel
    obtain ⟨n, D, hown, hnk, htell, hbl⟩ := HL.out
    by_cases hlt : k < l.length
    · obtain ⟨ad, rfl, had, c1, c2, c3⟩ := (HA.out.below hbl) k hlt
      have hby := HALL.out _ (by rw [by_at hlt]; exact List.getElem_mem hlt : byCell l k ∈ l)
      have htk : l.take (k + 1) = l.take k ++ [byCell l k] := by rw [List.take_succ_eq_append_getElem hlt, by_at hlt]
      have hrg := fun x => turn_range (p := p) (t := t) (l := l.take k) (fun b hb => HALL.out b (List.mem_of_mem_take hb)) hp x
      have hlen : (l.take k).length ≤ 300 := by rw [List.length_take]; omega
      have hmay := (mayB_iff _).1 (by_may hby)
      have hwd : 1 ≤ (byCell l k).2.2 ∧ (byCell l k).2.2 ≤ 256 := by
        unfold byB at hby
        simp only [Bool.and_eq_true, decide_eq_true_eq] at hby
        exact ⟨hby.1.2, hby.2⟩
      obtain ⟨m0, m1, m2⟩ := hmay
      dsimp only at m0 m1 m2
      clear HL hby
      by_cases htt : t < (byCell l k).2.1
      · have d1 : decide (t < (byCell l k).2.1) = true := decide_eq_true htt
        have HT := Lib.hid htell
        have HN := Lib.hid (htell.next htt m1)
        rw [← htk] at HN
        obtain ⟨r1, r2⟩ := hrg (max (byCell l k).1 t)
        obtain ⟨r3, r4⟩ := hrg (byCell l k).2.1
        have HTK := Lib.hid htk
        have hne : (byCell l k).2.1 ≠ max (byCell l k).1 t := by omega
        have HNE := Lib.hid hne
        have HM1 := Lib.hid (hown.alloc (.cells #[.int .i64 (byCell l k).1, .int .i64 (byCell l k).2.1, .int .i64 (byCell l k).2.2] 50))
        have hmb := hown.lt
        clear htell htk hrg htt hne hown
        generalize byCell l k = b at *
        generalize hf1 : turnF p t (l.take k) (max b.1 t) = f1 at *
        generalize hf2 : turnF p t (l.take k) b.2.1 = f2 at *
        have HF1 := Lib.hid hf1
        have HF2 := Lib.hid hf2
        have HBL := Lib.hid (hbl.alloc hbl.size (.cells #[.int .i64 b.1, .int .i64 b.2.1, .int .i64 b.2.2] 50))
        have HKEY1 := Lib.hid (Maps.keyOf_int_mk (P := Try.prog) (k := 3) Try.underlying3 (wf64 (x := max b.1 t) (by omega) (by omega)))
        have HKEY2 := Lib.hid (Maps.keyOf_int_mk (P := Try.prog) (k := 3) Try.underlying3 (wf64 (x := b.2.1) (by omega) (by omega)))
        clear hf1 hf2 hbl
        go_wp2_with (at_lookup; refine wpList_lookup_own_int _ rfl _ _ 79 rfl 3 3 .i64 intLaw Try.underlying79 Try.underlying3 (intZero _) w.heap.size n D rfl HM1.out _ _ rfl HKEY1.out ?_)
        intro c4 hat _
        obtain rfl : c4 = f1 := (HT.out.look hat).trans HF1.out
        clear hat
        go_wp2_with (at_mapUpdate; refine wpList_mapUpdate_own _ rfl _ _ _ 79 rfl 3 3 intLaw Try.underlying79 _ w.heap.size n D rfl HM1.out (by unfold maxLen; omega) _ _ _ rfl rfl HKEY1.out _ [] (plainElem_int Try.underlying3 (wf64 (x := c4 - b.2.2) (by omega) (by omega))) ?_)
        intro w1 hown1 hg1
        have HBL1 := Lib.hid (HBL.out.grown hg1 HBL.out.size (fun j hj => by cases hj; exact Nat.le_refl _))
        have hbe := hg1.block wr.heap.size (by simp) (by simp; omega)
        have x1 : w1.cell? ⟨wr.heap.size, 1, none⟩ = some (.int .i64 b.2.1) := (World.cell?_of_block (a := ⟨wr.heap.size, 1, none⟩) hbe).trans (box_cell (Below.refl _ _) (j := 1) rfl)
        have x2 : w1.cell? ⟨wr.heap.size, 2, none⟩ = some (.int .i64 b.2.2) := (World.cell?_of_block (a := ⟨wr.heap.size, 2, none⟩) hbe).trans (box_cell (Below.refl _ _) (j := 2) rfl)
        have HM2 := Lib.hid hown1
        clear hown1 hg1 hbe HM1 c1 c2 c3
        go_wp2_with (at_lookup; refine wpList_lookup_own_int _ rfl _ _ 79 rfl 3 3 .i64 intLaw Try.underlying79 Try.underlying3 (intZero _) w.heap.size (n + 1) _ rfl HM2.out _ _ rfl HKEY2.out ?_)
        intro c5 hat _
        obtain rfl : c5 = f2 := (HT.out.look2 HNE.out hat).trans HF2.out
        clear hat
        go_wp2_with (at_mapUpdate; refine wpList_mapUpdate_own _ rfl _ _ _ 79 rfl 3 3 intLaw Try.underlying79 _ w.heap.size (n + 1) _ rfl HM2.out (by unfold maxLen; omega) _ _ _ rfl rfl HKEY2.out _ [] (plainElem_int Try.underlying3 (wf64 (x := c5 + b.2.2) (by omega) (by omega))) ?_)
        intro w2 hown2 hg2
        have HBL2 := Lib.hid (HBL1.out.grown hg2 HBL1.out.size (fun j hj => by cases hj; exact Nat.le_refl _))
        have HM3 := Lib.hid hown2
        clear hown2 hg2 x1 x2
        go_wp2_with fail
        exact ⟨⟨k + 1, by go_num, by omega, n + 1 + 1, _, HM3.out, by omega, HN.out, HBL2.out⟩, by simp [intOf] <;> omega⟩
      · have d1 : decide (t < (byCell l k).2.1) = false := decide_eq_false htt
        have HN := Lib.hid (htell.skip htt)
        rw [← htk] at HN
        have HM1 := Lib.hid (hown.alloc (.cells #[.int .i64 (byCell l k).1, .int .i64 (byCell l k).2.1, .int .i64 (byCell l k).2.2] 50))
        have HBL := Lib.hid (hbl.alloc hbl.size (.cells #[.int .i64 (byCell l k).1, .int .i64 (byCell l k).2.1, .int .i64 (byCell l k).2.2] 50))
        clear htell htk hrg htt hown hbl
        generalize byCell l k = b at *
        go_wp2_with fail
        exact ⟨⟨k + 1, by go_num, by omega, n, _, HM1.out, by omega, HN.out, HBL.out⟩, by simp [intOf] <;> omega⟩
    · go_wp2_with fail
      go_ret
      rw [List.take_of_length_le (by omega)] at htell
      exact ⟨_, _, _, rfl, hown, by omega, htell, hbl⟩
end Go.Proofs.Ytkaepadkdohmpaa.StepWalk
namespace Go.Proofs.Ytkaepadkdohmpaa.StepWalk
open Go.RowKit Go.Proofs.Ytkaepadkdohmpaa.SpanPlain Go.Proofs.Ytkaepadkdohmpaa.StepPlain Go.Proofs.Ytkaepadkdohmpaa.Mem Go.Proofs.Ytkaepadkdohmpaa.SpanMem Go.Proofs.Ytkaepadkdohmpaa.StepMem Go.Proofs.Ytkaepadkdohmpaa.SpanRef Go.Proofs.Ytkaepadkdohmpaa.StepRef
/-- The keys met so far. -/
structure Got (D : MapD) (left : Lit → Bool) (ks : List Int) : Prop where
  once : ks.Nodup
  mem : ∀ x, x ∈ ks ↔ Maps.has D (ik x) = true ∧ left (ik x) = false
theorem Got.start (D : MapD) : Got D (Maps.has D) [] := ⟨List.nodup_nil, fun x => by constructor <;> intro h <;> simp_all⟩
theorem same_ik (x y : Int) : (ik x).sameKey (ik y) = decide (x = y) := by simp [ik, Lit.sameKey]
theorem Got.step {D : MapD} {left : Lit → Bool} {ks : List Int} (h : Got D left ks) {x : Int} (hl : left (ik x) = true) (hh : Maps.has D (ik x) = true) : Got D (fun z => left z && !z.sameKey (ik x)) (ks ++ [x]) := by
  have hx : x ∉ ks := fun hm => by have := ((h.mem x).1 hm).2; rw [hl] at this; cases this
  refine ⟨List.nodup_append.2 ⟨h.once, by simp, fun a ha b hb => by simp at hb; subst hb; exact fun e => hx (e ▸ ha)⟩, fun y => ?_⟩
  rw [List.mem_append, h.mem, same_ik]
  by_cases hy : y = x
  · subst hy; simp [hh]
  · simp [hy]
theorem Got.sorted {D : MapD} {left : Lit → Bool} {ks : List Int} {f : Int → Int} {K : Int → Bool} (h : Got D left ks) (hl : ∀ kl, left kl = false) (ht : Tells D f K) : Rise (ks.mergeSort fun x y => decide (x ≤ y)) ∧ ∀ x, x ∈ (ks.mergeSort fun x y => decide (x ≤ y)) ↔ K x = true := by
  have hp := List.mergeSort_perm ks (fun x y => decide (x ≤ y))
  have hs := List.pairwise_mergeSort (le := fun x y : Int => decide (x ≤ y)) (fun a b c h1 h2 => by simp at *; omega) (fun a b => by simp; omega) ks
  have hn : (ks.mergeSort fun x y => decide (x ≤ y)).Nodup := hp.nodup_iff.2 h.once
  refine ⟨?_, fun x => ?_⟩
  · refine (List.pairwise_and_iff.2 ⟨hs, hn⟩).imp fun {a b} h1 => ?_
    have := of_decide_eq_true h1.1
    have := h1.2
    omega
  · rw [hp.mem_iff, h.mem, ht.has, hl]; simp
theorem map_size {w : World} {b n : Nat} {D : MapD} (h : MapAt w b n D) : Maps.size D ≤ n := by
  obtain ⟨es, clock, _, _, hs, rfl⟩ := h
  rw [Maps.size_eq, length_sorted]
  simpa using hs
/-- What rising answers. -/
def RiseSays (K : Int → Bool) (b n : Nat) (D : MapD) (w : World) (e : Ending) (w' : World) : Prop := ∃ v ks, e = .returned v ∧ IntsIs ks w' v ∧ Rise ks ∧ (∀ x, x ∈ ks ↔ K x = true) ∧ ks.length ≤ n ∧ MapAt w' b n D ∧ Below w.heap.size w w'
theorem own_off {e : TypeId} {k base n r : Nat} {w : World} {v : Value} {xs : List Value} (h : OwnN e k base w v n xs) (hr : r < base) : v.ownBlock ≠ some r := fun hc => by have := (h.1.lt _ hc).1; omega
theorem own_kept {e : TypeId} {k base n r : Nat} {w w' : World} {v : Value} {xs : List Value} (h : OwnN e k base w v n xs) (hg : w.grownBy w' (some r)) (hr : r < base) : OwnN e k base w' v n xs :=
  ⟨h.1.kept hg (.inr (own_off h hr)), Nat.le_trans h.2 hg.size⟩
set_option maxRecDepth 100000 in
set_option maxHeartbeats 3200000 in
theorem risingS (f : Int → Int) (K : Int → Bool) (b n : Nat) (D : MapD) (w : World) (hm : MapAt w b n D) (ht : Tells D f K) (hn : n ≤ 1000) (t : Int) (hk : K t = true) : Calls Try.prog 42 #[.map (some b)] w (RiseSays K b n D w) := by
  have hbl := hm.lt
  have hsz := map_size hm
  have HM := Lib.hid hm
  have HT := Lib.hid ht
  have HK := Lib.hid hk
  clear hm ht hk
  go_enter Try.func42, Try.ntmps42
  go_wp2_with (at_range; refine wpList_range_own _ rfl _ 79 rfl 3 3 intLaw Try.underlying79 _ b n D rfl HM.out ?_; intro w0 hrg0 hg0 hs0)
  go_frame
  have HB0 : Hid (Below w.heap.size w w0) := ⟨hg0.os, hg0.tape, hg0.output, hg0.size, fun i hi => hg0.block i hi (by simp)⟩
  have HR0 := Lib.hid hrg0
  have hs1 : w.heap.size + 1 ≤ w0.heap.size := by omega
  clear hrg0 hg0 hs0
  go_loopw [3] (fun o wr => ∃ (left : Lit → Bool) (cnt : Nat) (ks : List Int) (v : Value), v = o ∧ wr.ranges Try.prog 3 (plainElem Try.prog 3) b w.heap.size n D left cnt ∧ Hid (OwnN 3 1 (w.heap.size + 1) wr v ks.length (ivals ks)) ∧ Hid (Got D left ks) ∧ ks.length + cnt ≤ n ∧ Hid (Below w.heap.size w wr))
    (fun _ wr => wr.rangeLeft b w.heap.size)
  case atStart => exact ⟨_, _, [], _, rfl, HR0.out, OwnN.nil hs1, Got.start D, by simpa using hsz, HB0.out⟩
  case round =>
    obtain ⟨left, cnt, ks, o, hov, hrg, HOW, HG, hlen, HBL⟩ := hrel
    subst hov
    go_wp2_with (at_next; refine wpList_next_ranges_ii _ rfl _ rfl 3 3 .i64 .i64 intLaw Try.underlying3 Try.underlying3 b w.heap.size n _ _ _ rfl hrg ?_ ?_)
    · intro hc0 hl0
      obtain ⟨hris, hmem⟩ := HG.out.sorted hl0 HT.out
      have hmap := hrg.owns
      have hkl : ks.length ≤ n := by omega
      have hl2 : (ks.mergeSort fun x y => decide (x ≤ y)).length = ks.length := List.length_mergeSort ks
      have hpos : ks.length ≠ 0 := fun h0 => by
        have := (hmem t).2 HK.out
        rw [List.eq_nil_of_length_eq_zero (by omega : (ks.mergeSort fun x y => decide (x ≤ y)).length = 0)] at this
        simp at this
      rcases HOW.out.1.2 with ⟨_, hn0⟩ | ⟨g, cap, cur, hv, hbase, hb, h1, h2, h3, h4⟩
      · exact absurd hn0 hpos
      · subst hv
        have hH : Go.Sort.Holds (Value.int .i64) wr g 0 ks.toArray := holds_of_blockI hb (by simpa [ivals] using h4)
        have hgl : g < wr.heap.size := (Array.getElem?_eq_some_iff.1 hb).1
        have HS := Lib.hid (Try.slices_Sort_int g 0 cap ks wr hH hgl (by omega))
        have HRO : Hid (∀ nn os, OwnR 3 1 (w.heap.size + 1) (Go.Sort.grow (Go.Sort.putRow (Value.int .i64) (Go.Sort.ahead wr nn) g 0 (ks.mergeSort fun x y => decide (x ≤ y)).toArray) os) (.slice (some ⟨g, 0, none⟩) ks.length cap) ks.length (ivals (ks.mergeSort fun x y => decide (x ≤ y)))) :=
          fun nn os => ⟨ownsRow_sortedI hl2 hbase hb h1 h2 h3, by simp, Nat.le_trans HOW.out.2 (grownBy_sortedI (w := wr) (g := g) (n := nn) (os := os) _).size⟩
        have HMP : Hid (∀ nn os, MapAt (Go.Sort.grow (Go.Sort.putRow (Value.int .i64) (Go.Sort.ahead wr nn) g 0 (ks.mergeSort fun x y => decide (x ≤ y)).toArray) os) b n D) := fun nn os => hmap.kept (grownBy_sortedI _) (by simp; omega)
        have HBS : Hid (∀ nn os, Below w.heap.size w (Go.Sort.grow (Go.Sort.putRow (Value.int .i64) (Go.Sort.ahead wr nn) g 0 (ks.mergeSort fun x y => decide (x ≤ y)).toArray) os)) := fun nn os => HBL.out.grown (grownBy_sortedI _) HBL.out.size (fun j hj => by cases hj; omega)
        have HRI := Lib.hid hris
        have HME := Lib.hid hmem
        have HL2 := Lib.hid hl2
        generalize (ks.mergeSort fun x y => decide (x ≤ y)) = ts at *
        clear hH hgl hb h1 h2 h3 h4 hris hmem hmap hrg hl2 HOW
        go_wp2_with fail
        refine HS.out.mono ?_
        rintro e w' ⟨rfl, nn, os, rfl⟩
        have HOx := Lib.hid (HRO.out nn os)
        have HMx := Lib.hid (HMP.out nn os)
        have HBx := Lib.hid (HBS.out nn os)
        clear HRO HMP HBS HS
        generalize Go.Sort.grow (Go.Sort.putRow (Value.int .i64) (Go.Sort.ahead wr nn) g 0 ts.toArray) os = w9 at *
        go_wp2_with fail
        go_ret
        exact ⟨_, ts, rfl, OwnR.ints HOx.out HL2.out.symm, HRI.out, HME.out, by have := HL2.out; omega, HMx.out, HBx.out⟩
    · intro x c w1 cnt1 hwx hwc hlx hat hrg1 hlt hg1 hs2 hen
      have hhas := Maps.has_true_of_atKey hat
      have HG1 := Lib.hid (HG.out.step hlx hhas)
      have HM0 := Lib.hid hrg.left_eq
      have HO1 := Lib.hid ((own_kept HOW.out hg1 (Nat.lt_succ_self _)).alloc (.cells #[.int .i64 x] 3))
      have hoff := own_off HO1.out (Nat.lt_succ_self w.heap.size)
      have hoffb := own_off HO1.out (show b < w.heap.size + 1 by omega)
      have HOFF := Lib.hid hoff
      have HOFFB := Lib.hid hoffb
      have HRG1 := Lib.hid hrg1
      have HB1 := Lib.hid ((HBL.out.grown hg1 HBL.out.size (fun j hj => by cases hj; exact Nat.le_refl _)).alloc (Nat.le_trans HBL.out.size hg1.size) (.cells #[.int .i64 x] 3))
      obtain ⟨B, cb, hsh⟩ := HOW.out.shape
      subst hsh
      clear hwc hlx hat hrg hrg1 hg1 hs2 hhas HOW HBL HG hoff hoffb
      go_wp2_with (at_builtin; refine push_own ints_t rfl (.tmp 11) (.tmp 13) rfl (w.heap.size + 1) _ _ _ rfl HO1.out _ 1 [.int .i64 x] rfl rfl ?h1a Mem.one_cell ?h1b ?_)
      case h1a => exact raw_at (by simp) #[.int .i64 x] _
      case h1b => omega
      intro v3 w3 ho3 hb3 hg3
      have hrg3 := (HRG1.out.alloc (.cells #[.int .i64 x] 3)).kept hg3 (fun e => HOFFB.out e.symm) (fun e => HOFF.out e.symm)
      have HO3 := Lib.hid ho3
      have HB3 := Lib.hid (HB1.out.trans (hb3.mono (Nat.le_succ _)))
      have HRG3 := Lib.hid hrg3
      clear ho3 hb3 hg3 hrg3 hen
      go_wp2_with fail
      exact ⟨⟨_, cnt1, ks ++ [x], _, rfl, HRG3.out, HO3.out.cast (by simp) (by rw [ivals_append]; rfl), HG1.out, by rw [List.length_append, List.length_singleton]; omega, HB3.out⟩, by rw [HRG3.out.left_eq, HM0.out]; exact hlt⟩
end Go.Proofs.Ytkaepadkdohmpaa.StepWalk
