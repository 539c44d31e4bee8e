/-
  The walk of layer 4's code: by how many more are free at each time than ahead of it, in a map.
-/
import Derived.Test.YtjkninldenoanaaStepWalkH
namespace Go.Proofs.Ytjkninldenoanaa.StepWalk
open Go.RowKit Go.Proofs.Ytjkninldenoanaa.SpanPlain Go.Proofs.Ytjkninldenoanaa.StepPlain Go.Proofs.Ytjkninldenoanaa.Mem Go.Proofs.Ytjkninldenoanaa.SpanMem Go.Proofs.Ytjkninldenoanaa.StepMem Go.Proofs.Ytjkninldenoanaa.SpanRef Go.Proofs.Ytjkninldenoanaa.StepRef

theorem intLaw : Maps.Keyed Try.prog 3 := Maps.int_keyed Try.underlying3
theorem intZero (w : World) : (zeroValue 3).run Try.prog w = .ok (.int .i64 0) w := by kernel_rfl
abbrev MapD := DataW Unit
abbrev MapAt (w : World) (b n : Nat) (D : MapD) : Prop := w.ownsMap Try.prog 3 (plainElem Try.prog 3) b n D
abbrev ik (x : Int) : Lit := .int .i64 x
/-- A map that tells a function, and has these keys. -/
structure Tells (D : MapD) (f : Int → Int) (K : Int → Bool) : Prop where
  is : Maps.IsMap D
  at_ : ∀ x, D.atKey (ik x) (.lit (ik 0)) = .lit (ik (f x))
  has : ∀ x, Maps.has D (ik x) = K x
theorem key_lit (x : Int) : WideAt.IsKeyLit (ik x) := by unfold WideAt.IsKeyLit ik; simp
theorem Tells.put {D : MapD} {f : Int → Int} {K : Int → Bool} (h : Tells D f K) (a c : Int) : Tells (D.put (ik a) (.lit (ik (f a + c)))) (fun x => f x + pt a c x) (fun x => K x || decide (x = a)) := by
  refine ⟨h.is.put _ _, fun x => ?_, fun x => ?_⟩
  · by_cases hx : x = a
    · subst hx
      rw [Maps.atKey_put_same h.is (key_lit _)]
      unfold pt
      rw [if_pos rfl]
    · rw [Maps.atKey_put_other (fun e => hx (by injection e)), h.at_]
      unfold pt
      rw [if_neg hx, Int.add_zero]
  · by_cases hx : x = a
    · subst hx
      rw [Maps.has_put_same h.is (key_lit _)]; simp
    · rw [Maps.has_put_other (fun e => hx (by injection e)), h.has]; simp [hx]
theorem Tells.congr {D : MapD} {f g : Int → Int} {K L : Int → Bool} (h : Tells D f K) (e1 : ∀ x, f x = g x) (e2 : ∀ x, K x = L x) : Tells D g L := ⟨h.is, fun x => by rw [h.at_, e1], fun x => by rw [h.has, e2]⟩
theorem Tells.empty : Tells (.map []) (fun _ => 0) (fun _ => false) := ⟨⟨_, rfl⟩, fun _ => rfl, fun _ => rfl⟩
theorem Tells.first (p t : Int) : Tells ((.map [] : MapD).put (ik t) (.lit (ik p))) (turnF p t []) (keyB t []) := by
  have h := Tells.empty.put t p
  rw [Int.zero_add] at h
  exact h.congr (fun x => by show 0 + pt t p x = pt t p x; omega) (fun x => by unfold keyB; simp)
theorem Tells.next {D : MapD} {p t : Int} {l : List By} (h : Tells D (turnF p t l) (keyB t l)) {b : By} (ht : t < b.2.1) (hb : b.1 < b.2.1) :
    Tells ((D.put (ik (max b.1 t)) (.lit (ik (turnF p t l (max b.1 t) - b.2.2)))).put (ik b.2.1) (.lit (ik (turnF p t l b.2.1 + b.2.2)))) (turnF p t (l ++ [b])) (keyB t (l ++ [b])) := by
  have h1 := h.put (max b.1 t) (-b.2.2)
  have h2 := h1.put b.2.1 b.2.2
  have e : turnF p t l b.2.1 + pt (max b.1 t) (-b.2.2) b.2.1 + b.2.2 = turnF p t l b.2.1 + b.2.2 := by
    unfold pt
    rw [if_neg (by omega)]; omega
  rw [e, ← Int.sub_eq_add_neg] at h2
  refine h2.congr (fun x => ?_) (fun x => ?_)
  · rw [turn_snoc]
    unfold turn1
    rw [if_pos ht]; omega
  · rw [key_snoc, decide_eq_true ht, Bool.true_and, Bool.or_assoc]
theorem Tells.skip {D : MapD} {p t : Int} {l : List By} (h : Tells D (turnF p t l) (keyB t l)) {b : By} (ht : ¬ t < b.2.1) : Tells D (turnF p t (l ++ [b])) (keyB t (l ++ [b])) := by
  refine h.congr (fun x => ?_) (fun x => ?_)
  · rw [turn_snoc]
    unfold turn1
    rw [if_neg ht]; omega
  · rw [key_snoc, decide_eq_false ht]; simp
theorem Tells.look {D : MapD} {f : Int → Int} {K : Int → Bool} (h : Tells D f K) {x c : Int} (hc : D.atKey (ik x) (.lit (ik 0)) = .lit (ik c)) : c = f x := by
  rw [h.at_] at hc
  injection hc with hc
  injection hc with _ hc
  exact hc.symm
/-- The second look-up, behind the first store. -/
theorem Tells.look2 {D : MapD} {f : Int → Int} {K : Int → Bool} (h : Tells D f K) {x y c d : Int} (hxy : y ≠ x) (hc : (D.put (ik x) (.lit (ik d))).atKey (ik y) (.lit (ik 0)) = .lit (ik c)) : c = f y := by
  rw [Maps.atKey_put_other (fun e => hxy (by injection e))] at hc
  exact h.look hc

/-- What turnsOf answers. -/
def TurnsSays (p t : Int) (l : List By) (w : World) (e : Ending) (w' : World) : Prop := ∃ b n D, e = .returned (.map (some b)) ∧ MapAt w' b n D ∧ n ≤ 2 * l.length + 1 ∧ Tells D (turnF p t l) (keyB t l) ∧ Below w.heap.size w w'
/-- How its loop stands. -/
def TurnsAt2 (p t : Int) (l : List By) (w wr : World) (k : Nat) : Prop := ∃ n D, MapAt wr w.heap.size n D ∧ n ≤ 2 * k + 1 ∧ Tells D (turnF p t (l.take k)) (keyB t (l.take k)) ∧ Below w.heap.size w wr
theorem wf64 {x : Int} (h1 : -1000000000000000000 ≤ x) (h2 : x ≤ 1000000000000000000) : (Lit.int .i64 x).wf = true := WalkArith.wf_i64 (by omega)
set_option maxRecDepth 100000 in
set_option maxHeartbeats 3200000 in
theorem turnsS (p t : Int) (l : List By) (v : Value) (w : World) (hv : BusyIs l w v) (hl : l.length ≤ 300) (hall : ∀ b ∈ l, byB b = true) (hp : 1 ≤ p ∧ p ≤ 256) (ht : 0 ≤ t ∧ t ≤ 1125899906842624) : Calls Try.prog 37 #[.int .i64 p, .int .i64 t, v] w (TurnsSays p t l w) := by
  obtain ⟨A, c, rfl, hA⟩ := hv.open_
  have HA := Lib.hid hA
  have HALL := Lib.hid hall
  clear hA hv hall
  have hmm := @run_makeMap Try.prog
  obtain ⟨w0, hrun0, hown0, hg0⟩ := World.ownsMap.update (val := .int .i64 p) (World.ownsMap_made (H := Unit) w Try.prog 3 (plainElem Try.prog 3)) intLaw Try.underlying76 (by unfold maxLen; omega) (Maps.keyOf_int_mk Try.underlying3 (wf64 (x := t) (by omega) (by omega))) (plainElem_int Try.underlying3 (wf64 (x := p) (by omega) (by omega)))
  have HOWN0 := Lib.hid hown0
  have HB0 : Hid (Below w.heap.size w w0) := ((Below.refl _ _).alloc (Nat.le_refl _) _).grown hg0 (by simp) (fun j hj => by cases hj; exact Nat.le_refl _)
  clear hown0 hg0
  go_enter Try.func37, Try.ntmps37
  go_wp2_with fail
  go_loopw [16] (fun i wr => ∃ k : Nat, i = .int .i64 k ∧ k ≤ l.length ∧ Hid (TurnsAt2 p t l w wr k)) (fun i _ => l.length - (intOf i).toNat)
  case atStart => exact ⟨0, rfl, Nat.zero_le _, _, _, HOWN0.out, by omega, Tells.first p t, HB0.out⟩
  case round =>
    obtain ⟨k, rfl, hk, HL⟩ := hrel
    obtain ⟨n, D, hown, hnk, htell, hbl⟩ := HL.out
    by_cases hlt : k < l.length
    · obtain ⟨ad, rfl, had, c1, c2, c3⟩ := (HA.out.below hbl) k hlt
      have hby := HALL.out _ (by rw [by_at hlt]; exact List.getElem_mem hlt : byCell l k ∈ l)
      have htk : l.take (k + 1) = l.take k ++ [byCell l k] := by rw [List.take_succ_eq_append_getElem hlt, by_at hlt]
      have hrg := fun x => turn_range (p := p) (t := t) (l := l.take k) (fun b hb => HALL.out b (List.mem_of_mem_take hb)) hp x
      have hlen : (l.take k).length ≤ 300 := by rw [List.length_take]; omega
      have hmay := (mayB_iff _).1 (by_may hby)
      have hwd : 1 ≤ (byCell l k).2.2 ∧ (byCell l k).2.2 ≤ 256 := by
        unfold byB at hby
        simp only [Bool.and_eq_true, decide_eq_true_eq] at hby
        exact ⟨hby.1.2, hby.2⟩
      obtain ⟨m0, m1, m2⟩ := hmay
      dsimp only at m0 m1 m2
      clear HL hby
      by_cases htt : t < (byCell l k).2.1
      · have d1 : decide (t < (byCell l k).2.1) = true := decide_eq_true htt
        have HT := Lib.hid htell
        have HN := Lib.hid (htell.next htt m1)
        rw [← htk] at HN
        obtain ⟨r1, r2⟩ := hrg (max (byCell l k).1 t)
        obtain ⟨r3, r4⟩ := hrg (byCell l k).2.1
        have HTK := Lib.hid htk
        have hne : (byCell l k).2.1 ≠ max (byCell l k).1 t := by omega
        have HNE := Lib.hid hne
        have HM1 := Lib.hid (hown.alloc (.cells #[.int .i64 (byCell l k).1, .int .i64 (byCell l k).2.1, .int .i64 (byCell l k).2.2] 36))
        have hmb := hown.lt
        clear htell htk hrg htt hne hown
        generalize byCell l k = b at *
        generalize hf1 : turnF p t (l.take k) (max b.1 t) = f1 at *
        generalize hf2 : turnF p t (l.take k) b.2.1 = f2 at *
        have HF1 := Lib.hid hf1
        have HF2 := Lib.hid hf2
        have HBL := Lib.hid (hbl.alloc hbl.size (.cells #[.int .i64 b.1, .int .i64 b.2.1, .int .i64 b.2.2] 36))
        have HKEY1 := Lib.hid (Maps.keyOf_int_mk (P := Try.prog) (k := 3) Try.underlying3 (wf64 (x := max b.1 t) (by omega) (by omega)))
        have HKEY2 := Lib.hid (Maps.keyOf_int_mk (P := Try.prog) (k := 3) Try.underlying3 (wf64 (x := b.2.1) (by omega) (by omega)))
        clear hf1 hf2 hbl
        go_wp2_with (at_lookup; refine wpList_lookup_own_int _ rfl _ _ 76 rfl 3 3 .i64 intLaw Try.underlying76 Try.underlying3 (intZero _) w.heap.size n D rfl HM1.out _ _ rfl HKEY1.out ?_)
        intro c4 hat _
        obtain rfl : c4 = f1 := (HT.out.look hat).trans HF1.out
        clear hat
        go_wp2_with (at_mapUpdate; refine wpList_mapUpdate_own _ rfl _ _ _ 76 rfl 3 3 intLaw Try.underlying76 _ w.heap.size n D rfl HM1.out (by unfold maxLen; omega) _ _ _ rfl rfl HKEY1.out _ [] (plainElem_int Try.underlying3 (wf64 (x := c4 - b.2.2) (by omega) (by omega))) ?_)
        intro w1 hown1 hg1
        have HBL1 := Lib.hid (HBL.out.grown hg1 HBL.out.size (fun j hj => by cases hj; exact Nat.le_refl _))
        have hbe := hg1.block wr.heap.size (by simp) (by simp; omega)
        have x1 : w1.cell? ⟨wr.heap.size, 1, none⟩ = some (.int .i64 b.2.1) := (World.cell?_of_block (a := ⟨wr.heap.size, 1, none⟩) hbe).trans (box_cell (Below.refl _ _) (j := 1) rfl)
        have x2 : w1.cell? ⟨wr.heap.size, 2, none⟩ = some (.int .i64 b.2.2) := (World.cell?_of_block (a := ⟨wr.heap.size, 2, none⟩) hbe).trans (box_cell (Below.refl _ _) (j := 2) rfl)
        have HM2 := Lib.hid hown1
        clear hown1 hg1 hbe HM1 c1 c2 c3
        go_wp2_with (at_lookup; refine wpList_lookup_own_int _ rfl _ _ 76 rfl 3 3 .i64 intLaw Try.underlying76 Try.underlying3 (intZero _) w.heap.size (n + 1) _ rfl HM2.out _ _ rfl HKEY2.out ?_)
        intro c5 hat _
        obtain rfl : c5 = f2 := (HT.out.look2 HNE.out hat).trans HF2.out
        clear hat
        go_wp2_with (at_mapUpdate; refine wpList_mapUpdate_own _ rfl _ _ _ 76 rfl 3 3 intLaw Try.underlying76 _ w.heap.size (n + 1) _ rfl HM2.out (by unfold maxLen; omega) _ _ _ rfl rfl HKEY2.out _ [] (plainElem_int Try.underlying3 (wf64 (x := c5 + b.2.2) (by omega) (by omega))) ?_)
        intro w2 hown2 hg2
        have HBL2 := Lib.hid (HBL1.out.grown hg2 HBL1.out.size (fun j hj => by cases hj; exact Nat.le_refl _))
        have HM3 := Lib.hid hown2
        clear hown2 hg2 x1 x2
        go_wp2_with fail
        exact ⟨⟨k + 1, by go_num, by omega, n + 1 + 1, _, HM3.out, by omega, HN.out, HBL2.out⟩, by simp [intOf] <;> omega⟩
      · have d1 : decide (t < (byCell l k).2.1) = false := decide_eq_false htt
        have HN := Lib.hid (htell.skip htt)
        rw [← htk] at HN
        have HM1 := Lib.hid (hown.alloc (.cells #[.int .i64 (byCell l k).1, .int .i64 (byCell l k).2.1, .int .i64 (byCell l k).2.2] 36))
        have HBL := Lib.hid (hbl.alloc hbl.size (.cells #[.int .i64 (byCell l k).1, .int .i64 (byCell l k).2.1, .int .i64 (byCell l k).2.2] 36))
        clear htell htk hrg htt hown hbl
        generalize byCell l k = b at *
        go_wp2_with fail
        exact ⟨⟨k + 1, by go_num, by omega, n, _, HM1.out, by omega, HN.out, HBL.out⟩, by simp [intOf] <;> omega⟩
    · go_wp2_with fail
      go_ret
      rw [List.take_of_length_le (by omega)] at htell
      exact ⟨_, _, _, rfl, hown, by omega, htell, hbl⟩
end Go.Proofs.Ytjkninldenoanaa.StepWalk
