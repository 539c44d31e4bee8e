/-
  The walks of the document's answers for layer 5: Free, Turns.
-/
import Derived.Test.YtjkninldenoanaaProfPlain
import Derived.Test.YtjkninldenoanaaStepRefB
import Derived.Test.YtjkninldenoanaaStepRefG
namespace Go.Proofs.Ytjkninldenoanaa.ProfRef
open Go.RowKit Go.Proofs.Ytjkninldenoanaa.SpanPlain Go.Proofs.Ytjkninldenoanaa.StepPlain Go.Proofs.Ytjkninldenoanaa.ProfPlain Go.Proofs.Ytjkninldenoanaa.Mem Go.Proofs.Ytjkninldenoanaa.SpanMem Go.Proofs.Ytjkninldenoanaa.StepMem Go.Proofs.Ytjkninldenoanaa.SpanRef Go.Proofs.Ytjkninldenoanaa.StepRef

/-- A profile of the document, by value: v is the slice of what was done. -/
def profV (x : Prof) (v : Value) : Value := .agg #[.int .i64 x.p, .int .i64 x.t, v]
/-- What of a profile is asked of the walks. -/
structure Prof.Ok (x : Prof) : Prop where
  p1 : 0 ≤ x.p
  p2 : x.p ≤ 256
  done : Done x.l
  len : x.l.length ≤ 300
def IntB (n : Int) (w : World) (e : Ending) (w' : World) : Prop := e = .returned (.int .i64 n) ∧ Below w.heap.size w w'

set_option maxHeartbeats 800000 in
theorem free5 (x : Prof) (v : Value) (t : Int) (w : World) (hv : BusyIs x.l w v) (hx : Prof.Ok x) : Calls Try.prog 32 #[profV x v, .int .i64 t] w (IntB (freeL x.p x.l t) w) := by
  have HF := Lib.hid (fun (w' : World) (hb : Below w.heap.size w w') => free4w x.p x.l v t w' (hv.below hb) hx.done.wide hx.p1 hx.p2 (by have := hx.len; omega))
  have HB := Lib.hid (below_alloc w (.cells #[.int .i64 x.p, .int .i64 x.t, v] 33))
  obtain ⟨A, c, rfl, _⟩ := hv.open_
  unfold profV
  clear hv hx
  go_enter Try.func32, Try.ntmps32
  go_wp2_with fail
  refine (HF.out _ HB.out).mono ?_
  rintro e w1 ⟨rfl, rfl⟩
  go_wp2_with fail
  go_ret
  exact ⟨rfl, HB.out⟩

/-- What Turns answers. -/
def WithinIs (l : List By) (s : Sp) (w : World) (e : Ending) (w' : World) : Prop := ∃ v, e = .returned v ∧ IntsIs (within l s) w' v ∧ Below w.heap.size w w'
def WithinLoop (s : Sp) (e : List Int) (w wr : World) (v : Value) (k : Nat) : Prop :=
  OwnN 3 1 w.heap.size wr v ((e.take k).filter fun x => decide (x < s.2)).length (ivals ((e.take k).filter fun x => decide (x < s.2))) ∧ Below w.heap.size w wr
theorem below_take {e : List Int} {k : Nat} (hk : k < e.length) (t : Int) : ((e.take (k + 1)).filter fun x => decide (x < t)) = ((e.take k).filter fun x => decide (x < t)) ++ if e.getD k 0 < t then [e.getD k 0] else [] := by
  rw [List.take_succ_eq_append_getElem hk, List.filter_append, getD_el hk, List.filter_cons, List.filter_nil]
  by_cases h : e[k] < t <;> simp [h]
theorem below_len (e : List Int) (k : Nat) (t : Int) : ((e.take k).filter fun x => decide (x < t)).length ≤ e.length := by
  have h1 := List.length_filter_le (fun x => decide (x < t)) (e.take k)
  rw [List.length_take] at h1
  omega
theorem turns_len2 (t : Int) (l : List By) : (turnsL t l).length ≤ 2 * l.length + 1 := by
  have h1 := (ends_spec (busySp l)).2.2
  rw [busy_at (fun _ => trivial)] at h1
  have h2 := List.length_filter_le (fun e => decide (t < e)) (endsL (busySp l))
  unfold turnsL
  rw [List.length_cons]
  omega
theorem ints_own {base n : Nat} {w : World} {v : Value} {l : List Int} {e : TypeId} (h : OwnR e 1 base w v n (ivals l)) (hn : n = l.length) : IntsIs l w v := OwnR.ints h hn

set_option maxHeartbeats 3200000 in
theorem turns5 (x : Prof) (s : Sp) (v : Value) (w : World) (hv : BusyIs x.l w v) (hx : Prof.Ok x) : Calls Try.prog 40 #[profV x v, spV s] w (WithinIs x.l s w) := by
  have HB := Lib.hid (((Below.refl w.heap.size w).alloc (Nat.le_refl _) (.cells #[.int .i64 x.p, .int .i64 x.t, v] 33)).alloc (by simp) (.cells #[.int .i64 s.1, .int .i64 s.2] 25))
  have HT := Lib.hid (fun (w' : World) (hb : Below w.heap.size w w') => turns4 s.1 x.l v w' (hv.below hb) (by have := hx.len; omega))
  have hlen := turns_len2 s.1 x.l
  have hx2 := hx.len
  have HS := Lib.hid (Box2.new (w.alloc (.cells #[.int .i64 x.p, .int .i64 x.t, v] 33)) (.int .i64 s.1) (.int .i64 s.2) 25)
  have hW : Hid (within x.l s = (turnsL s.1 x.l).filter fun e => decide (e < s.2)) := rfl
  obtain ⟨A, c, rfl, _⟩ := hv.open_
  unfold profV spV
  clear hv hx
  go_enter Try.func40, Try.ntmps40
  go_wp2_with fail
  refine (HT.out _ HB.out).mono ?_
  rintro e w1 ⟨ve, rfl, hE, hb1⟩
  have hbs := HS.out.below hb1
  have hsz : (w.alloc (.cells #[.int .i64 x.p, .int .i64 x.t, .slice A x.l.length c] 33)).heap.size = w.heap.size + 1 := by simp
  rw [hsz] at hbs
  have HBS := Lib.hid hbs
  obtain ⟨ea, ec, rfl, hre, _, _⟩ := hE
  have HRE := Lib.hid hre
  have HB1 := Lib.hid (HB.out.trans (hb1.mono (by simp; omega)))
  have HO := Lib.hid (OwnR.new w1 3 1)
  clear hre hb1 HT HS hbs hsz
  generalize turnsL s.1 x.l = es at *
  go_wp2_with fail
  go_loopw [6, 7] (fun o i wr => ∃ (k : Nat) (v : Value), v = o ∧ i = .int .i64 k ∧ k ≤ es.length ∧ Hid (OwnR 3 1 w1.heap.size wr v ((es.take k).filter fun x => decide (x < s.2)).length (ivals ((es.take k).filter fun x => decide (x < s.2))) ∧ Below w1.heap.size w1 wr)) (fun _ i _ => es.length - (intOf i).toNat)
  case atStart => exact ⟨0, _, rfl, rfl, Nat.zero_le _, HO.out, (Below.refl _ _).alloc (Nat.le_refl _) _⟩
  case round =>
    obtain ⟨k, o, hov, rfl, hk, HL⟩ := hrel
    subst hov
    by_cases hlt : k < es.length
    · obtain ⟨hown, hbl⟩ := HL.out
      have c1 := (HRE.out.below hbl).int hlt
      obtain ⟨b0, b1, b2, _, _⟩ := HBS.out.below hbl
      have HF := Lib.hid (below_take hlt s.2)
      have hfl := below_len es k s.2
      have HOW := Lib.hid hown
      have HBL := Lib.hid hbl
      have i0 : (0 : Int) ≤ (k : Int) := Int.natCast_nonneg _
      have i1 : (k : Int) < (es.length : Int) := by omega
      clear hown hbl HL
      generalize es.getD k 0 = y at *
      generalize (es.take k).filter (fun x => decide (x < s.2)) = fl at *
      by_cases hy : y < s.2
      · have hy2 : decide (y < s.2) = true := decide_eq_true hy
        have HF2 := Lib.hid (HF.out.trans (by rw [if_pos hy]))
        clear HF
        go_wp2_with fail
        go_quiet (fail)
        have HOQ := Lib.hid (HOW.out.drewN nq)
        have HBQ := Lib.hid (below_drewN HBL.out nq)
        have d1 : (wr.drewN nq).cell? (ea.add k) = some (.int .i64 y) := c1
        clear HOW HBL c1 b0 b1 b2
        generalize wr.drewN nq = wq at *
        have HOA := Lib.hid (HOQ.out.alloc (.cells #[.int .i64 y] 3))
        go_wp2_with (at_builtin; refine push_raw ints_t rfl (.tmp 27) (.tmp 32) rfl w1.heap.size _ _ _ rfl HOA.out ⟨wq.heap.size, 0, none⟩ 1 1 [.int .i64 y] rfl ?a1 ?a2 ?a3 ?a4 ?_)
        case a1 => rfl
        case a2 => exact Raw.alloc wq #[.int .i64 y] _
        case a3 => exact one_cell
        case a4 => omega
        intro v3 w3 ho3 hb3
        have HO3 := Lib.hid ho3
        have HB3 := Lib.hid ((HBQ.out.alloc HBQ.out.size _).trans hb3)
        clear ho3 hb3
        go_wp2_with fail
        exact ⟨⟨k + 1, _, rfl, by go_num, by omega, HO3.out.cast (by rw [HF2.out]; simp) (by rw [HF2.out]; simp [ivals]), HB3.out⟩, by simp [intOf] <;> omega⟩
      · have hy2 : decide (y < s.2) = false := decide_eq_false hy
        have HF2 := Lib.hid (HF.out.trans (by rw [if_neg hy]))
        clear HF
        go_wp2_with fail
        go_quiet (fail)
        go_wp2_with fail
        exact ⟨⟨k + 1, _, rfl, by go_num, by omega, (HOW.out.drewN nq).cast (by rw [HF2.out]; simp) (by rw [HF2.out]; simp), below_drewN HBL.out nq⟩, by simp [intOf] <;> omega⟩
    · go_wp2_with fail
      go_ret
      obtain ⟨hown, hbl⟩ := HL.out
      rw [List.take_of_length_le (by omega)] at hown
      exact ⟨_, rfl, by rw [hW.out]; exact OwnR.ints hown rfl, HB1.out.trans (hbl.mono HB1.out.size)⟩
end Go.Proofs.Ytjkninldenoanaa.ProfRef
