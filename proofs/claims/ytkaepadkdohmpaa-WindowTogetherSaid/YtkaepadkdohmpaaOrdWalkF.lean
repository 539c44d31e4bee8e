/-
  The walks of layer 8's code: First, which defers a closure that recovers.
-/
import Derived.Test.YtkaepadkdohmpaaOrdSay
import Derived.Shelf.Abstract
import Derived.Lib.AppendIntMem
import Derived.StillTailTactics
import Derived.LoopTactic
import Derived.Defers
import Derived.Recover
namespace Go.Proofs.Ytkaepadkdohmpaa.OrdWalk
open Go.RowKit Go.Lib Go.Sort Go.Proofs.Ytkaepadkdohmpaa.JobPlain Go.Proofs.Ytkaepadkdohmpaa.OrdPlain Go.Proofs.Ytkaepadkdohmpaa.Mem Go.Proofs.Ytkaepadkdohmpaa.JobMem Go.Proofs.Ytkaepadkdohmpaa.OrdMem
theorem catch_idle (p : Addr) (w : World) : CallsD Try.prog 56 #[.pointer (some p)] .returning w fun e u' w' => e = .returned (.tuple #[]) ∧ u' = .returning ∧ w' = w := by
  refine callsD_of_wpS Try.func56 rfl fun c₀ cs hu => ?_
  apply wpS_seq
  apply wpS_region
  simp [wpOpsS, go_sem, recoverD, hu, Try.ntmps56, Exit.thenS]
  refine wpS_cond (t := false) (by simp [Act.eval, Array.replicate]) ?_
  simp only [Bool.false_eq_true, if_false]
  refine wpS_of_wp (wp_skip ?_)
  cases c₀
  simp_all [bodyPostS, results, Try.results56]
/-- A box of one cell. -/
structure Held (w : World) (n : Nat) (v : Value) : Prop where
  lt : n < w.heap.size
  c : w.cell? ⟨n, 0, none⟩ = some v
  f : w.frozen? ⟨n, 0, none⟩ = false
theorem Held.new (w : World) (v : Value) (T : TypeId) : Held (w.alloc (.cells #[v] T)) w.heap.size v := by
  have h := Boxed.new w #[v] T
  exact ⟨h.lt, h.c 0 _ rfl, h.f 0 _ rfl⟩
theorem Held.of_block {w w' : World} {n : Nat} {v : Value} (h : Held w n v) (hs : n < w'.heap.size) (e : w'.heap[n]? = w.heap[n]?) : Held w' n v := by
  have hb : Boxed w n [v] := ⟨h.lt, fun i u hu => by
    match i, hu with
    | 0, hu => cases hu; exact h.c, fun i u hu => by
    match i, hu with
    | 0, hu => exact h.f⟩
  have h2 := hb.of_block hs e
  exact ⟨hs, h2.c 0 _ rfl, h2.f 0 _ rfl⟩
theorem Held.below {w w' : World} {n : Nat} {v : Value} (h : Held w n v) (hb : Below w.heap.size w w') : Held w' n v := h.of_block (Nat.lt_of_lt_of_le h.lt hb.size) (hb.block n h.lt)
theorem Held.under {B : Nat} {w w' : World} {n : Nat} {v : Value} (h : Held w n v) (hb : Below B w w') (hn : n < B) : Held w' n v := h.of_block (Nat.lt_of_lt_of_le h.lt hb.size) (hb.block n hn)
theorem Held.set {w : World} {n : Nat} {v : Value} (h : Held w n v) (u : Value) : Held (w.setCell ⟨n, 0, none⟩ u) n u :=
  ⟨by simp [World.setCell]; exact h.lt, World.cell?_setCell_same _ _ _ h.c, by rw [World.frozen?_setCell]; exact h.f⟩
/-- How the loop of First stands. -/
structure FirstW (w wr : World) (v : Value) (m : List Jb) : Prop where
  held : Held wr w.heap.size v
  own : OwnN 39 9 (w.heap.size + 1) wr v m.length (jvals m)
  below : Below w.heap.size w wr
theorem jvals_snoc (l : List Jb) (j : Jb) : jvals (l ++ [j]) = jvals l ++ jobC j := by simp [jvals]
theorem FirstW.alloc {w wr : World} {v : Value} {m : List Jb} (h : FirstW w wr v m) (o : Obj) : FirstW w (wr.alloc o) v m :=
  ⟨h.held.below (below_box _ _), h.own.alloc o, h.below.alloc h.below.size _⟩
theorem FirstW.then {w wr W : World} {v : Value} {m : List Jb} (h : FirstW w wr v m) (hb : Below wr.heap.size wr W) : FirstW w W v m :=
  ⟨h.held.below hb, h.own.below hb, below_then h.below hb⟩
theorem FirstW.stored {w w1 w2 : World} {v v' : Value} {m m' : List Jb} (h : FirstW w w1 v m) (ho : OwnN 39 9 (w.heap.size + 1) w2 v' m'.length (jvals m')) (hb : Below (w.heap.size + 1) w1 w2) : FirstW w (w2.setCell ⟨w.heap.size, 0, none⟩ v') v' m' :=
  ⟨(h.held.under hb (Nat.lt_succ_self _)).set v', ho.set_other (p := ⟨w.heap.size, 0, none⟩) (Nat.lt_succ_self _) v', (h.below.trans (hb.mono (Nat.le_succ _))).setCell (p := ⟨w.heap.size, 0, none⟩) (Nat.le_refl _) v'⟩
theorem eql_nil (w : World) : (binOp .eql 65 .nilFunc .nilFunc).run Try.prog w = .ok (.bool true) w := by kernel_rfl
theorem eql_func (f : Fn) (x y : Array Value) (w : World) : (binOp .eql 65 (.func f x y) .nilFunc).run Try.prog w = .ok (.bool false) w := by kernel_rfl
theorem leave_first (tmps : Array Value) (R : Ending → World → Prop) (w : World) (n : Nat) (v : Value) (h6 : tmps[6]? = some (.pointer (some ⟨n, 0, none⟩))) (hc : w.cell? ⟨n, 0, none⟩ = some v) (hr : R (.returned v) w) :
    Leaves Try.prog Try.f31 tmps R [{ target := Target.fn (Fn.func 56) #[Value.pointer (some ⟨n, 0, none⟩)], args := #[] }] .returning w := by
  refine leaves_cons (f := 56) (args := #[.pointer (some ⟨n, 0, none⟩)]) (by simp) (by simp [go_sem]) ?_
  refine (catch_idle ⟨n, 0, none⟩ w).mono ?_
  rintro e u' w'' ⟨rfl, rfl, rfl⟩
  refine ⟨v, ?_, hr⟩
  simp [results, Try.results31, go_sem, h6, hc]
def FirstIs (l : List Jb) (w : World) (e : Ending) (w' : World) : Prop := ∃ v', e = .returned v' ∧ OwnN 39 9 w.heap.size w' v' l.length (jvals l) ∧ Below w.heap.size w w'
set_option maxRecDepth 100000 in
set_option maxHeartbeats 3200000 in
theorem noFirst_own (most : Int) (v : Value) (w : World) : Calls Try.prog 31 #[v, .int .i64 most, .nilFunc] w (FirstIs [] w) := by
  have hmf : ∀ (fn : Fn) (first cap : Array Value) (w : World), (Instr.makeFunc fn first cap).run Try.prog w = .ok (.func fn first cap) w := fun _ _ _ _ => rfl
  have HH := Lib.hid (Held.new w (.slice none 0 0) 23)
  have HB := Lib.hid (below_box w (.cells #[.slice none 0 0] 23))
  have q1 := eql_nil
  have q2 := eql_func
  go_enter_defers Try.func31, Try.ntmps31
  go_upto_region 1 with fail
  generalize w.alloc (.cells #[.slice none 0 0] 23) = W0 at *
  obtain ⟨x0, x1, x2⟩ := HH.out
  go_wp2_with fail
  have HH2 := Lib.hid (HH.out.set (.slice none 0 0))
  have HB2 := Lib.hid (HB.out.setCell (p := ⟨w.heap.size, 0, none⟩) (Nat.le_refl _) (.slice none 0 0))
  exact leave_first _ _ _ w.heap.size (.slice none 0 0) rfl HH2.out.c ⟨_, rfl, OwnN.nil HB2.out.size, HB2.out⟩
theorem fil_step (l : List Jb) (p : Jb → Bool) {k : Nat} (hk : k < l.length) : (p l[k] = true ∧ (l.take (k + 1)).filter p = (l.take k).filter p ++ [l[k]]) ∨ (p l[k] = false ∧ (l.take (k + 1)).filter p = (l.take k).filter p) := by
  rw [List.take_succ_eq_append_getElem hk, List.filter_append]
  cases hd : p l[k] with
  | true => exact .inl ⟨rfl, by simp [hd]⟩
  | false => exact .inr ⟨rfl, by simp [hd]⟩
theorem fil_le (l : List Jb) (p : Jb → Bool) (k : Nat) : ((l.take k).filter p).length ≤ l.length := by
  have := List.length_filter_le p (l.take k)
  rw [List.length_take] at this
  omega
set_option maxRecDepth 100000 in
set_option maxHeartbeats 6400000 in
theorem first_own (g : Nat) (cb : Array Value) (p : Jb → Bool) (l : List Jb) (most : Int) (v : Value) (w : World) (eg : ∀ args w, (callFunc g args).run Try.prog w = .ok (.enter g args) w) (hp : Tells g cb p w) (hv : JobsIs l w v) (hl : l.length ≤ 100000) :
    Calls Try.prog 31 #[v, .int .i64 most, .func (.func g) #[] cb] w (FirstIs (firstL l most p) w) := by
  have hmf : ∀ (fn : Fn) (first cap : Array Value) (w : World), (Instr.makeFunc fn first cap).run Try.prog w = .ok (.func fn first cap) w := fun _ _ _ _ => rfl
  have q2 := eql_func
  have HB := Lib.hid (below_box w (.cells #[.slice none 0 0] 23))
  have HF0 : Hid (FirstW w (w.alloc (.cells #[.slice none 0 0] 23)) (.slice none 0 0) []) := Lib.hid ⟨Held.new w _ _, OwnN.nil (by simp), below_box _ _⟩
  have HV := Lib.hid hv
  obtain ⟨A, c, rfl, hn, hA⟩ := hv.open_
  have HA := Lib.hid hA
  have HP := Lib.hid hp
  clear hA hv hp
  go_enter_defers Try.func31, Try.ntmps31
  go_upto_region 1 with fail
  generalize w.alloc (.cells #[.slice none 0 0] 23) = W0 at *
  obtain ⟨x0, x1, x2⟩ := HF0.out.held
  go_upto_block 0 with fail
  clear x0 x1 x2
  go_cut [] from 12 to 29 (fun wc => ∃ u : Value, Hid (FirstW w wc u (firstL l most p)))
  case first =>
    go_wp2_with fail
    go_loopw [14] (fun i wr => ∃ (k : Nat) (u : Value), i = .int .i64 k ∧ k ≤ l.length ∧ Hid (FirstW w wr u ((l.take k).filter p)) ∧ Hid (((l.take k).filter p).length ≤ most.toNat)) (fun i _ => l.length - (intOf i).toNat)
    case atStart => exact ⟨0, _, rfl, Nat.zero_le _, HF0.out, Nat.zero_le _⟩
    case round =>
      clear HF0
      obtain ⟨k, u, rfl, hk, HW, HM⟩ := hrel
      by_cases hlt : k < l.length
      · obtain ⟨a, rfl, hat⟩ := HA.out k hlt
        have HE := Lib.hid (hat.below HW.out.below)
        obtain ⟨y, y0, y1, y2, y3, y4, y5, y6, y7, y8⟩ := HE.out
        have i1 : (k : Int) < (l.length : Int) := by omega
        have i0 : (0 : Int) ≤ (k : Int) := by omega
        have HN := Lib.hid (fil_step l p hlt)
        have HF1 := Lib.hid (first_full (l := l) (most := most) (p := p) (k := k))
        have hfl := fil_le l p k
        have HPJ := Lib.hid (fun W hW => HP.out W l[k] hW)
        clear hat
        generalize hm2 : (l.take (k + 1)).filter p = m2 at *
        generalize hm1 : (l.take k).filter p = m at *
        have HM2 := Lib.hid hm2
        have HM1 := Lib.hid hm1
        clear hm2 hm1
        generalize l[k] = j at *
        obtain ⟨Au, cu, hu⟩ := HW.out.own.shape
        subst hu
        go_upto_region 7 with fail
        have HX1 := Lib.hid (JobBox.new wr j 39)
        have HW1 := Lib.hid (HW.out.alloc (.cells #[.int .i64 j.id, .string j.user, .int .i64 j.width, .int .i64 j.est, .int .i64 j.prio, .int .i64 j.sub, .int .i64 j.state, .int .i64 j.start, .int .i64 j.fin] 39))
        have hbl : Below w.heap.size w (wr.alloc (.cells #[.int .i64 j.id, .string j.user, .int .i64 j.width, .int .i64 j.est, .int .i64 j.prio, .int .i64 j.sub, .int .i64 j.state, .int .i64 j.start, .int .i64 j.fin] 39)) := HW1.out.below
        generalize hwz : wr.heap.size = wz at *
        clear hwz
        clear y y0 y1 y2 y3 y4 y5 y6 y7 y8 HE HW
        generalize wr.alloc (.cells #[.int .i64 j.id, .string j.user, .int .i64 j.width, .int .i64 j.est, .int .i64 j.prio, .int .i64 j.sub, .int .i64 j.state, .int .i64 j.start, .int .i64 j.fin] 39) = W1 at *
        obtain ⟨x0, x1, x2⟩ := HW1.out.held
        obtain ⟨z, z0, z1, z2, z3, z4, z5, z6, z7, z8, _, _, _, _, _, _, _, _, _⟩ := HX1.out
        by_cases hge : most ≤ (m.length : Int)
        · have b1 : decide ((m.length : Int) ≥ most) = true := decide_eq_true hge
          have HF : Hid (FirstW w W1 (.slice Au m.length cu) (firstL l most p)) := by
            have h1 := HM.out
            have h2 := HF1.out (by omega)
            rw [h2]
            exact HW1.out
          go_wp2_with fail
          go_meet
          exact ⟨_, HF⟩
        · have b1 : decide ((m.length : Int) ≥ most) = false := decide_eq_false hge
          have HC := Lib.hid (HPJ.out W1 hbl)
          have HMM : Hid (m.length < most.toNat) := Lib.hid (by omega)
          unfold jobV jobA at HC
          clear hbl HPJ HF1
          rcases HN.out with ⟨hpj, hm3⟩ | ⟨hpj, hm3⟩
          · rw [hpj] at HC
            go_upto_region 9 with (go_at_fn g; refine HC.out.mono ?_; rintro e w2 ⟨rfl, hb2⟩)
            have HW2 := Lib.hid (HW1.out.then hb2)
            have HX2 := Lib.hid (HX1.out.below hb2)
            clear hb2 x0 x1 x2 z z0 z1 z2 z3 z4 z5 z6 z7 z8 HC
            obtain ⟨x0, x1, x2⟩ := HW2.out.held
            obtain ⟨z, z0, z1, z2, z3, z4, z5, z6, z7, z8, _, _, _, _, _, _, _, _, _⟩ := HX2.out
            have HW3 := Lib.hid (HW2.out.alloc (.cells #[.int .i64 j.id, .string j.user, .int .i64 j.width, .int .i64 j.est, .int .i64 j.prio, .int .i64 j.sub, .int .i64 j.state, .int .i64 j.start, .int .i64 j.fin] 39))
            have HR3 := Lib.hid (Raw.alloc w2 (jobA j) 39)
            go_wp2_with (at_builtin; refine push_own jobs_t rfl (.tmp 25) (.tmp 27) rfl (w.heap.size + 1) _ _ _ rfl HW3.out.own _ 1 (jobC j) rfl rfl ?ha1 (jobC_cell j) ?ha2 ?_)
            case ha1 => exact .inr ⟨_, _, rfl, HR3.out⟩
            case ha2 => omega
            intro v6 w6 ho6 hb6 _
            have HO6 : Hid (OwnN 39 9 (w.heap.size + 1) w6 v6 (m ++ [j]).length (jvals (m ++ [j]))) := Lib.hid (ho6.cast (by simp only [List.length_append, List.length_singleton]) (jvals_snoc _ _).symm)
            have HH6 := Lib.hid (HW3.out.held.under hb6 (Nat.lt_succ_self _))
            have HW6 := Lib.hid (HW3.out.stored HO6.out hb6)
            clear ho6 hb6 x0 x1 x2 z z0 z1 z2 z3 z4 z5 z6 z7 z8
            obtain ⟨x0, x1, x2⟩ := HH6.out
            obtain ⟨A6, c6, h6⟩ := HO6.out.shape
            subst h6
            go_wp2_with fail
            exact ⟨⟨k + 1, _, by go_num, by omega, by rw [HM2.out, hm3]; have h := HW6.out; simp only [List.length_append, List.length_singleton] at h; exact h, by rw [HM2.out, hm3, List.length_append]; exact HMM.out⟩, by simp [intOf]; omega⟩
          · rw [hpj] at HC
            go_wp2_with (go_at_fn g; refine HC.out.mono ?_; rintro e w2 ⟨rfl, hb2⟩)
            exact ⟨⟨k + 1, _, by go_num, by omega, by rw [HM2.out, hm3]; exact HW1.out.then hb2, by rw [HM2.out, hm3]; exact HM.out⟩, by simp [intOf]; omega⟩
      · have e : k = l.length := by omega
        subst e
        have HF : Hid (FirstW w wr u (firstL l most p)) := by
          have h1 := HM.out
          rw [List.take_length] at h1
          rw [first_all h1]
          have h2 := HW.out
          rw [List.take_length] at h2
          exact h2
        go_wp2_with fail
        go_meet
        exact ⟨u, HF⟩
  case rest =>
    clear HF0
    obtain ⟨u, HF⟩ := hcut
    obtain ⟨Au, cu, hu⟩ := HF.out.own.shape
    subst hu
    obtain ⟨x0, x1, x2⟩ := HF.out.held
    go_wp2_with fail
    have HF2 : Hid (FirstW w (wc.setCell ⟨w.heap.size, 0, none⟩ (.slice Au (firstL l most p).length cu)) (.slice Au (firstL l most p).length cu) (firstL l most p)) := HF.out.stored HF.out.own (Below.refl _ _)
    exact leave_first _ _ _ w.heap.size _ rfl HF2.out.held.c ⟨_, rfl, HF2.out.own.rebase (Nat.le_succ _), HF2.out.below⟩
theorem own_jobs {l : List Jb} {B : Nat} {w : World} {v : Value} (h : OwnN 39 9 B w v l.length (jvals l)) : JobsIs l w v := by
  rcases h.form with ⟨rfl, hn, hx⟩ | ⟨g, c, rfl, h1, h2, h3, h4, h5, h6, hr⟩
  · exact .inl ⟨rfl, List.eq_nil_of_length_eq_zero hn⟩
  · exact .inr ⟨_, c, rfl, h5, h3⟩
theorem noFirst (l : List Jb) (most : Int) (v : Value) (w : World) (hv : JobsIs l w v) (hl : l.length ≤ 200) : Calls Try.prog 31 #[v, .int .i64 most, .nilFunc] w (JobsSays [] w) := by
  refine (noFirst_own most v w).mono ?_
  rintro e w' ⟨v', rfl, ho, hb⟩
  exact ⟨v', rfl, own_jobs ho, hb⟩
end Go.Proofs.Ytkaepadkdohmpaa.OrdWalk
