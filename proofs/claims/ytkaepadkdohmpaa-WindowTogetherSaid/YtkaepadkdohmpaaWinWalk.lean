/-
  The walks of layer 14's code: mayLook, Items; what the choice comes to. The walks of layer 14's code: Of with its closure, Choose.
-/
import Derived.Test.YtkaepadkdohmpaaWinSay
import Derived.Test.YtkaepadkdohmpaaSatPlus
import Derived.Test.YtkaepadkdohmpaaOrdWalkF
import Derived.Test.YtkaepadkdohmpaaGapWalk
import Derived.Test.YtkaepadkdohmpaaStepWalk
import Derived.Test.YtkaepadkdohmpaaTwnWalk
import Derived.Deep.RegionHeld3
namespace Go.Proofs.Ytkaepadkdohmpaa.WinWalk
open Go.RowKit Go.Proofs.Ytkaepadkdohmpaa.SpanPlain Go.Proofs.Ytkaepadkdohmpaa.StepPlain Go.Proofs.Ytkaepadkdohmpaa.GapPlain Go.Proofs.Ytkaepadkdohmpaa.JobPlain Go.Proofs.Ytkaepadkdohmpaa.OrdPlain Go.Proofs.Ytkaepadkdohmpaa.SubPlain Go.Proofs.Ytkaepadkdohmpaa.ApiPlain Go.Proofs.Ytkaepadkdohmpaa.TwnPlain Go.Proofs.Ytkaepadkdohmpaa.WinPlain Go.Proofs.Ytkaepadkdohmpaa.Mem Go.Proofs.Ytkaepadkdohmpaa.SpanMem Go.Proofs.Ytkaepadkdohmpaa.JobMem Go.Proofs.Ytkaepadkdohmpaa.OrdMem Go.Proofs.Ytkaepadkdohmpaa.ApiMem Go.Proofs.Ytkaepadkdohmpaa.TwnRef Go.Proofs.Ytkaepadkdohmpaa.SubRef
def kB (k : Int) : Bool := decide (1 ≤ k) && decide (k ≤ 32)
def BoolV (b : Bool) (w : World) (e : Ending) (w' : World) : Prop := e = .returned (.bool b) ∧ w = w'
theorem kB_iff (k : Int) : kB k = true ↔ 1 ≤ k ∧ k ≤ 32 := by unfold kB; simp
theorem look_i (k : Int) (w : World) : Calls Try.prog 16 #[.int .i64 k] w (BoolV (kB k) w) := by
  have hw : (kB k = true ∧ decide (1 ≤ k) = true ∧ decide (k ≤ 32) = true) ∨ (kB k = false ∧ decide (1 ≤ k) = false) ∨ (kB k = false ∧ decide (1 ≤ k) = true ∧ decide (k ≤ 32) = false) := by
    unfold kB
    by_cases h1 : 1 ≤ k <;> by_cases h2 : k ≤ 32 <;> simp [h1, h2]
  generalize kB k = B at *
  rcases hw with ⟨rfl, h1, h2⟩ | ⟨rfl, h1⟩ | ⟨rfl, h1, h2⟩
  all_goals
    go_enter Try.func16, Try.ntmps16
    go_wp2_with fail
    go_ret
    exact ⟨rfl, rfl⟩
/-! Items -/
structure ItemsTo (l : List Jb) (now r : Int) (k : Nat) (w : World) (u : Value) (wr : World) : Prop where
  own : OwnN 42 2 w.heap.size wr u k (itmL.vals (itemsW (l.take k) now r))
  below : Below w.heap.size w wr
def ItemsSays (l : List Itm) (w : World) (e : Ending) (w' : World) : Prop := ∃ u, e = .returned u ∧ ItmsAt l w' u ∧ Below w.heap.size w w'
theorem items_snoc {l : List Jb} {now r : Int} {k : Nat} (hk : k < l.length) : itemsW (l.take (k + 1)) now r = itemsW (l.take k) now r ++ [itemW now r l[k]] := by
  unfold itemsW
  rw [List.take_succ_eq_append_getElem hk, List.map_append]
  rfl
set_option maxRecDepth 100000 in
set_option maxHeartbeats 3200000 in
theorem items_i (l : List Jb) (now r : Int) (v : Value) (w : World) (hj : JobsIs l w v) (hl : l.length ≤ 100000) (hn : 0 ≤ now ∧ now ≤ 1125899906842624) (he : ∀ j ∈ l, 1 ≤ j.est ∧ j.est ≤ 1099511627776) :
    Calls Try.prog 19 #[v, .int .i64 now, .int .i64 r] w (ItemsSays (itemsW l now r) w) := by
  obtain ⟨A, c, rfl, hc, hA⟩ := hj.open_
  have HA := Lib.hid hA
  have HE := Lib.hid he
  have HN := Lib.hid hn
  have H0 : Hid (ItemsTo l now r 0 w (.slice none 0 0) w) := ⟨OwnN.nil (Nat.le_refl _), Below.refl _ _⟩
  clear hA he hj hn
  go_enter Try.func19, Try.ntmps19
  go_wp2_with fail
  go_loopw [7, 13] (fun u i wr => ∃ (k : Nat) (q : Value), q = u ∧ i = .int .i64 k ∧ k ≤ l.length ∧ Hid (ItemsTo l now r k w q wr)) (fun _ i _ => l.length - (intOf i).toNat)
  case atStart => exact ⟨0, _, rfl, rfl, Nat.zero_le _, H0.out⟩
  case round =>
    clear H0
    obtain ⟨k, q, hq, rfl, hk, HI⟩ := hrel
    subst hq
    by_cases hlt : k < l.length
    · obtain ⟨a, rfl, hat⟩ := HA.out k hlt
      obtain ⟨y, y0, y1, y2, y3, y4, y5, y6, y7, y8⟩ := hat.below HI.out.below
      have i1 : (k : Int) < (l.length : Int) := by omega
      have i0 : (0 : Int) ≤ (k : Int) := by omega
      obtain ⟨e1, e2⟩ := HE.out l[k] (List.getElem_mem _)
      obtain ⟨n1, n2⟩ := HN.out
      have HSN := Lib.hid (items_snoc (l := l) (now := now) (r := r) hlt)
      unfold itemW longW at HSN
      have hend : endW now l[k].est = now + l[k].est := by
        unfold endW
        rw [show max l[k].est 0 = l[k].est by omega, if_pos (.inr (by omega))]
      rw [hend] at HSN
      have CP := Lib.hid (fun W => SatPlus.plusp_fits now l[k].est W ⟨by omega, by omega⟩ ⟨by omega, by omega⟩ ⟨by omega, by omega⟩)
      have hmax : max l[k].est 0 = l[k].est := by omega
      clear hat hend
      generalize l[k] = j at *
      have HX := Lib.hid (JobBox.new wr j 39)
      have HO1 := Lib.hid (HI.out.own.alloc (.cells #[.int .i64 j.id, .string j.user, .int .i64 j.width, .int .i64 j.est, .int .i64 j.prio, .int .i64 j.sub, .int .i64 j.state, .int .i64 j.start, .int .i64 j.fin] 39))
      have HB1 := Lib.hid (HI.out.below.alloc HI.out.below.size (.cells #[.int .i64 j.id, .string j.user, .int .i64 j.width, .int .i64 j.est, .int .i64 j.prio, .int .i64 j.sub, .int .i64 j.state, .int .i64 j.start, .int .i64 j.fin] 39))
      obtain ⟨Au, cu, hu⟩ := HI.out.own.shape
      subst hu
      go_upto_region 5 with fail
      generalize hwz : wr.heap.size = wz at *
      clear hwz y y0 y1 y2 y3 y4 y5 y6 y7 y8 HI
      generalize wr.alloc (.cells #[.int .i64 j.id, .string j.user, .int .i64 j.width, .int .i64 j.est, .int .i64 j.prio, .int .i64 j.sub, .int .i64 j.state, .int .i64 j.start, .int .i64 j.fin] 39) = W1 at *
      obtain ⟨z, z0, z1, z2, z3, z4, z5, z6, z7, z8, _, _, _, _, _, _, _, _, _⟩ := HX.out
      go_upto_region 6 with (go_at_call 37; refine (CP.out _).mono ?_; rintro e w2 ⟨rfl, rfl⟩)
      generalize now + j.est = en at *
      generalize hD : decide (r < en) = D at *
      have HO2 := Lib.hid (HO1.out.alloc (.cells #[.int .i64 j.width, .bool D] 42))
      go_wp2_with (at_builtin; refine push_own itm_t rfl (.tmp 22) (.tmp 29) rfl w.heap.size _ _ _ rfl HO2.out _ 1 (itmC ⟨j.width, D⟩) rfl rfl ?h1a (itmC_cell _) ?h1b ?_)
      case h1a => exact Lay.new_one itmL W1 ⟨j.width, D⟩ rfl _
      case h1b => omega
      intro v6 w6 ho6 hb6 _
      have HO6 := Lib.hid ho6
      have HB6 := Lib.hid ((HB1.out.alloc HB1.out.size (.cells #[.int .i64 j.width, .bool D] 42)).trans hb6)
      clear ho6 hb6 z z0 z1 z2 z3 z4 z5 z6 z7 z8
      go_wp2_with fail
      exact ⟨⟨k + 1, _, rfl, by go_num, by omega, ⟨by rw [HSN.out, Lay.snoc]; exact HO6.out, HB6.out⟩⟩, by simp [intOf]; omega⟩
    · obtain rfl : k = l.length := by omega
      have HF : Hid (ItmsAt (itemsW l now r) wr q) := by
        have h := HI.out.own
        rw [List.take_length] at h
        exact ItmsAt.of (Lay.Is.own h (items_len _ _ _).symm)
      have HB := Lib.hid HI.out.below
      obtain ⟨Au, cu, hu⟩ := HI.out.own.shape
      subst hu
      clear HI
      go_wp2_with fail
      go_ret
      exact ⟨_, rfl, HF.out, HB.out⟩
end Go.Proofs.Ytkaepadkdohmpaa.WinWalk
namespace Go.Proofs.Ytkaepadkdohmpaa.WinWalk
open Go.RowKit Go.Proofs.Ytkaepadkdohmpaa.SpanPlain Go.Proofs.Ytkaepadkdohmpaa.StepPlain Go.Proofs.Ytkaepadkdohmpaa.GapPlain Go.Proofs.Ytkaepadkdohmpaa.JobPlain Go.Proofs.Ytkaepadkdohmpaa.OrdPlain Go.Proofs.Ytkaepadkdohmpaa.SubPlain Go.Proofs.Ytkaepadkdohmpaa.ApiPlain Go.Proofs.Ytkaepadkdohmpaa.TwnPlain Go.Proofs.Ytkaepadkdohmpaa.WinPlain Go.Proofs.Ytkaepadkdohmpaa.Mem Go.Proofs.Ytkaepadkdohmpaa.SpanMem Go.Proofs.Ytkaepadkdohmpaa.JobMem Go.Proofs.Ytkaepadkdohmpaa.OrdMem Go.Proofs.Ytkaepadkdohmpaa.ApiMem Go.Proofs.Ytkaepadkdohmpaa.TwnRef Go.Proofs.Ytkaepadkdohmpaa.SubRef Go.Proofs.Ytkaepadkdohmpaa.StepRef
open Go.Proofs.Ytkaepadkdohmpaa.StepWalk (atB atN)
open Go.Proofs.Ytkaepadkdohmpaa.TwnWalk (badT bestLT badET bestNT TBestSays)
open Go.Proofs.Ytkaepadkdohmpaa.OrdWalk (Held Held.new Held.below Tells FirstIs first_own own_jobs firstL)
set_option maxHeartbeats 1600000 in
theorem of_fn (b c : Nat) (s : List Sp) (now : Int) (A : Option Addr) (cap : Nat) (j : Jb) (W : World) (hb : b < W.heap.size) (hc : c < W.heap.size) (h1 : W.cell? ⟨b, 0, none⟩ = some (.slice A s.length cap)) (h2 : W.cell? ⟨c, 0, none⟩ = some (.int .i64 now))
    (hs : SpansIs s W (.slice A s.length cap)) (hl : s.length ≤ 1000) : Calls Try.prog 32 #[jobV j, .pointer (some ⟨b, 0, none⟩), .pointer (some ⟨c, 0, none⟩)] W (BoolB (meantW s now j) W) := by
  have HX := Lib.hid (JobBox.new W j 39)
  have HB := Lib.hid (below_box W (.cells #[.int .i64 j.id, .string j.user, .int .i64 j.width, .int .i64 j.est, .int .i64 j.prio, .int .i64 j.sub, .int .i64 j.state, .int .i64 j.start, .int .i64 j.fin] 39))
  have CO := Lib.hid (GapWalk.okS s now j.width j.est _ _ (hs.below HB.out) hl)
  have h1b := (HB.out.cell (p := ⟨b, 0, none⟩) hb).trans h1
  have h2b := (HB.out.cell (p := ⟨c, 0, none⟩) hc).trans h2
  clear h1 h2 hs
  unfold jobV jobA meantW
  generalize okG s now j.width j.est = B at *
  go_enter Try.func32, Try.ntmps32
  go_upto_region 1 with fail
  generalize W.alloc (.cells #[.int .i64 j.id, .string j.user, .int .i64 j.width, .int .i64 j.est, .int .i64 j.prio, .int .i64 j.sub, .int .i64 j.state, .int .i64 j.start, .int .i64 j.fin] 39) = W0 at *
  obtain ⟨y, y0, y1, y2, y3, y4, y5, y6, y7, y8, _, _, _, _, _, _, _, _, _⟩ := HX.out
  go_wp2_with (go_at_call 28; refine CO.out.mono ?_; rintro e w1 ⟨rfl, hb1⟩)
  go_ret
  exact ⟨rfl, below_then HB.out hb1⟩
def JobsW (l : List Jb) (w : World) (e : Ending) (w' : World) : Prop := ∃ v, e = .returned v ∧ JobsIs l w' v ∧ Below w.heap.size w w'
set_option maxRecDepth 100000 in
set_option maxHeartbeats 3200000 in
theorem of_i (s : List Sp) (now : Int) (jobs : List Jb) (k : Int) (vs vj : Value) (w : World) (hs : SpansIs s w vs) (hsl : s.length ≤ 1000) (hj : JobsIs jobs w vj) (hl : jobs.length ≤ 100000) (hk : kB k = true) :
    Calls Try.prog 17 #[vs, .int .i64 now, vj, .int .i64 k] w (JobsW (winL s now k jobs) w) := by
  have eg : ∀ args w, (callFunc 32 args).run Try.prog w = .ok (.enter 32 args) w := enters_of Try.func32 (by kernel_rfl) rfl
  have hmf : ∀ (fn : Fn) (first cap : Array Value) (w : World), (Instr.makeFunc fn first cap).run Try.prog w = .ok (.func fn first cap) w := fun _ _ _ _ => rfl
  obtain ⟨A, cap, rfl, _⟩ := hs.open_
  have hba := below_box w (.cells #[.slice A s.length cap] 22)
  have hx1 := Held.new w (.slice A s.length cap) 22
  have hsz : (w.alloc (.cells #[.slice A s.length cap] 22)).heap.size = w.heap.size + 1 := by simp
  have hbb := below_box (w.alloc (.cells #[.slice A s.length cap] 22)) (.cells #[.int .i64 now] 3)
  have hx2 := Held.new (w.alloc (.cells #[.slice A s.length cap] 22)) (.int .i64 now) 3
  rw [hsz] at hx2
  have hx1b := hx1.below hbb
  have hbc := below_then hba hbb
  have HS2 := Lib.hid (hs.below hbc)
  have HJ2 := Lib.hid (hj.below hbc)
  have HBC := Lib.hid hbc
  have HX1 := Lib.hid hx1b
  have HX2 := Lib.hid hx2
  have CK := Lib.hid (fun W => look_i k W)
  rw [hk] at CK
  have e0 : winL s now k jobs = firstL jobs k (meantW s now) := rfl
  rw [e0]
  clear hs hj hba hx1 hsz hbb hx2 hx1b hbc hk e0
  have CF : Hid (∀ W2 : World, Below w.heap.size w W2 → Held W2 w.heap.size (.slice A s.length cap) → Held W2 (w.heap.size + 1) (.int .i64 now) → SpansIs s W2 (.slice A s.length cap) → JobsIs jobs W2 vj →
      Calls Try.prog 31 #[vj, .int .i64 k, .func (.func 32) #[] #[.pointer (some ⟨w.heap.size, 0, none⟩), .pointer (some ⟨w.heap.size + 1, 0, none⟩)]] W2 (FirstIs (firstL jobs k (meantW s now)) W2)) := fun W2 _ h1 h2 h3 h4 =>
    first_own 32 #[.pointer (some ⟨w.heap.size, 0, none⟩), .pointer (some ⟨w.heap.size + 1, 0, none⟩)] (meantW s now) jobs k vj W2 eg (fun W j hW => of_fn _ _ s now A cap j W (h1.below hW).lt (h2.below hW).lt (h1.below hW).c (h2.below hW).c (h3.below hW) hsl) h4 hl
  generalize firstL jobs k (meantW s now) = L at *
  clear hsl hl eg
  obtain ⟨Aj, cj, rfl, _⟩ := HJ2.out.open_
  go_enter Try.func17, Try.ntmps17
  go_upto_region 1 with fail
  generalize (w.alloc (.cells #[.slice A s.length cap] 22)).alloc (.cells #[.int .i64 now] 3) = W2 at *
  have C := Lib.hid (CF.out W2 HBC.out HX1.out HX2.out HS2.out HJ2.out)
  clear CF HS2 HJ2
  go_wp2_with (first | (go_at_call 16; refine (CK.out _).mono ?_; rintro e w1 ⟨rfl, rfl⟩) | (go_at_call 31; refine C.out.mono ?_; rintro e w3 ⟨v3, rfl, ho, hb⟩))
  go_ret
  exact ⟨v3, rfl, own_jobs ho, below_then HBC.out hb⟩
/-! Choose -/
theorem at_ways (s : List Sp) (now : Int) (x : Lok) : (atB s now = false ∧ badW s now x = true) ∨ (atB s now = true ∧ decide (1125899906842624 < now) = true ∧ badW s now x = true) ∨ (atB s now = true ∧ decide (1125899906842624 < now) = false ∧ kB x.k = false ∧ badW s now x = true) ∨
    (atB s now = true ∧ decide (1125899906842624 < now) = false ∧ kB x.k = true ∧ Chk s ∧ head s ≤ now ∧ badW s now x = (decide (x.long < 0) || decide (256 < x.long))) := by
  unfold atB badW kB
  cases hc : chkB s with
  | false => exact .inl ⟨rfl, rfl⟩
  | true =>
    by_cases h1 : now < head s
    · refine .inl ⟨?_, ?_⟩
      · rw [decide_eq_false (p := head s ≤ now) (by omega)]; rfl
      · rw [decide_eq_true h1]; rfl
    · by_cases h2 : (1125899906842624 : Int) < now
      · by_cases h3 : now < 4503599627370496
        · refine .inr (.inl ⟨?_, decide_eq_true h2, ?_⟩)
          · rw [decide_eq_true (p := head s ≤ now) (by omega), decide_eq_true h3]; rfl
          · rw [decide_eq_true h2]; simp
        · refine .inl ⟨?_, ?_⟩
          · rw [decide_eq_false h3]; simp
          · rw [decide_eq_true h2]; simp
      · have e1 : (true && decide (head s ≤ now) && decide (now < 4503599627370496)) = true := by
          rw [decide_eq_true (p := head s ≤ now) (by omega), decide_eq_true (p := now < 4503599627370496) (by omega)]; rfl
        by_cases h3 : 1 ≤ x.k ∧ x.k ≤ 32
        · refine .inr (.inr (.inr ⟨e1, decide_eq_false h2, ?_, (chk_iff s).1 hc, by omega, ?_⟩))
          · rw [decide_eq_true h3.1, decide_eq_true h3.2]; rfl
          · rw [decide_eq_false h1, decide_eq_false h2, decide_eq_false (p := x.k < 1) (by omega), decide_eq_false (p := 32 < x.k) (by omega)]; rfl
        · refine .inr (.inr (.inl ⟨e1, decide_eq_false h2, ?_, ?_⟩))
          · simp only [Bool.and_eq_false_iff, decide_eq_false_iff_not]; omega
          · have h4 : x.k < 1 ∨ 32 < x.k := by omega
            rcases h4 with h4 | h4
            · rw [decide_eq_true h4]; simp
            · rw [decide_eq_true h4]; simp
theorem win_may {s : List Sp} {now k r : Int} {jobs : List Jb} (hk : k ≤ 32) : mayT (itemsW (winL s now k jobs) now r) = true := by
  unfold mayT
  rw [Bool.and_eq_true, decide_eq_true_eq, items_len]
  refine ⟨List.all_eq_true.2 fun x hx => ?_, by have := (win_len s now k jobs).1; omega⟩
  unfold wsOf itemsW at hx
  rw [List.map_map] at hx
  obtain ⟨j, hj, rfl⟩ := List.mem_map.1 hx
  have h := (mayG_iff.1 (okG_iff.1 (win_mem hj).2).1).2.1
  show wideB j.width = true
  unfold wideB
  rw [Bool.and_eq_true, decide_eq_true_eq, decide_eq_true_eq]
  exact h
theorem win_est {s : List Sp} {now k : Int} {jobs : List Jb} : ∀ j ∈ winL s now k jobs, 1 ≤ j.est ∧ j.est ≤ 1099511627776 := fun j hj => (mayG_iff.1 (okG_iff.1 (win_mem hj).2).1).2.2
theorem choose_is {s : List Sp} {now : Int} {jobs : List Jb} {x : Lok} (hk : kB x.k = true) (hc : Chk s) (hn : head s ≤ now) (hb : badW s now x = (decide (x.long < 0) || decide (256 < x.long))) :
    (bestLT (itemsW (winL s now x.k jobs) now x.reserved) (val s now) x.long).map (idAt (winL s now x.k jobs)) = idsW (chosenW s now jobs x) ∧ badET (itemsW (winL s now x.k jobs) now x.reserved) (val s now) x.long = errW s now x := by
  have hv := hc.val_free hn
  have e : badT (itemsW (winL s now x.k jobs) now x.reserved) (val s now) x.long = badW s now x := by
    unfold badT
    rw [hb, win_may ((kB_iff _).1 hk).2, decide_eq_false (p := val s now < 0) (by omega), decide_eq_false (p := 256 < val s now) (by omega)]
    rfl
  unfold bestLT badET errW chosenW
  rw [e]
  cases badW s now x with
  | true => exact ⟨rfl, rfl⟩
  | false =>
    refine ⟨?_, rfl⟩
    simp only [Bool.false_eq_true, if_false]
    rw [items_len]
    exact pick_places _ _
theorem best_in {l : List Itm} {room long p : Int} (h : p ∈ bestLT l room long) : 0 ≤ p ∧ p < l.length := by
  unfold bestLT at h
  split at h
  · simp at h
  · have := places_in h
    exact ⟨this.1, this.2.2⟩
theorem best_len (l : List Itm) (room long : Int) : (bestLT l room long).length ≤ l.length := by
  unfold bestLT
  split
  · simp
  · exact placesTo_len _ _ _
theorem keep_look {w w' : World} {n : Nat} {u v : Value} (hb : Below w.heap.size w w') (hl : n < w.heap.size) (h1 : w.cell? ⟨n, 1, none⟩ = some u) (h2 : w.cell? ⟨n, 2, none⟩ = some v) : w'.cell? ⟨n, 1, none⟩ = some u ∧ w'.cell? ⟨n, 2, none⟩ = some v ∧ n < w'.heap.size :=
  ⟨(hb.cell (p := ⟨n, 1, none⟩) hl).trans h1, (hb.cell (p := ⟨n, 2, none⟩) hl).trans h2, Nat.lt_of_lt_of_le hl hb.size⟩
structure IdsTo (L : List Jb) (P : List Int) (k : Nat) (w : World) (u : Value) (wr : World) : Prop where
  own : OwnN 3 1 w.heap.size wr u k (ivals ((P.take k).map (idAt L)))
  below : Below w.heap.size w wr
theorem ids_snoc {L : List Jb} {P : List Int} {k m : Nat} (hk : k < P.length) (hp : P[k] = (m : Int)) (hm : m < L.length) : ivals ((P.take (k + 1)).map (idAt L)) = ivals ((P.take k).map (idAt L)) ++ [.int .i64 L[m].id] := by
  rw [List.take_succ_eq_append_getElem hk, List.map_append, List.map_cons, List.map_nil, hp]
  unfold idAt
  rw [Int.toNat_natCast, show L.getD m noJb = L[m] by simp [List.getD, hm]]
  simp [ivals]
set_option maxRecDepth 100000 in
set_option maxHeartbeats 6400000 in
theorem chooseS (s : List Sp) (now : Int) (jobs : List Jb) (x : Lok) (vs vj : Value) (w : World) (hs : SpansIs s w vs) (hsl : s.length ≤ 1000) (hj : JobsIs jobs w vj) (hl : jobs.length ≤ 100) (hn : -9223372036854775808 ≤ now ∧ now ≤ 9223372036854775807) :
    Calls Try.prog 6 #[vs, .int .i64 now, vj, lokV x] w (ChooseSays s now jobs x w) := by
  have HX := Lib.hid (LokBox.new w x 25)
  have HB0 := Lib.hid (below_box w (.cells #[.int .i64 x.k, .int .i64 x.reserved, .int .i64 x.long] 25))
  have HS0 := Lib.hid (hs.below HB0.out)
  have HJ0 := Lib.hid (hj.below HB0.out)
  have CA := Lib.hid (StepWalk.atS s now vs _ HS0.out hsl)
  have CK := Lib.hid (fun W => look_i x.k W)
  have CO := Lib.hid (fun W h1 h2 h3 => of_i s now jobs x.k vs vj W h1 hsl h2 (by omega) h3)
  obtain ⟨As, cs, rfl, _⟩ := hs.open_
  obtain ⟨Aj, cj, rfl, _, _⟩ := hj.open_
  clear hs hj hl hsl hn
  unfold lokV
  have hno : errW s now x = (if badW s now x = true then 1 else 0) := rfl
  have hno2 : badW s now x = true → idsW (chosenW s now jobs x) = [] := fun h => by unfold chosenW; rw [if_pos h]; rfl
  rcases at_ways s now x with ⟨h1, h2⟩ | ⟨h1, h3, h2⟩ | ⟨h1, h3, h4, h2⟩ | ⟨h1, h3, h4, h5, h6, h2⟩
  · rw [h2, if_pos rfl] at hno
    have HNO := Lib.hid (And.intro hno (hno2 h2))
    rw [h1] at CA
    clear h1 h2 hno hno2 CO CK
    go_enter Try.func6, Try.ntmps6
    go_upto_region 1 with fail
    generalize w.alloc (.cells #[.int .i64 x.k, .int .i64 x.reserved, .int .i64 x.long] 25) = W0 at *
    go_wp2_with (go_at_call 15; refine CA.out.mono ?_; rintro e w1 ⟨rfl, hb1⟩)
    go_ret2
    exact ⟨.slice none 0 0, by rw [HNO.out.1]; rfl, by rw [HNO.out.2]; exact IntsAt.nil _, below_then HB0.out hb1⟩
  · rw [h2, if_pos rfl] at hno
    have HNO := Lib.hid (And.intro hno (hno2 h2))
    rw [h1] at CA
    clear h1 h2 hno hno2 CO CK
    go_enter Try.func6, Try.ntmps6
    go_upto_region 1 with fail
    generalize w.alloc (.cells #[.int .i64 x.k, .int .i64 x.reserved, .int .i64 x.long] 25) = W0 at *
    go_wp2_with (go_at_call 15; refine CA.out.mono ?_; rintro e w1 ⟨rfl, hb1⟩)
    go_ret2
    exact ⟨.slice none 0 0, by rw [HNO.out.1]; rfl, by rw [HNO.out.2]; exact IntsAt.nil _, below_then HB0.out hb1⟩
  · rw [h2, if_pos rfl] at hno
    have HNO := Lib.hid (And.intro hno (hno2 h2))
    rw [h1] at CA
    rw [h4] at CK
    clear h1 h2 h4 hno hno2 CO
    go_enter Try.func6, Try.ntmps6
    go_upto_region 1 with fail
    generalize w.alloc (.cells #[.int .i64 x.k, .int .i64 x.reserved, .int .i64 x.long] 25) = W0 at *
    go_upto_region 2 with (go_at_call 15; refine CA.out.mono ?_; rintro e w1 ⟨rfl, hb1⟩)
    have HX1 := Lib.hid (HX.out.below hb1)
    have HB1 := Lib.hid (below_then HB0.out hb1)
    clear hb1
    obtain ⟨x0, x1, x2, x3, _, _, _⟩ := HX1.out
    go_wp2_with (go_at_call 16; refine (CK.out _).mono ?_; rintro e w2 ⟨rfl, rfl⟩)
    go_ret2
    exact ⟨.slice none 0 0, by rw [HNO.out.1]; rfl, by rw [HNO.out.2]; exact IntsAt.nil _, HB1.out⟩
  · obtain ⟨hd1, hd2⟩ := choose_is (jobs := jobs) h4 h5 h6 h2
    have h0 : 0 ≤ now := Int.le_trans h5.lo h6
    have hat : atN s now = val s now := by unfold atN; rw [h1]; rfl
    rw [h1, hat] at CA
    have hmt := of_decide_eq_false h3
    have hwl := (win_len s now x.k jobs).1
    have hk2 := ((kB_iff _).1 h4).2
    have hest := win_est (s := s) (now := now) (k := x.k) (jobs := jobs)
    have hin : ∀ p ∈ bestLT (itemsW (winL s now x.k jobs) now x.reserved) (val s now) x.long, 0 ≤ p ∧ p < ((winL s now x.k jobs).length : Int) := fun p hp => by
      have := best_in hp
      rwa [items_len] at this
    have CO2 := Lib.hid (fun W a b => CO.out W a b h4)
    rw [h4] at CK
    unfold ChooseSays
    rw [← hd1, ← hd2]
    have hil := items_len (winL s now x.k jobs) now x.reserved
    clear hd1 hd2 h1 h2 h4 h5 h6 hno hno2 hat CO
    generalize winL s now x.k jobs = L at *
    have CI := Lib.hid (fun W u h => items_i L now x.reserved u W h (by omega) ⟨h0, by omega⟩ hest)
    generalize itemsW L now x.reserved = I at *
    have hpl := best_len I (val s now) x.long
    have CB := Lib.hid (fun W u h => TwnWalk.bestTS0 I (val s now) x.long u W h (by omega))
    generalize val s now = fr at *
    have HIN := Lib.hid hin
    clear hest hin
    unfold TBestSays at CB
    generalize bestLT I fr x.long = P at *
    generalize badET I fr x.long = E at *
    generalize bestNT I fr x.long = M at *
    go_enter Try.func6, Try.ntmps6
    go_upto_region 1 with fail
    have hn0 : w.heap.size < (w.alloc (.cells #[.int .i64 x.k, .int .i64 x.reserved, .int .i64 x.long] 25)).heap.size := HX.out.lt
    generalize w.alloc (.cells #[.int .i64 x.k, .int .i64 x.reserved, .int .i64 x.long] 25) = W0 at *
    go_upto_region 2 with (go_at_call 15; refine CA.out.mono ?_; rintro e w1 ⟨rfl, hb1⟩)
    have HX1 := Lib.hid (HX.out.below hb1)
    have HB1 := Lib.hid (below_then HB0.out hb1)
    have CO3 := Lib.hid (CO2.out w1 (HS0.out.below hb1) (HJ0.out.below hb1))
    clear hb1 CA CO2 HS0 HJ0 HX HB0
    obtain ⟨x0, x1, x2, x3, _, _, _⟩ := HX1.out
    go_upto_region 5 with (first | (go_at_call 16; refine (CK.out _).mono ?_; rintro e w2 ⟨rfl, rfl⟩) | (go_at_call 17; refine CO3.out.mono ?_; rintro e w2 ⟨v2, rfl, hj2, hb2⟩))
    have HX2 := Lib.hid (HX1.out.below hb2)
    have HB2 := Lib.hid (below_then HB1.out hb2)
    have HJ2 := Lib.hid hj2
    have CI2 := Lib.hid (CI.out w2.drew v2 (hj2.below (Below.refl _ _).drew))
    obtain ⟨A2, c2, rfl, _, _⟩ := hj2.open_
    clear hb2 hj2 x0 x1 x2 x3 CI CK CO3 HX1 HB1
    obtain ⟨x0, x1, x2, x3, _, _, _⟩ := HX2.out
    go_region_held3 (fun w' => w'.cell? ⟨w.heap.size, 1, none⟩ = some (.int .i64 x.reserved) ∧ w'.cell? ⟨w.heap.size, 2, none⟩ = some (.int .i64 x.long) ∧ w.heap.size < w'.heap.size)
      (first | go_keep | (go_split_ands; exact keep_look (by assumption) (by assumption) (by assumption) (by assumption)))
      (first
        | (go_at_call 19; refine CI2.out.mono ?_; rintro e w3 ⟨u3, rfl, hi3, hb3⟩)
        | (go_at_call 18; refine (CB.out _ _ hi3).mono ?_; rintro e w4 ⟨u4, rfl, hi4, _, hb4⟩))
    have HB4 := Lib.hid (below_then HB2.out (below_then (below_of_drew hb3) hb4))
    have HJ4 := Lib.hid (HJ2.out.below (below_then (below_of_drew hb3) hb4))
    clear hb3 hb4 hi3 CI2 CB HJ2 HB2 HX2 x0 x1 x2 x3
    obtain ⟨A4, c4, rfl, hc4, hA4⟩ := hi4
    obtain ⟨A2', c2', hA2', _, hat2⟩ := HJ4.out.open_
    injection hA2' with e1 _ e2
    subst e1 e2
    have HP := Lib.hid hA4
    have HJ := Lib.hid hat2
    have H0 : Hid (IdsTo L P 0 w4 (.slice none 0 0) w4) := ⟨OwnN.nil (Nat.le_refl _), Below.refl _ _⟩
    clear hA4 hat2 HJ4
    go_wp2_with fail
    go_loopw [16, 58] (fun u i wr => ∃ (k : Nat) (q : Value), q = u ∧ i = .int .i64 k ∧ k ≤ P.length ∧ Hid (IdsTo L P k w4 q wr)) (fun _ i _ => P.length - (intOf i).toNat)
    case atStart => exact ⟨0, _, rfl, rfl, Nat.zero_le _, H0.out⟩
    case round =>
      clear H0
      obtain ⟨k, q, hq, rfl, hk, HI⟩ := hrel
      subst hq
      by_cases hlt : k < P.length
      · obtain ⟨p0, p1⟩ := HIN.out P[k] (List.getElem_mem _)
        obtain ⟨ad, rfl, hadl, hcell⟩ := HP.out.at hlt
        have hce : wr.cell? (ad.add k) = some (.int .i64 P[k]) := (HI.out.below.cell (by rw [add_block]; exact hadl)).trans (by rw [hcell]; unfold icell; simp [hlt])
        obtain ⟨m, hm⟩ : ∃ m : Nat, P[k] = (m : Int) := ⟨P[k].toNat, by omega⟩
        rw [hm] at hce p0 p1
        have hml : m < L.length := by omega
        obtain ⟨aj, rfl, hat⟩ := HJ.out m hml
        obtain ⟨y, y0, _, _, _, _, _, _, _, _⟩ := hat.below HI.out.below
        have HSN := Lib.hid (ids_snoc (L := L) hlt hm hml)
        have i0 : (0 : Int) ≤ (k : Int) := by omega
        have i1 : (k : Int) < (P.length : Int) := by omega
        obtain ⟨Au, cu, hu⟩ := HI.out.own.shape
        subst hu
        clear hat hcell hadl hm
        generalize L[m] = j at *
        have HO1 := Lib.hid (HI.out.own.alloc (.cells #[.int .i64 j.id] 3))
        have HB1 := Lib.hid (HI.out.below.alloc HI.out.below.size (.cells #[.int .i64 j.id] 3))
        go_wp2_with (at_builtin; refine push_own SpanMem.ints_t rfl (.tmp 62) (.tmp 68) rfl w4.heap.size _ _ _ rfl HO1.out _ 1 [.int .i64 j.id] rfl rfl ?h1a Mem.one_cell ?h1b ?_)
        case h1a => exact raw_at rfl #[.int .i64 j.id] _
        case h1b => omega
        intro v6 w6 ho6 hb6 _
        have HO6 := Lib.hid ho6
        have HB6 := Lib.hid (HB1.out.trans hb6)
        clear ho6 hb6 y y0 hce HI
        go_wp2_with fail
        exact ⟨⟨k + 1, _, rfl, by go_num, by omega, ⟨by rw [HSN.out]; exact HO6.out.cast rfl (by rw [List.map_take]), HB6.out⟩⟩, by simp [intOf]; omega⟩
      · obtain rfl : k = P.length := by omega
        have HF : Hid (IntsAt (P.map (idAt L)) wr q) := by
          have h := HI.out.own
          rw [List.take_length] at h
          exact IntsAt.own h (by simp)
        have HB := Lib.hid (below_then HB4.out HI.out.below)
        obtain ⟨Au, cu, hu⟩ := HI.out.own.shape
        subst hu
        clear HI
        go_wp2_with fail
        go_ret2
        exact ⟨_, rfl, HF.out, HB.out⟩
end Go.Proofs.Ytkaepadkdohmpaa.WinWalk
