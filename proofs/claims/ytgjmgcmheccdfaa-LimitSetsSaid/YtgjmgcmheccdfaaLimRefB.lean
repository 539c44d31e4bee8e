/-
  The walks of the document's answers for layer 10: Drop, Set, Left.
-/
import Derived.Test.YtgjmgcmheccdfaaLimRefA
namespace Go.Proofs.Ytgjmgcmheccdfaa.LimRef
open Go.RowKit Go.Proofs.Ytgjmgcmheccdfaa.JobPlain Go.Proofs.Ytgjmgcmheccdfaa.ApiPlain Go.Proofs.Ytgjmgcmheccdfaa.LimPlain Go.Proofs.Ytgjmgcmheccdfaa.Mem Go.Proofs.Ytgjmgcmheccdfaa.ApiMem
/-- What Set and Drop answer. -/
def PairSays (r : List Lim) (x : Int) (w : World) (e : Ending) (w' : World) : Prop := ∃ v, e = .returned (.tuple #[v, .int .i64 x]) ∧ limL.Is r w' v ∧ Below w.heap.size w w'
structure RowAt (W wr : World) (v : Value) (m : List Lim) : Prop where
  own : OwnR 24 3 W.heap.size wr v m.length (limL.vals m)
  below : Below W.heap.size W wr
theorem RowAt.is {W wr : World} {v : Value} {m : List Lim} (h : RowAt W wr v m) : limL.Is m wr v := Lay.Is.own (L := limL) h.own.toN rfl
theorem pair_nil {w w' : World} {x y : Int} (h : x = y) (hb : Below w.heap.size w w') : PairSays [] y w (.returned (.tuple #[.slice none 0 0, .int .i64 x])) w' := ⟨_, by rw [h], Lay.Is.nil _ _, hb⟩
theorem drop_no {l : List Lim} {s : ByteArray} (h : dropE l s ≠ 0) : dropR l s = [] := by unfold dropR; rw [if_neg h]
theorem drop_yes {l : List Lim} {s : ByteArray} (h : dropE l s = 0) : dropR l s = dropOut l s := by unfold dropR; rw [if_pos h]
theorem dropE_check {l : List Lim} {s : ByteArray} (h : checkL l ≠ 0) : dropE l s = checkL l := by unfold dropE; rw [if_pos h]
theorem dropE_none {l : List Lim} {s : ByteArray} (h : checkL l = 0) (h2 : (dropOut l s).length = l.length) : dropE l s = 3 := by unfold dropE; rw [if_neg (by omega), if_pos h2]
theorem dropE_ok {l : List Lim} {s : ByteArray} (h : checkL l = 0) (h2 : ¬ (dropOut l s).length = l.length) : dropE l s = 0 := by unfold dropE; rw [if_neg (by omega), if_neg h2]
set_option maxRecDepth 100000 in
set_option maxHeartbeats 6400000 in
theorem drop10 (l : List Lim) (s : ByteArray) (v : Value) (w : World) (hv : limL.Is l w v) (hs : LimsFit l) (hl : l.length ≤ 1000) : Calls Try.prog 10 #[v, .string s] w (PairSays (dropR l s) (dropE l s) w) := by
  have CC := Lib.hid (fun W (hb : Below w.heap.size w W) => check10 l v W (hv.below hb) hs hl)
  obtain ⟨A, c, rfl, hn, hA⟩ := lims_open hv
  have HA := Lib.hid hA
  clear hA hv hs
  by_cases h0 : checkL l = 0
  · have HNONE := Lib.hid (fun h => dropE_none (s := s) h0 h)
    have HOK := Lib.hid (fun h => dropE_ok (s := s) h0 h)
    have HYES := Lib.hid (fun h => drop_yes (l := l) (s := s) h)
    have HNO := Lib.hid (fun h => drop_no (l := l) (s := s) h)
    have e0 : ((0 : Int) != 0) = false := by decide
    rw [h0] at CC
    clear h0
    go_enter Try.func10, Try.ntmps10
    go_wp2_with fail
    refine (CC.out _ (Below.refl _ _)).mono ?_
    rintro e w1 ⟨rfl, hb1⟩
    have HB1 := Lib.hid hb1
    have HO0 := Lib.hid (OwnR.new w1 24 3)
    clear hb1 CC
    go_wp2_with fail
    go_loopw [6, 7] (fun o i wr => ∃ (k : Nat) (v : Value), v = o ∧ i = .int .i64 k ∧ k ≤ l.length ∧ Hid (RowAt w1 wr v (dropOut (l.take k) s))) (fun _ i _ => l.length - (intOf i).toNat)
    case atStart => exact ⟨0, _, rfl, rfl, Nat.zero_le _, HO0.out, below_new _ _⟩
    case round =>
      obtain ⟨k, o, hov, rfl, hk, HR⟩ := hrel
      subst hov
      obtain ⟨g, cg, rfl, _⟩ := HR.out.own.form
      by_cases hlt : k < l.length
      · obtain ⟨ad, rfl, hat⟩ := lims_nth HA.out (HB1.out.trans (HR.out.below.mono HB1.out.size)) hlt
        have HAT := Lib.hid hat
        have HN := Lib.hid (drop_take l s hlt)
        have hml := drop_len (l.take k) s
        rw [List.length_take] at hml
        have i0 : (0 : Int) ≤ (k : Int) := Int.natCast_nonneg _
        have i1 : (k : Int) < (l.length : Int) := by omega
        generalize hM2 : dropOut (l.take (k + 1)) s = M2 at *
        have HM2 := Lib.hid hM2
        clear hM2
        generalize dropOut (l.take k) s = M at *
        generalize nthL l k = x at *
        obtain ⟨p, p0, p1, p2⟩ := hat
        cases hb : (x.user.toList == s.toList) with
        | true =>
          have HX : Hid (M2 = M) := by have h := HN.out; rw [if_pos (show sameU x.user s = true from hb), List.append_nil] at h; exact h
          clear HN
          go_wp2_with fail
          exact ⟨⟨k + 1, _, rfl, by go_num, by omega, by rw [HM2.out, HX.out]; exact HR.out⟩, by simp [intOf] <;> omega⟩
        | false =>
          have HX : Hid (M2 = M ++ [x]) := by have h := HN.out; rw [if_neg (by unfold sameU; rw [hb]; decide)] at h; exact h
          clear HN
          have HO := Lib.hid (HR.out.own.alloc (.cells #[.string x.user, .int .i64 x.jobs, .int .i64 x.procs] 24))
          go_wp2_with (at_builtin; refine push_raw lim_t rfl (.tmp 27) (.tmp 32) rfl w1.heap.size _ _ _ rfl HO.out ⟨wr.heap.size, 0, none⟩ 1 1 (limC x) rfl rfl ?ha1 (limC_cell x) ?ha2 ?_)
          case ha1 => exact Raw.alloc wr #[.string x.user, .int .i64 x.jobs, .int .i64 x.procs] 24
          case ha2 => omega
          intro v7 w7 ho7 hb7
          have HW7 : Hid (RowAt w1 w7 v7 (M ++ [x])) := ⟨ho7.cast (by simp only [List.length_append, List.length_singleton]) (limL.snoc _ _).symm, (HR.out.below.alloc HR.out.below.size _).trans hb7⟩
          clear ho7 hb7
          go_wp2_with fail
          exact ⟨⟨k + 1, _, rfl, by go_num, by omega, by rw [HM2.out, HX.out]; exact HW7.out⟩, by simp [intOf] <;> omega⟩
      · have he : l.take k = l := List.take_of_length_le (by omega)
        rw [he] at HR
        rw [he]
        have HB := Lib.hid (HB1.out.trans (HR.out.below.mono HB1.out.size))
        have HIS := Lib.hid HR.out.is
        clear he
        by_cases hq : (dropOut l s).length = l.length
        · have HE := Lib.hid (HNONE.out hq)
          have HZ := Lib.hid (HNO.out (by rw [HNONE.out hq]; decide))
          have d3 : (((dropOut l s).length : Int) == (l.length : Int)) = true := by rw [hq]; simp
          clear HNONE HOK HYES HNO hq
          generalize dropOut l s = M at *
          go_wp2_with fail
          go_ret2
          rw [HE.out, HZ.out]
          exact pair_nil rfl HB.out
        · have HE := Lib.hid (HOK.out hq)
          have HZ := Lib.hid (HYES.out (HOK.out hq))
          have d3 : (((dropOut l s).length : Int) == (l.length : Int)) = false := by simp; omega
          clear HNONE HOK HYES HNO
          generalize dropOut l s = M at *
          go_wp2_with fail
          go_ret2
          rw [HE.out, HZ.out]
          exact ⟨_, rfl, HIS.out, HB.out⟩
  · have HE := Lib.hid (dropE_check (s := s) h0)
    have HZ := Lib.hid (drop_no (l := l) (s := s) (by rw [dropE_check h0]; exact h0))
    have e0 : (checkL l != 0) = true := by simpa using h0
    generalize checkL l = C at *
    go_enter Try.func10, Try.ntmps10
    go_wp2_with fail
    refine (CC.out _ (Below.refl _ _)).mono ?_
    rintro e w1 ⟨rfl, hb1⟩
    have HB1 := Lib.hid hb1
    clear hb1
    go_wp2_with fail
    refine (CC.out _ HB1.out).mono ?_
    rintro e w2 ⟨rfl, hb2⟩
    have HB2 := Lib.hid (below_then HB1.out hb2)
    clear hb2
    go_wp2_with fail
    go_ret2
    rw [HE.out, HZ.out]
    exact pair_nil rfl HB2.out
end Go.Proofs.Ytgjmgcmheccdfaa.LimRef
