/-
  The walks of the statements of layer 10: LimitSets.
-/
import Derived.Test.YtgjmgcmheccdfaaLimLawA
namespace Go.Proofs.Ytgjmgcmheccdfaa.LimWalk
open Go.RowKit Go.Proofs.Ytgjmgcmheccdfaa.JobPlain Go.Proofs.Ytgjmgcmheccdfaa.ApiPlain Go.Proofs.Ytgjmgcmheccdfaa.LimPlain Go.Proofs.Ytgjmgcmheccdfaa.Mem Go.Proofs.Ytgjmgcmheccdfaa.ApiMem Go.Proofs.Ytgjmgcmheccdfaa.JobMem Go.Proofs.Ytgjmgcmheccdfaa.LimRef
set_option maxRecDepth 100000 in
set_option maxHeartbeats 6400000 in
theorem sets_any (l : List Lim) (x : Lim) (s : ByteArray) (v : Value) (w : World) (hv : limL.Is l w v) (hs : LimsFit l) (hx : LimFit x) (hz : s.size ≤ 9223372036854775807) : Calls Try.prog 3 #[v, limV x, .string s] w (TrueIs w) := by
  have HAW := Lib.hid (fun W => awake10 W)
  have HX := Lib.hid (LimBox.new w x 24)
  have HB0 := Lib.hid (below_new w (.cells #[.string x.user, .int .i64 x.jobs, .int .i64 x.procs] 24))
  have CL := Lib.hid (fun W (hb : Below w.heap.size w W) => light10 l x.user v W (hv.below hb) hx.f0)
  have CN := Lib.hid (fun W => light10 [] s (.slice none 0 0) W (Lay.Is.nil _ _) hz)
  have HV := Lib.hid hv
  have HS := Lib.hid hs
  have HF := Lib.hid hx
  have HZ := Lib.hid hz
  unfold limV
  cases h1 : lightB l x.user with
  | false =>
    rw [h1] at CL
    clear h1 hv hs hx hz
    go_enter Try.func3, Try.ntmps3
    go_upto_region 1 with fail
    generalize w.alloc (.cells #[.string x.user, .int .i64 x.jobs, .int .i64 x.procs] 24) = w0 at *
    obtain ⟨b, b0, b1, b2, _, _, _⟩ := HX.out
    go_wp2_with (go_at_call 5; refine (CL.out _ HB0.out).mono ?_; rintro e w1 ⟨rfl, rfl⟩)
    refine (HAW.out _).mono ?_
    rintro e w1 ⟨rfl, hb1⟩
    have HB1 := Lib.hid (below_then HB0.out hb1)
    clear hb1
    go_wp2_with fail
    go_ret
    exact ⟨rfl, HB1.out⟩
  | true =>
    rw [h1] at CL
    obtain ⟨hl, hu⟩ := light_len h1
    cases h2 : lightB [] s with
    | false =>
      rw [h2] at CN
      clear h1 h2 hv hs hx hz
      go_enter Try.func3, Try.ntmps3
      go_upto_region 1 with fail
      generalize w.alloc (.cells #[.string x.user, .int .i64 x.jobs, .int .i64 x.procs] 24) = w0 at *
      obtain ⟨b, b0, b1, b2, _, _, _⟩ := HX.out
      go_wp2_with (first | (go_at_call_of 5 (Value.slice none 0 0); refine (CN.out _).mono ?_; rintro e w1 ⟨rfl, rfl⟩) | (go_at_call 5; refine (CL.out _ HB0.out).mono ?_; rintro e w1 ⟨rfl, rfl⟩))
      refine (HAW.out _).mono ?_
      rintro e w1 ⟨rfl, hb1⟩
      have HB1 := Lib.hid (below_then HB0.out hb1)
      clear hb1
      go_wp2_with fail
      go_ret
      exact ⟨rfl, HB1.out⟩
    | true =>
      rw [h2] at CN
      have C1 := Lib.hid (fun W (hb : Below w.heap.size w W) => setS l x v W (HV.out.below hb) HS.out HF.out (by omega))
      have C2 := Lib.hid (fun W (hb : Below w.heap.size w W) => dropS l s v W (HV.out.below hb) HS.out (by omega) HZ.out)
      have C3 := Lib.hid (fun W (hb : Below w.heap.size w W) => set10 l x v W (HV.out.below hb) HS.out HF.out (by omega))
      have C4 := Lib.hid (fun W (hb : Below w.heap.size w W) => drop10 l s v W (HV.out.below hb) HS.out (by omega))
      have C5 := Lib.hid (fun W (hb : Below w.heap.size w W) => checkS l v W (HV.out.below hb) HS.out (by omega))
      have C6 := Lib.hid (fun W (hb : Below w.heap.size w W) => check10 l v W (HV.out.below hb) HS.out (by omega))
      have hlr : (setR l x).length ≤ 1000 := by
        unfold setR
        split
        · have := set_len l x l.length
          unfold setOut
          split <;> (try rw [List.length_append, List.length_singleton]) <;> omega
        · simp
      have hld : (dropR l s).length ≤ 1000 := by
        unfold dropR
        split
        · have := drop_len l s; omega
        · simp
      have S1 := Lib.hid (fun W a b (h1 : limL.Is (setR l x) W a) (h2 : limL.Is (setR l x) W b) => same10 (setR l x) a b W h1 h2 (by omega))
      have S2 := Lib.hid (fun W a b (h1 : limL.Is (dropR l s) W a) (h2 : limL.Is (dropR l s) W b) => same10 (dropR l s) a b W h1 h2 (by omega))
      clear h1 h2 hv hs hx hz hlr hld
      unfold limV at C1 C3
      have e1 : (checkL l == checkL l) = true := by simp
      have e2 : (setE l x == setE l x) = true := by simp
      have e3 : (dropE l s == dropE l s) = true := by simp
      generalize checkL l = C at *
      generalize setE l x = E at *
      generalize dropE l s = D at *
      generalize setR l x = R at *
      generalize dropR l s = Q at *
      go_enter Try.func3, Try.ntmps3
      go_upto_region 1 with fail
      generalize w.alloc (.cells #[.string x.user, .int .i64 x.jobs, .int .i64 x.procs] 24) = w0 at *
      obtain ⟨b, b0, b1, b2, _, _, _⟩ := HX.out
      go_wp2_with (first | (go_at_call_of 5 (Value.slice none 0 0); refine (CN.out _).mono ?_; rintro e w1 ⟨rfl, rfl⟩) | (go_at_call 5; refine (CL.out _ HB0.out).mono ?_; rintro e w1 ⟨rfl, rfl⟩))
      refine (C1.out _ HB0.out).mono ?_
      rintro e w1 ⟨va, rfl, ha, hb1⟩
      have HX1 := Lib.hid (HX.out.below hb1)
      have HB1 := Lib.hid (below_then HB0.out hb1)
      have HVA := Lib.hid ha
      clear ha hb1 HX HB0 C1 b b0 b1 b2 CL CN
      obtain ⟨b, b0, b1, b2, _, _, _⟩ := HX1.out
      go_wp2_with fail
      refine (C2.out _ HB1.out).mono ?_
      rintro e w2 ⟨vb, rfl, hq, hb2⟩
      have HX2 := Lib.hid (HX1.out.below hb2)
      have HB2 := Lib.hid (below_then HB1.out hb2)
      have HVA2 := Lib.hid (HVA.out.below hb2)
      have HVB := Lib.hid hq
      clear hq hb2 HX1 HB1 HVA C2 b b0 b1 b2
      obtain ⟨b, b0, b1, b2, _, _, _⟩ := HX2.out
      go_wp2_with fail
      refine (C3.out _ HB2.out).mono ?_
      rintro e w3 ⟨vc, rfl, hq, hb3⟩
      have HB3 := Lib.hid (below_then HB2.out hb3)
      have HVA3 := Lib.hid (HVA2.out.below hb3)
      have HVB3 := Lib.hid (HVB.out.below hb3)
      have HVC := Lib.hid hq
      clear hq hb3 HX2 HB2 HVA2 HVB C3 b b0 b1 b2
      go_wp2_with fail
      refine (C4.out _ HB3.out).mono ?_
      rintro e w4 ⟨vd, rfl, hq, hb4⟩
      have HB4 := Lib.hid (below_then HB3.out hb4)
      have HVA4 := Lib.hid (HVA3.out.below hb4)
      have HVB4 := Lib.hid (HVB3.out.below hb4)
      have HVC4 := Lib.hid (HVC.out.below hb4)
      have HVD := Lib.hid hq
      clear hq hb4 HB3 HVA3 HVB3 HVC C4
      go_wp2_with fail
      refine (C5.out _ HB4.out).mono ?_
      rintro e w5 ⟨rfl, hb5⟩
      have HB5 := Lib.hid (below_then HB4.out hb5)
      have HB45 := Lib.hid hb5
      clear hb5 HB4 C5
      go_wp2_with fail
      refine (C6.out _ HB5.out).mono ?_
      rintro e w6 ⟨rfl, hb6⟩
      have HB6 := Lib.hid (below_then HB5.out hb6)
      have HB46 := Lib.hid (below_then HB45.out hb6)
      clear hb6 HB5 HB45 C6
      go_wp2_with fail
      refine (S1.out _ _ _ (HVA4.out.below HB46.out) (HVC4.out.below HB46.out)).mono ?_
      rintro e w7 ⟨rfl, n7, rfl⟩
      have HB7 := Lib.hid (below_drewN HB6.out n7)
      have HB47 := Lib.hid (below_drewN HB46.out n7)
      generalize w6.drewN n7 = w7 at *
      clear S1 HB6 HB46
      go_wp2_with fail
      refine (S2.out _ _ _ (HVB4.out.below HB47.out) (HVD.out.below HB47.out)).mono ?_
      rintro e w8 ⟨rfl, n8, rfl⟩
      have HB8 := Lib.hid (below_drewN HB7.out n8)
      generalize w7.drewN n8 = w8 at *
      clear S2 HB7 HB47
      go_wp2_with fail
      refine (HAW.out _).mono ?_
      rintro e w9 ⟨rfl, hb9⟩
      have HB9 := Lib.hid (below_then HB8.out hb9)
      clear hb9
      go_wp2_with fail
      go_ret
      exact ⟨rfl, HB9.out⟩
end Go.Proofs.Ytgjmgcmheccdfaa.LimWalk
