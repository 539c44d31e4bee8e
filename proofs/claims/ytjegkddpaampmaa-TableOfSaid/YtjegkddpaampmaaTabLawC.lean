/-
  The walks of the statements of layer 11: TableActs.
-/
import Derived.Test.YtjegkddpaampmaaTabLawB
import Derived.Test.YtjegkddpaampmaaTabAct
import Derived.StillTailTactics
import Derived.Deep.RegionHeld3
namespace Go.Proofs.Ytjegkddpaampmaa.TabWalk
open Go.RowKit Go.Proofs.Ytjegkddpaampmaa.JobPlain Go.Proofs.Ytjegkddpaampmaa.OrdPlain Go.Proofs.Ytjegkddpaampmaa.TabPlain Go.Proofs.Ytjegkddpaampmaa.Mem Go.Proofs.Ytjegkddpaampmaa.JobMem Go.Proofs.Ytjegkddpaampmaa.OrdMem Go.Proofs.Ytjegkddpaampmaa.OrdRef Go.Proofs.Ytjegkddpaampmaa.TabRef
/-- How the loop of TableActs stands. -/
def ActsAt (v : Value) (w1 wr : World) (O1 : List Nat) (u : Value) (k : Nat) : Prop := ∃ L O, Here O1 w1 L v L u O wr ∧ L.length ≤ k
theorem Here.list {O0 O : List Nat} {w0 w w' : World} {l' L L' : List Jb} {v u : Value} {x : Int} {e : Ending} (h : Here O0 w0 l' v L u O w) (hs : ListSays L L' x u w e w') : ∃ u', e = .returned (.tuple #[u', .int .i64 x]) ∧ Here O0 w0 l' v L' u' O w' ∧ Below w.heap.size w w' := by
  obtain ⟨u', he, hj, hc, hb⟩ := hs
  refine ⟨u', he, ⟨tab_below h.tab hb, h.owns, h.spare.then_ h.owns (Spare.of_below hb), ?_⟩, hb⟩
  rcases hc with ⟨rfl, rfl⟩ | hf
  · exact h.off.below hb
  · exact JobsOff.fresh hj hf h.tab.lt
theorem Here.then_ {O0 O O2 : List Nat} {w0 w w' : World} {l l2 L : List Jb} {v u : Value} (h : Here O0 w0 l v L u O w) {L2 : List Jb} {u2 : Value} (k : Here O w l2 v L2 u2 O2 w') : Here O0 w0 l2 v L2 u2 O2 w' :=
  ⟨k.tab, h.owns.then_ k.owns h.spare.size, h.spare.then_ h.owns k.spare, k.off⟩
theorem addR_len (l : List Jb) (j : Jb) : (addR l j).length ≤ l.length + 1 := by
  unfold addR
  split
  · rw [insOut_len]; omega
  · omega
theorem turnR_len (l : List Jb) (id ev t : Int) : (turnR l id ev t).length = l.length := by unfold turnR; split <;> simp
theorem editR_len (l : List Jb) (id a b c : Int) : (editR l id a b c).length = l.length := by unfold editR; split <;> simp
theorem jobs_fit {l : List Jb} (h : ∀ j ∈ l, mayJ j = true) : JobsFit l := fun j hj => by
  have h1 := may_fin (h j hj)
  have h2 := (base_iff j).1 (by have := h j hj; unfold mayJ at this; rw [Bool.and_eq_true] at this; exact this.1)
  have h3 := h2.name
  refine ⟨by omega, by omega, ?_⟩
  unfold nameB at h3
  simp only [Bool.and_eq_true, decide_eq_true_eq] at h3
  omega
set_option maxRecDepth 100000 in
set_option maxHeartbeats 12800000 in
theorem acts_any (l : List Ac) (s : Int) (v : Value) (w : World) (hv : acL.Is l w v) (hf : ∀ x ∈ l, AcFit x) : Calls Try.prog 3 #[v, .int .i64 s] w (TrueIs w) := by
  have HAW := Lib.hid (fun W => awake11 W)
  obtain ⟨A, c, rfl, hn, hA⟩ := acs_open hv
  have HA := Lib.hid hA
  have HF := Lib.hid hf
  clear hv hA hf
  by_cases hl : l.length ≤ 60
  · have d1 : decide ((60 : Int) < (l.length : Int)) = false := decide_eq_false (by omega)
    have CN := Lib.hid (newS w)
    go_enter Try.func3, Try.ntmps3
    go_wp2_with fail
    refine CN.out.mono ?_
    rintro e w0 ⟨t, O, rfl, ht, hO, hb⟩
    have HO := Lib.hid hO
    have HB0 := Lib.hid hb
    have HB1 := Lib.hid (below_then hb (below_box w0 (.cells #[] 28)))
    have HT1 := Lib.hid (tab_below ht (below_box w0 (.cells #[] 28)))
    have HJ1 : Hid (JobsOff O [] (w0.alloc (.cells #[] 28)) (.slice (some ⟨w0.heap.size, 0, none⟩) 0 0)) := ⟨.inr ⟨_, 0, rfl, fun j u hu => by simp [jvals] at hu, Nat.le_refl _⟩, fun h => absurd rfl h⟩
    clear ht hO hb CN
    go_upto_region 5 with fail
    generalize w0.alloc (.cells #[] 28) = w1 at *
    go_wp2_with fail
    go_loopw [6, 7] (fun u i wr => ∃ (k : Nat) (y : Value), y = u ∧ i = .int .i64 k ∧ k ≤ l.length ∧ Hid (ActsAt t w1 wr O y k)) (fun _ i _ => l.length - (intOf i).toNat)
    case atStart => exact ⟨0, _, rfl, rfl, Nat.zero_le _, [], O, ⟨HT1.out, Owns.refl _ _, Spare.of_below (Below.refl _ _), HJ1.out⟩, Nat.le_refl _⟩
    case round =>
      obtain ⟨k, u, huv, rfl, hk, HR⟩ := hrel
      subst huv
      obtain ⟨L, O2, hh, hLk⟩ := HR.out
      have HH := Lib.hid hh
      have HBr := Lib.hid (Spare.below HB1.out hh.spare HO.out HB1.out.size)
      clear hh HR
      by_cases hlt : k < l.length
      · obtain ⟨ad, rfl, ⟨p, p0, p1, p2, p3, p4, p5, p6, p7, p8, p9, p10, p11, p12⟩⟩ := HA.out wr HBr.out k hlt
        have HXA0 : Hid (∀ W, Below w.heap.size w W → AcAt W (ad.add (k * 13)) (nthA l k)) := fun W hb => by
          obtain ⟨a2, ea, h⟩ := HA.out W hb k hlt
          injection ea with ea
          subst ea
          exact h
        have hfit : AcFit (nthA l k) := HF.out _ (by rw [nthA_at hlt]; exact List.getElem_mem hlt)
        have i0 : (0 : Int) ≤ (k : Int) := Int.natCast_nonneg _
        have i1 : (k : Int) < (l.length : Int) := by omega
        generalize nthA l k = x at *
        by_cases hu : x.j.user.size ≤ 100
        · have d2 : decide ((100 : Int) < (x.j.user.size : Int)) = false := decide_eq_false (by omega)
          have HH2 := Lib.hid (HH.out.below (below_box wr (.cells #[.int .i64 x.a, .int .i64 x.b, .int .i64 x.c] 29)))
          have HBX := Lib.hid (below_then HBr.out (below_box wr (.cells #[.int .i64 x.a, .int .i64 x.b, .int .i64 x.c] 29)))
          have H3X := Lib.hid (Trio.new wr (.int .i64 x.a) (.int .i64 x.b) (.int .i64 x.c) 29)
          have hmay := HH.out.tab.is.may
          have HM := Lib.hid hmay
          have HFIT := Lib.hid hfit
          have HXA : Hid (∀ W, Below w.heap.size w W → AcAt W (ad.add (k * 13)) x) := HXA0
          clear hmay hfit HXA0
          by_cases hw0 : x.what = 0
          · have d3 : (x.what == 0) = true := by simp [hw0]
            have CA := Lib.hid (addS HH2.out.tab (by omega) x.j HFIT.out.j)
            unfold Acts jobV jobA at CA
            go_upto_region 15 with fail
            generalize wr.alloc (.cells #[.int .i64 x.a, .int .i64 x.b, .int .i64 x.c] 29) = w2 at *
            clear p p0 p1 p2 p3 p4 p5 p6 p7 p8 p9 p10 p11 p12
            obtain ⟨p, p0, p1, p2, p3, p4, p5, p6, p7, p8, p9, p10, p11, p12⟩ := HXA.out w2 HBX.out
            go_wp2_with fail
            refine CA.out.mono ?_
            rintro e w3 ⟨O3, rfl, ht, ho, hs⟩
            have H3 := Lib.hid (HH2.out.acts ht ho hs)
            have HB3 := Lib.hid (Spare.below HBX.out hs (HH2.out.owns.above HO.out HB1.out.size) HBX.out.size)
            have CR := Lib.hid (add11 L x.j u w3 H3.out.off.1 HFIT.out.j (by omega))
            unfold jobV jobA at CR
            clear ht ho hs CA HH HH2 HBX H3X p p0 p1 p2 p3 p4 p5 p6 p7 p8 p9 p10 p11 p12
            obtain ⟨p, p0, p1, p2, p3, p4, p5, p6, p7, p8, p9, p10, p11, p12⟩ := HXA.out w3 HB3.out
            go_wp2_with fail
            refine CR.out.mono ?_
            rintro e w4 hls
            obtain ⟨u4, rfl, h4, hb4⟩ := H3.out.list hls
            have H4 := Lib.hid h4
            have HB4 := Lib.hid (below_then HB3.out hb4)
            have hlen := addR_len L x.j
            have CK := Lib.hid (like11 (w := w4) H4.out.tab H4.out.off (by omega) x.j.id s)
            have eE : (addE L x.j != addE L x.j) = false := by simp
            have HLEN : Hid ((addR L x.j).length ≤ k + 1) := by show _ ≤ _; omega
            clear hls h4 hb4 CR H3 HB3 hlen p p0 p1 p2 p3 p4 p5 p6 p7 p8 p9 p10 p11 p12
            obtain ⟨p, p0, p1, p2, p3, p4, p5, p6, p7, p8, p9, p10, p11, p12⟩ := HXA.out w4 HB4.out
            generalize addR L x.j = R at *
            generalize addE L x.j = E at *
            go_wp2_with fail
            refine CK.out.mono ?_
            rintro e w5 ⟨O5, rfl, h5⟩
            have H5 := Lib.hid (H4.out.then_ h5)
            clear h5
            go_wp2_with fail
            exact ⟨⟨k + 1, _, rfl, by go_num, by omega, R, O5, H5.out, HLEN.out⟩, by simp [intOf] <;> omega⟩
          · have d3 : (x.what == 0) = false := by simp [hw0]
            have HNO : Hid (wr.heap.size ∉ O2) := fun e => Nat.lt_irrefl _ (HH.out.tab.lt _ e)
            by_cases hw1 : x.what = 1
            · have d4 : (x.what == 1) = true := by simp [hw1]
              have CA := Lib.hid (turnS (HH2.out.below ((Below.refl _ _).drew)).tab (by omega) x.j.id x.a x.b HFIT.out.b)
              have HH3 := Lib.hid (HH2.out.below ((Below.refl _ _).drew))
              have HB3 := Lib.hid (below_then HBX.out ((Below.refl _ _).drew))
              unfold Acts at CA
              go_upto_region 15 with fail
              generalize wr.alloc (.cells #[.int .i64 x.a, .int .i64 x.b, .int .i64 x.c] 29) = w2 at *
              clear p p0 p1 p2 p3 p4 p5 p6 p7 p8 p9 p10 p11 p12
              obtain ⟨p, p0, p1, p2, p3, p4, p5, p6, p7, p8, p9, p10, p11, p12⟩ := HXA.out w2 HBX.out
              obtain ⟨z, z0, z1, z2, _, _, _⟩ := H3X.out
              go_upto_region 19 with fail
              go_still_tail 11, (by kernel_rfl)
              have H3Y := Lib.hid (H3X.out.below ((Below.refl _ _).drew))
              change wpList _ _ _ _ _ w2.drew
              generalize w2.drew = w3 at *
              clear p p0 p1 p2 p3 p4 p5 p6 p7 p8 p9 p10 p11 p12 z z0 z1 z2 H3X HBX HH2 HH
              go_wp2_with fail
              refine CA.out.mono ?_
              rintro e w4 ⟨O3, rfl, ht, ho, hs⟩
              have H4 := Lib.hid (HH3.out.acts ht ho hs)
              have HN4 : Hid (wr.heap.size ∉ O2) := HNO.out
              have H3Z := Lib.hid (H3Y.out.of_block (Nat.lt_of_lt_of_le H3Y.out.lt hs.size) (hs.block _ H3Y.out.lt HNO.out))
              have HB4 := Lib.hid (Spare.below HB3.out hs (HH3.out.owns.above HO.out HB1.out.size) HB3.out.size)
              have HH5 := Lib.hid (H4.out.below ((Below.refl _ _).drew))
              have HB5 := Lib.hid (below_then HB4.out ((Below.refl _ _).drew))
              have CR := Lib.hid (turn11 L x.j.id x.a x.b u w4.drew (H4.out.below ((Below.refl _ _).drew)).off.1 (jobs_fit HM.out) (by omega) HFIT.out.b)
              clear ht ho hs CA HH3 H3Y HB3
              obtain ⟨p, p0, p1, p2, p3, p4, p5, p6, p7, p8, p9, p10, p11, p12⟩ := HXA.out w4 HB4.out
              obtain ⟨z, z0, z1, z2, _, _, _⟩ := H3Z.out
              go_upto_region 20 with fail
              have HP5 := Lib.hid (show (ad.add (k * 13)).block < w4.drew.heap.size from p)
              have HZ5 := Lib.hid (show wr.heap.size < w4.drew.heap.size from z)
              go_region_held3 (fun w' => w'.cell? ⟨(ad.add (k * 13)).block, (ad.add (k * 13)).off + 1, none⟩ = some (.int .i64 x.j.id) ∧ w'.cell? ⟨wr.heap.size, 0, none⟩ = some (.int .i64 x.a) ∧ w'.cell? ⟨wr.heap.size, 1, none⟩ = some (.int .i64 x.b) ∧ w'.cell? ⟨wr.heap.size, 2, none⟩ = some (.int .i64 x.c))
                (first | go_keep | (go_split_ands; exact ⟨(hb6.cell (p := ⟨(ad.add (k * 13)).block, (ad.add (k * 13)).off + 1, none⟩) HP5.out).trans (by assumption), (hb6.cell (p := ⟨wr.heap.size, 0, none⟩) HZ5.out).trans (by assumption), (hb6.cell (p := ⟨wr.heap.size, 1, none⟩) HZ5.out).trans (by assumption), (hb6.cell (p := ⟨wr.heap.size, 2, none⟩) HZ5.out).trans (by assumption)⟩))
                (first | (go_at_call_of 11 u; refine CR.out.mono ?_; rintro e w6 hls; obtain ⟨u4, rfl, h6, hb6⟩ := HH5.out.list hls))
              have H6 := Lib.hid h6
              have HB6 := Lib.hid (below_then HB5.out hb6)
              have hlen : (turnR L x.j.id x.a x.b).length = L.length := turnR_len _ _ _ _
              have CK := Lib.hid (like11 (w := w6) H6.out.tab H6.out.off (by omega) x.j.id s)
              have eE : (turnE L x.j.id x.a x.b != turnE L x.j.id x.a x.b) = false := by simp
              have HLEN : Hid ((turnR L x.j.id x.a x.b).length ≤ k + 1) := by show _ ≤ _; omega
              clear CR HH5 HB5 hlen
              obtain ⟨p, p0, p1, p2, p3, p4, p5, p6, p7, p8, p9, p10, p11, p12⟩ := HXA.out w6 HB6.out
              generalize turnR L x.j.id x.a x.b = R at *
              generalize turnE L x.j.id x.a x.b = E at *
              go_wp2_with fail
              refine CK.out.mono ?_
              rintro e w7 ⟨O5, rfl, h7⟩
              have H7 := Lib.hid (H6.out.then_ h7)
              clear h7
              go_wp2_with fail
              exact ⟨⟨k + 1, _, rfl, by go_num, by omega, R, O5, H7.out, HLEN.out⟩, by simp [intOf] <;> omega⟩
            · have d4 : (x.what == 1) = false := by simp [hw1]
              have CA := Lib.hid (editS (HH2.out.below ((Below.refl _ _).drew)).tab (by omega) x.j.id x.a x.b x.c)
              have HH3 := Lib.hid (HH2.out.below ((Below.refl _ _).drew))
              have HB3 := Lib.hid (below_then HBX.out ((Below.refl _ _).drew))
              unfold Acts at CA
              go_upto_region 15 with fail
              generalize wr.alloc (.cells #[.int .i64 x.a, .int .i64 x.b, .int .i64 x.c] 29) = w2 at *
              clear p p0 p1 p2 p3 p4 p5 p6 p7 p8 p9 p10 p11 p12
              obtain ⟨p, p0, p1, p2, p3, p4, p5, p6, p7, p8, p9, p10, p11, p12⟩ := HXA.out w2 HBX.out
              obtain ⟨z, z0, z1, z2, _, _, _⟩ := H3X.out
              go_upto_region 13 with fail
              go_still_tail 13, (by kernel_rfl)
              have H3Y := Lib.hid (H3X.out.below ((Below.refl _ _).drew))
              change wpList _ _ _ _ _ w2.drew
              generalize w2.drew = w3 at *
              clear p p0 p1 p2 p3 p4 p5 p6 p7 p8 p9 p10 p11 p12 z z0 z1 z2 H3X HBX HH2 HH
              go_wp2_with fail
              refine CA.out.mono ?_
              rintro e w4 ⟨O3, rfl, ht, ho, hs⟩
              have H4 := Lib.hid (HH3.out.acts ht ho hs)
              have HN4 : Hid (wr.heap.size ∉ O2) := HNO.out
              have H3Z := Lib.hid (H3Y.out.of_block (Nat.lt_of_lt_of_le H3Y.out.lt hs.size) (hs.block _ H3Y.out.lt HNO.out))
              have HB4 := Lib.hid (Spare.below HB3.out hs (HH3.out.owns.above HO.out HB1.out.size) HB3.out.size)
              have HH5 := Lib.hid (H4.out.below ((Below.refl _ _).drew))
              have HB5 := Lib.hid (below_then HB4.out ((Below.refl _ _).drew))
              have CR := Lib.hid (edit11 L x.j.id x.a x.b x.c u w4.drew (H4.out.below ((Below.refl _ _).drew)).off.1 (jobs_fit HM.out) (by omega))
              clear ht ho hs CA HH3 H3Y HB3
              obtain ⟨p, p0, p1, p2, p3, p4, p5, p6, p7, p8, p9, p10, p11, p12⟩ := HXA.out w4 HB4.out
              obtain ⟨z, z0, z1, z2, _, _, _⟩ := H3Z.out
              go_upto_region 14 with fail
              have HP5 := Lib.hid (show (ad.add (k * 13)).block < w4.drew.heap.size from p)
              have HZ5 := Lib.hid (show wr.heap.size < w4.drew.heap.size from z)
              go_region_held3 (fun w' => w'.cell? ⟨(ad.add (k * 13)).block, (ad.add (k * 13)).off + 1, none⟩ = some (.int .i64 x.j.id) ∧ w'.cell? ⟨wr.heap.size, 0, none⟩ = some (.int .i64 x.a) ∧ w'.cell? ⟨wr.heap.size, 1, none⟩ = some (.int .i64 x.b) ∧ w'.cell? ⟨wr.heap.size, 2, none⟩ = some (.int .i64 x.c))
                (first | go_keep | (go_split_ands; exact ⟨(hb6.cell (p := ⟨(ad.add (k * 13)).block, (ad.add (k * 13)).off + 1, none⟩) HP5.out).trans (by assumption), (hb6.cell (p := ⟨wr.heap.size, 0, none⟩) HZ5.out).trans (by assumption), (hb6.cell (p := ⟨wr.heap.size, 1, none⟩) HZ5.out).trans (by assumption), (hb6.cell (p := ⟨wr.heap.size, 2, none⟩) HZ5.out).trans (by assumption)⟩))
                (first | (go_at_call_of 13 u; refine CR.out.mono ?_; rintro e w6 hls; obtain ⟨u4, rfl, h6, hb6⟩ := HH5.out.list hls))
              have H6 := Lib.hid h6
              have HB6 := Lib.hid (below_then HB5.out hb6)
              have hlen : (editR L x.j.id x.a x.b x.c).length = L.length := editR_len _ _ _ _ _
              have CK := Lib.hid (like11 (w := w6) H6.out.tab H6.out.off (by omega) x.j.id s)
              have eE : (editE L x.j.id x.a x.b x.c != editE L x.j.id x.a x.b x.c) = false := by simp
              have HLEN : Hid ((editR L x.j.id x.a x.b x.c).length ≤ k + 1) := by show _ ≤ _; omega
              clear CR HH5 HB5 hlen
              obtain ⟨p, p0, p1, p2, p3, p4, p5, p6, p7, p8, p9, p10, p11, p12⟩ := HXA.out w6 HB6.out
              generalize editR L x.j.id x.a x.b x.c = R at *
              generalize editE L x.j.id x.a x.b x.c = E at *
              go_wp2_with fail
              refine CK.out.mono ?_
              rintro e w7 ⟨O5, rfl, h7⟩
              have H7 := Lib.hid (H6.out.then_ h7)
              clear h7
              go_wp2_with fail
              exact ⟨⟨k + 1, _, rfl, by go_num, by omega, R, O5, H7.out, HLEN.out⟩, by simp [intOf] <;> omega⟩
        · have d2 : decide ((100 : Int) < (x.j.user.size : Int)) = true := decide_eq_true (by omega)
          go_wp2_with fail
          refine (HAW.out _).mono ?_
          rintro e w3 ⟨rfl, hb3⟩
          have HB3 := Lib.hid (below_then HBr.out hb3)
          clear hb3
          go_wp2_with fail
          go_ret
          exact ⟨rfl, HB3.out⟩
      · have CLK := Lib.hid (like11 (w := wr) HH.out.tab HH.out.off (by omega) 1 s)
        go_wp2_with fail
        refine CLK.out.mono ?_
        rintro e w2 ⟨O3, rfl, h3⟩
        have HB2 := Lib.hid (Spare.below HBr.out h3.spare (HH.out.owns.above HO.out HB1.out.size) HBr.out.size)
        clear h3
        go_wp2_with fail
        refine (HAW.out _).mono ?_
        rintro e w3 ⟨rfl, hb3⟩
        have HB3 := Lib.hid (below_then HB2.out hb3)
        clear hb3
        go_wp2_with fail
        go_ret
        exact ⟨rfl, HB3.out⟩
  · have d1 : decide ((60 : Int) < (l.length : Int)) = true := decide_eq_true (by omega)
    go_enter Try.func3, Try.ntmps3
    go_wp2_with fail
    refine (HAW.out _).mono ?_
    rintro e w1 ⟨rfl, hb1⟩
    have HB1 := Lib.hid hb1
    clear hb1
    go_wp2_with fail
    go_ret
    exact ⟨rfl, HB1.out⟩
end Go.Proofs.Ytjegkddpaampmaa.TabWalk
