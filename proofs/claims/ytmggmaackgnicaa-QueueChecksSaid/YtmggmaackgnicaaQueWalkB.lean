/-
  The walks of layer 9's code: the library's slices.IndexFunc at classes; place, Find, Check.
-/
import Derived.Test.YtmggmaackgnicaaQueWalkA
import Derived.Shelf.Abstract
namespace Go.Proofs.Ytmggmaackgnicaa.QueWalk
open Go.RowKit Go.Proofs.Ytmggmaackgnicaa.JobPlain Go.Proofs.Ytmggmaackgnicaa.ApiPlain Go.Proofs.Ytmggmaackgnicaa.QuePlain Go.Proofs.Ytmggmaackgnicaa.Mem Go.Proofs.Ytmggmaackgnicaa.ApiMem Go.Proofs.Ytmggmaackgnicaa.QueRef
theorem below_thenQ {w w1 w2 : World} (h : Below w.heap.size w w1) (h2 : Below w1.heap.size w1 w2) : Below w.heap.size w w2 := h.trans (h2.mono h.size)
/-- A function value's calls tell which classes have a width and a length, in every world behind w. -/
def TellsC (g : Nat) (cb : Array Value) (wd e : Int) (w : World) : Prop := ∀ (W : World) (c : Cl), ClFit c → Below w.heap.size w W → Calls Try.prog g (#[clV c] ++ cb) W (BoolC (hasC c wd e) W)
set_option maxRecDepth 100000 in
set_option maxHeartbeats 1600000 in
theorem index_c (g : Nat) (cb : Array Value) (wd e : Int) (l : List Cl) (v : Value) (w : World) (eg : ∀ args w, (callFunc g args).run Try.prog w = .ok (.enter g args) w) (hp : TellsC g cb wd e w) (hv : clL.Is l w v) (hs : Short l) (hl : l.length ≤ 100000) :
    Calls Try.prog 21 #[v, .func (.func g) #[] cb] w (IntC (ofC l wd e) w) := by
  obtain ⟨A, c, rfl, hn, hA⟩ := cls_open hv
  have HA := Lib.hid hA
  have HS := Lib.hid hs
  have HP := Lib.hid hp
  clear hA hv hs hp
  unfold ofC
  go_enter Try.func21, Try.ntmps21
  go_wp2_with fail
  go_loopw [8] (fun i wr => ∃ k : Nat, i = .int .i64 k ∧ k ≤ l.length ∧ Hid (ofFrom l wd e 0 = ofFrom l wd e k ∧ Below w.heap.size w wr)) (fun i _ => l.length - (intOf i).toNat)
  case atStart => exact ⟨0, rfl, Nat.zero_le _, rfl, Below.refl _ _⟩
  case round =>
    obtain ⟨k, rfl, hk, HL⟩ := hrel
    obtain ⟨ho, hbl⟩ := HL.out
    have HBL := Lib.hid hbl
    by_cases hlt : k < l.length
    · obtain ⟨ad, rfl, ⟨p, p0, p1, p2, p3, p4⟩⟩ := cls_nth HA.out hbl hlt
      have CM := Lib.hid (HP.out wr (nthC l k) (HS.out.fit hlt) hbl)
      have HYES := Lib.hid (fun h => ho.trans (of_yes hlt h))
      have HNX := Lib.hid (fun h => ho.trans (of_next hlt h))
      have hlt2 : (k : Int) < (l.length : Int) := by omega
      have i0 : (0 : Int) ≤ (k : Int) := Int.natCast_nonneg _
      clear ho hbl HL
      unfold clV at CM
      generalize nthC l k = x at *
      cases hb : hasC x wd e with
      | true =>
        rw [hb] at CM
        have HR := Lib.hid (HYES.out hb)
        clear hb HYES HNX
        go_wp2_with (go_at_fn g; refine CM.out.mono ?_; rintro e1 w1 ⟨rfl, hb1⟩)
        go_ret
        exact ⟨ret_i HR.out.symm, below_thenQ HBL.out hb1⟩
      | false =>
        rw [hb] at CM
        have HR := Lib.hid (HNX.out hb)
        clear hb HYES HNX
        go_wp2_with (go_at_fn g; refine CM.out.mono ?_; rintro e1 w1 ⟨rfl, hb1⟩)
        exact ⟨⟨k + 1, by go_num, by omega, HR.out, below_thenQ HBL.out hb1⟩, by simp [intOf] <;> omega⟩
    · have HR := Lib.hid (ho.trans (of_end (by omega)))
      clear ho hbl HL
      go_wp2_with fail
      go_ret
      exact ⟨ret_i HR.out.symm, HBL.out⟩
set_option maxHeartbeats 1600000 in
theorem place_fn (n m : Nat) (wd e : Int) (c : Cl) (W : World) (hc : ClFit c) (hn : n < W.heap.size) (hm : m < W.heap.size) (h1 : W.cell? ⟨n, 0, none⟩ = some (.int .i64 wd)) (h2 : W.cell? ⟨m, 0, none⟩ = some (.int .i64 e)) :
    Calls Try.prog 22 #[clV c, .pointer (some ⟨n, 0, none⟩), .pointer (some ⟨m, 0, none⟩)] W (BoolC (hasC c wd e) W) := by
  have HX := Lib.hid (ClBox.new W c 32)
  have HB := Lib.hid (box_below W (.cells #[.string c.name, .int .i64 c.minW, .int .i64 c.maxW, .int .i64 c.minE, .int .i64 c.maxE] 32))
  have h3 := (HB.out.cell (p := ⟨n, 0, none⟩) hn).trans h1
  have h4 := (HB.out.cell (p := ⟨m, 0, none⟩) hm).trans h2
  have CH := Lib.hid (fun W => has_q c wd e W hc.f0)
  clear h1 h2
  unfold clV at *
  go_enter Try.func22, Try.ntmps22
  go_upto_region 1 with fail
  generalize W.alloc (.cells #[.string c.name, .int .i64 c.minW, .int .i64 c.maxW, .int .i64 c.minE, .int .i64 c.maxE] 32) = W0 at *
  obtain ⟨x, x0, x1, x2, x3, x4, _, _, _, _, _⟩ := HX.out
  go_wp2_with fail
  refine (CH.out _).mono ?_
  rintro e1 w1 ⟨rfl, hb1⟩
  have HB1 := Lib.hid (HB.out.trans (hb1.mono HB.out.size))
  clear hb1
  go_wp2_with fail
  go_ret
  exact ⟨rfl, HB1.out⟩
set_option maxHeartbeats 1600000 in
theorem place_q (l : List Cl) (wd e : Int) (v : Value) (w : World) (hv : clL.Is l w v) (hs : Short l) (hl : l.length ≤ 100000) : Calls Try.prog 17 #[v, .int .i64 wd, .int .i64 e] w (IntC (ofC l wd e) w) := by
  have eg : ∀ args w, (callFunc 22 args).run Try.prog w = .ok (.enter 22 args) w := enters_of Try.func22 (by kernel_rfl) rfl
  have HB := Lib.hid ((box_below w (.cells #[.int .i64 wd] 3)).alloc (by simp) (.cells #[.int .i64 e] 3))
  have hx := (Raw.alloc w #[.int .i64 wd] 3) 0 (.int .i64 wd) rfl
  have hy := (Raw.alloc (w.alloc (.cells #[.int .i64 wd] 3)) #[.int .i64 e] 3) 0 (.int .i64 e) rfl
  rw [add_flat] at hx hy
  have hx2 : w.heap.size < ((w.alloc (.cells #[.int .i64 wd] 3)).alloc (.cells #[.int .i64 e] 3)).heap.size ∧ ((w.alloc (.cells #[.int .i64 wd] 3)).alloc (.cells #[.int .i64 e] 3)).cell? ⟨w.heap.size, 0, none⟩ = some (.int .i64 wd) :=
    ⟨by simp; omega, ((box_below (w.alloc (.cells #[.int .i64 wd] 3)) (.cells #[.int .i64 e] 3)).cell (p := ⟨w.heap.size, 0, none⟩) hx.1).trans hx.2⟩
  have hs1 : (w.alloc (.cells #[.int .i64 wd] 3)).heap.size = w.heap.size + 1 := by simp
  rw [hs1] at hy
  have HT : TellsC 22 #[.pointer (some ⟨w.heap.size, 0, none⟩), .pointer (some ⟨w.heap.size + 1, 0, none⟩)] wd e ((w.alloc (.cells #[.int .i64 wd] 3)).alloc (.cells #[.int .i64 e] 3)) := fun W c hc hW =>
    place_fn w.heap.size (w.heap.size + 1) wd e c W hc (Nat.lt_of_lt_of_le hx2.1 hW.size) (Nat.lt_of_lt_of_le hy.1 hW.size) ((hW.cell (p := ⟨w.heap.size, 0, none⟩) hx2.1).trans hx2.2) ((hW.cell (p := ⟨w.heap.size + 1, 0, none⟩) hy.1).trans hy.2)
  have C := Lib.hid (index_c 22 #[.pointer (some ⟨w.heap.size, 0, none⟩), .pointer (some ⟨w.heap.size + 1, 0, none⟩)] wd e l v _ eg HT (hv.below HB.out) hs (by omega))
  have hmf : ∀ (fn : Fn) (first cap : Array Value) (w : World), (Instr.makeFunc fn first cap).run Try.prog w = .ok (.func fn first cap) w := fun _ _ _ _ => rfl
  obtain ⟨A, c, rfl, _⟩ := cls_open hv
  clear HT hx hy hx2 hv eg hs hs1
  go_enter Try.func17, Try.ntmps17
  go_upto_region 1 with fail
  generalize (w.alloc (.cells #[.int .i64 wd] 3)).alloc (.cells #[.int .i64 e] 3) = W0 at *
  go_wp2_with fail
  refine C.out.mono ?_
  rintro e1 w1 ⟨rfl, hb1⟩
  have HB1 := Lib.hid (below_thenQ HB.out hb1)
  clear hb1
  go_wp2_with fail
  go_ret
  exact ⟨rfl, HB1.out⟩
set_option maxRecDepth 100000 in
set_option maxHeartbeats 1600000 in
theorem checkS (l : List Cl) (v : Value) (w : World) (hv : clL.Is l w v) (hs : Short l) (hl : l.length ≤ 1000) : Calls Try.prog 10 #[v] w (IntC (checkC l) w) := by
  obtain ⟨A, c, rfl, hn, hA⟩ := cls_open hv
  have HA := Lib.hid hA
  have HS := Lib.hid hs
  clear hA hv hs
  by_cases h20 : 20 < l.length
  · have HR := Lib.hid (checkC_full h20)
    have d1 : decide ((20 : Int) < (l.length : Int)) = true := decide_eq_true (by omega)
    go_enter Try.func10, Try.ntmps10
    go_wp2_with fail
    go_ret
    exact ⟨ret_i HR.out.symm, Below.refl _ _⟩
  · have d1 : decide ((20 : Int) < (l.length : Int)) = false := decide_eq_false (by omega)
    have HARG := Lib.hid (fun h => checkC_arg h20 h)
    have HTHERE := Lib.hid (fun h h2 => checkC_there h20 h h2)
    have HOK := Lib.hid (fun h h2 => checkC_ok h20 h h2)
    go_enter Try.func10, Try.ntmps10
    go_wp2_with fail
    go_loopw [14] (fun i wr => ∃ k : Nat, i = .int .i64 k ∧ k ≤ l.length ∧ Hid (MayTo l k ∧ Below w.heap.size w wr)) (fun i _ => l.length - (intOf i).toNat)
    case atStart => exact ⟨0, rfl, Nat.zero_le _, fun i hi => absurd hi (Nat.not_lt_zero _), Below.refl _ _⟩
    case round =>
      obtain ⟨k, rfl, hk, HL⟩ := hrel
      obtain ⟨hm, hbl⟩ := HL.out
      have HBL := Lib.hid hbl
      by_cases hlt : k < l.length
      · obtain ⟨ad, rfl, ⟨p, p0, p1, p2, p3, p4⟩⟩ := cls_nth HA.out hbl hlt
        have CM := Lib.hid (fun W => mayBe_q (nthC l k) W (HS.out.at hlt))
        have HNO := Lib.hid (fun h => HARG.out (all_no hlt h))
        have HNX := Lib.hid (fun h => hm.next h)
        have hlt2 : (k : Int) < (l.length : Int) := by omega
        have i0 : (0 : Int) ≤ (k : Int) := Int.natCast_nonneg _
        have HX := Lib.hid (ClBox.new wr (nthC l k) 32)
        have HB0 := Lib.hid (box_below wr (.cells #[.string (nthC l k).name, .int .i64 (nthC l k).minW, .int .i64 (nthC l k).maxW, .int .i64 (nthC l k).minE, .int .i64 (nthC l k).maxE] 32))
        clear hm hbl HL HTHERE HOK
        unfold clV at CM
        generalize nthC l k = x at *
        go_upto_region 6 with fail
        generalize wr.alloc (.cells #[.string x.name, .int .i64 x.minW, .int .i64 x.maxW, .int .i64 x.minE, .int .i64 x.maxE] 32) = W0 at *
        obtain ⟨y, y0, y1, y2, y3, y4, _, _, _, _, _⟩ := HX.out
        cases hb : mayC x with
        | false =>
          rw [hb] at CM
          have HR := Lib.hid (HNO.out hb)
          clear hb HNO HNX
          go_wp2_with fail
          refine (CM.out _).mono ?_
          rintro e w1 ⟨rfl, hb1⟩
          have HB1 := Lib.hid (below_thenQ (below_thenQ HBL.out HB0.out) hb1)
          clear hb1
          go_wp2_with fail
          go_ret
          exact ⟨ret_i HR.out.symm, HB1.out⟩
        | true =>
          rw [hb] at CM
          have HR := Lib.hid (HNX.out hb)
          clear hb HNO HNX
          go_wp2_with fail
          refine (CM.out _).mono ?_
          rintro e w1 ⟨rfl, hb1⟩
          have HB1 := Lib.hid (below_thenQ (below_thenQ HBL.out HB0.out) hb1)
          clear hb1
          go_wp2_with fail
          exact ⟨⟨k + 1, by go_num, by omega, HR.out, HB1.out⟩, by simp [intOf] <;> omega⟩
      · have HALL := Lib.hid (hm.all (by omega))
        clear hm hbl HL HARG
        go_wp2_with fail
        go_loopw [24] (fun i wq => ∃ k : Nat, i = .int .i64 k ∧ k ≤ l.length ∧ Hid (apartTo l k = true ∧ Below w.heap.size w wq)) (fun i _ => l.length - (intOf i).toNat)
        case atStart => exact ⟨0, rfl, Nat.zero_le _, rfl, HBL.out⟩
        case round =>
          obtain ⟨wo, rfl⟩ : ∃ wo : World, wo = wr := ⟨_, rfl⟩
          obtain ⟨k, rfl, hk, HL⟩ := hrel
          obtain ⟨hap, hbl⟩ := HL.out
          have HAP := Lib.hid hap
          have HBQ := Lib.hid hbl
          by_cases hlt : k < l.length
          · obtain ⟨ad, rfl, ⟨p, p0, p1, p2, p3, p4⟩⟩ := cls_nth HA.out hbl hlt
            have hlt2 : (k : Int) < (l.length : Int) := by omega
            have hkc : (k : Int) ≤ (c : Int) := by omega
            have i0 : (0 : Int) ≤ (k : Int) := Int.natCast_nonneg _
            obtain ⟨x, hx⟩ : ∃ x, x = nthC l k := ⟨_, rfl⟩
            rw [← hx] at p0 p1 p2 p3 p4
            have HXE := Lib.hid hx
            clear hx
            have HX := Lib.hid (ClBox.new wo x 32)
            have HB0 := Lib.hid (box_below wo (.cells #[.string x.name, .int .i64 x.minW, .int .i64 x.maxW, .int .i64 x.minE, .int .i64 x.maxE] 32))
            clear hap hbl HL
            go_upto_region 12 with fail
            generalize wo.alloc (.cells #[.string x.name, .int .i64 x.minW, .int .i64 x.maxW, .int .i64 x.minE, .int .i64 x.maxE] 32) = W0 at *
            clear p p0 p1 p2 p3 p4
            go_wp2_with fail
            go_loopw [33] (fun j wi => ∃ m : Nat, j = .int .i64 m ∧ m ≤ k ∧ Hid (apartAt l k m = true ∧ Below W0.heap.size W0 wi)) (fun j _ => k - (intOf j).toNat)
            case atStart => exact ⟨0, rfl, Nat.zero_le _, rfl, Below.refl _ _⟩
            case round =>
              obtain ⟨m, rfl, hmk, HI⟩ := hrel
              obtain ⟨haa, hbi⟩ := HI.out
              have HAA := Lib.hid haa
              have HBI := Lib.hid hbi
              have HBW := Lib.hid (below_thenQ (below_thenQ HBQ.out HB0.out) hbi)
              by_cases hml : m < k
              · obtain ⟨ad2, ead, ⟨q, q0, q1, q2, q3, q4⟩⟩ := cls_nth HA.out HBW.out (show m < l.length by omega)
                injection ead with ead
                subst ead
                have hx := HXE.out
                subst hx
                have CM := Lib.hid (fun W => meetS (nthC l k) (nthC l m) W (HS.out.fit hlt) (HS.out.fit (show m < l.length by omega)))
                have hways := pair_ways l (i := k) (k := m)
                have HNO := Lib.hid (fun h => HTHERE.out HALL.out (apartTo_no hlt (apartAt_no hml h)))
                have HNX : Hid (clash (nthC l k) (nthC l m) = false → apartAt l k (m + 1) = true) := fun h => by rw [apartAt_next, HAA.out, h]; rfl
                have i2 : (0 : Int) ≤ (m : Int) := Int.natCast_nonneg _
                have i4 : (m : Int) < (k : Int) := by omega
                have HY := Lib.hid (HX.out.below HBI.out)
                obtain ⟨y, hy⟩ : ∃ y, y = nthC l m := ⟨_, rfl⟩
                rw [← hy] at q0 q1 q2 q3 q4 CM hways HNO HNX
                clear hy HXE
                generalize nthC l k = x at *
                have HZ := Lib.hid (ClBox.new wr y 32)
                have HY2 := Lib.hid (HY.out.alloc (.cells #[.string y.name, .int .i64 y.minW, .int .i64 y.maxW, .int .i64 y.minE, .int .i64 y.maxE] 32))
                have HB2 := Lib.hid (box_below wr (.cells #[.string y.name, .int .i64 y.minW, .int .i64 y.maxW, .int .i64 y.minE, .int .i64 y.maxE] 32))
                clear haa hbi HI HAA
                unfold clV at CM
                go_upto_region 15 with fail
                generalize wr.alloc (.cells #[.string y.name, .int .i64 y.minW, .int .i64 y.maxW, .int .i64 y.minE, .int .i64 y.maxE] 32) = W1 at *
                clear q q0 q1 q2 q3 q4
                obtain ⟨u, u0, u1, u2, u3, u4, _, _, _, _, _⟩ := HY2.out
                obtain ⟨z, z0, z1, z2, z3, z4, _, _, _, _, _⟩ := HZ.out
                rcases hways with ⟨h1, HR⟩ | ⟨h1, h2, HR⟩ | ⟨h1, h2, HR⟩
                · have HE := Lib.hid (HNO.out HR.out)
                  clear HNO HNX HR CM
                  go_wp2_with fail
                  go_ret
                  exact ⟨ret_i HE.out.symm, below_thenQ HBW.out HB2.out⟩
                · have HE := Lib.hid (HNO.out HR.out)
                  rw [h2] at CM
                  clear HNO HNX HR h2
                  go_wp2_with fail
                  refine (CM.out _).mono ?_
                  rintro e w1 ⟨rfl, hb1⟩
                  have HB3 := Lib.hid (below_thenQ (below_thenQ HBW.out HB2.out) hb1)
                  clear hb1
                  go_wp2_with fail
                  go_ret
                  exact ⟨ret_i HE.out.symm, HB3.out⟩
                · have HE := Lib.hid (HNX.out HR.out)
                  rw [h2] at CM
                  clear HNO HNX HR h2
                  go_wp2_with fail
                  refine (CM.out _).mono ?_
                  rintro e w1 ⟨rfl, hb1⟩
                  have HB3 := Lib.hid (below_thenQ (below_thenQ HBI.out HB2.out) hb1)
                  clear hb1
                  go_wp2_with fail
                  exact ⟨⟨m + 1, by go_num, by omega, HE.out, HB3.out⟩, by simp [intOf] <;> omega⟩
              · obtain rfl : m = k := by omega
                have HN : Hid (apartTo l (m + 1) = true) := by show _ = _; rw [apartTo_next, HAP.out, HAA.out]; rfl
                clear haa hbi HI
                go_wp2_with fail
                exact ⟨⟨m + 1, by go_num, by omega, HN.out, HBW.out⟩, by simp [intOf] <;> omega⟩
          · obtain rfl : k = l.length := by omega
            have HE := Lib.hid (HOK.out HALL.out hap)
            clear hap hbl HL
            go_wp2_with fail
            go_ret
            exact ⟨ret_i HE.out.symm, HBQ.out⟩
theorem find_waysC (l : List Cl) (wd e : Int) : (checkC l ≠ 0 ∧ (checkC l != 0) = true ∧ findN l wd e = 0 ∧ findB l wd e = false) ∨ ((checkC l != 0) = false ∧ checkC l = 0 ∧ ofC l wd e = -1 ∧ findN l wd e = 0 ∧ findB l wd e = false) ∨ ∃ i : Nat, (checkC l != 0) = false ∧ checkC l = 0 ∧ ofC l wd e = i ∧ findN l wd e = i ∧ findB l wd e = true := by
  by_cases h : checkC l = 0
  · rcases ofC_cases l wd e with h1 | ⟨i, hi, h1, _⟩
    · have hb : findB l wd e = false := by unfold findB; rw [h1, decide_eq_false (p := (0 : Int) ≤ -1) (by omega), Bool.and_false]
      exact .inr (.inl ⟨by rw [h]; rfl, h, h1, by unfold findN; rw [hb]; rfl, hb⟩)
    · have hb : findB l wd e = true := by unfold findB; rw [h1, h, decide_eq_true (p := (0 : Int) ≤ (i : Int)) (by omega)]; rfl
      exact .inr (.inr ⟨i, by rw [h]; rfl, h, h1, by unfold findN; rw [hb]; exact h1, hb⟩)
  · have hb : findB l wd e = false := by unfold findB; rw [decide_eq_false h, Bool.false_and]
    exact .inl ⟨h, by simpa using h, by unfold findN; rw [hb]; rfl, hb⟩
set_option maxHeartbeats 1600000 in
theorem findS (l : List Cl) (wd e : Int) (v : Value) (w : World) (hv : clL.Is l w v) (hs : Short l) (hl : l.length ≤ 1000) : Calls Try.prog 7 #[v, .int .i64 wd, .int .i64 e] w (FindSays l wd e w) := by
  have CC := Lib.hid (checkS l v w hv hs hl)
  have CP : Hid (∀ W, Below w.heap.size w W → Calls Try.prog 17 #[v, .int .i64 wd, .int .i64 e] W (IntC (ofC l wd e) W)) := fun W hW => place_q l wd e v W (hv.below hW) hs (by omega)
  obtain ⟨A, c, rfl, _⟩ := cls_open hv
  clear hv hs
  rcases find_waysC l wd e with ⟨_, h1, h2, h3⟩ | ⟨h1, _, h2, h3, h4⟩ | ⟨i, h1, _, h2, h3, h4⟩
  · have H2 := Lib.hid h2
    have H3 := Lib.hid h3
    clear h2 h3 CP
    generalize checkC l = x at *
    go_enter Try.func7, Try.ntmps7
    go_wp2_with fail
    refine CC.out.mono ?_
    rintro e1 w1 ⟨rfl, hb1⟩
    go_wp2_with fail
    go_ret2
    exact ⟨by rw [H2.out, H3.out]; rfl, hb1⟩
  · have H2 := Lib.hid h3
    have H3 := Lib.hid h4
    rw [h2] at CP
    generalize checkC l = x at *
    clear h2 h3 h4
    go_enter Try.func7, Try.ntmps7
    go_wp2_with fail
    refine CC.out.mono ?_
    rintro e1 w1 ⟨rfl, hb1⟩
    go_wp2_with fail
    refine (CP.out w1 hb1).mono ?_
    rintro e1 w2 ⟨rfl, hb2⟩
    have HB2 := Lib.hid (below_thenQ hb1 hb2)
    clear hb1 hb2
    go_wp2_with fail
    go_ret2
    exact ⟨by rw [H2.out, H3.out]; rfl, HB2.out⟩
  · have H2 := Lib.hid h3
    have H3 := Lib.hid h4
    rw [h2] at CP
    have d1 : decide ((0 : Int) ≤ (i : Int)) = true := decide_eq_true (by omega)
    have d2 : (if (i : Int) < 0 then (0 : Int) else (i : Int)) = (i : Int) := if_neg (by omega)
    have d3 : max (i : Int) 0 = (i : Int) := by omega
    have d4 : decide ((i : Int) < 0) = false := decide_eq_false (by omega)
    generalize checkC l = x at *
    clear h2 h3 h4
    go_enter Try.func7, Try.ntmps7
    go_wp2_with fail
    refine CC.out.mono ?_
    rintro e1 w1 ⟨rfl, hb1⟩
    go_wp2_with fail
    refine (CP.out w1 hb1).mono ?_
    rintro e1 w2 ⟨rfl, hb2⟩
    have HB2 := Lib.hid (below_thenQ hb1 hb2)
    clear hb1 hb2
    go_wp2_with fail
    go_ret2
    exact ⟨by rw [H2.out, H3.out]; rfl, HB2.out⟩
end Go.Proofs.Ytmggmaackgnicaa.QueWalk
