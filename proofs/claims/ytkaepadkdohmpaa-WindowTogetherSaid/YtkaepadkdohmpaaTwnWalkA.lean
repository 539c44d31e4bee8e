/-
  The walks of layer 13's code: the library's slices.IndexFunc and slices.ContainsFunc at items; mayBe, isRoom, longPart, Sums, Fits. The walk of layer 13's Fits. The walks of layer 13's code: the library's slices.Repeat at one number, slices.Clone at numbers; with. The walk of layer 13's with: of each sum the least part of long ones if one more item may be taken. The walk of layer 13's behind: of each sum the least part of long ones, place by place.
-/
import Derived.Test.YtkaepadkdohmpaaTwnRefA
import Derived.Test.YtkaepadkdohmpaaTwnPlain
import Derived.Test.YtkaepadkdohmpaaSubWalkA
import Derived.Shelf.Abstract
import Derived.Deep.RegionHeld3
import Derived.Test.YtkaepadkdohmpaaMove
import Derived.Test.YtkaepadkdohmpaaShelf
import Derived.Lib.OwnBridge
import Derived.WalkSpells
import Derived.Deep.RegionLaw
import Derived.StillTailTactics
import Derived.IntWalk
namespace Go.Proofs.Ytkaepadkdohmpaa.TwnWalk
open Go.RowKit Go.Proofs.Ytkaepadkdohmpaa.SubPlain Go.Proofs.Ytkaepadkdohmpaa.ApiPlain Go.Proofs.Ytkaepadkdohmpaa.TwnPlain Go.Proofs.Ytkaepadkdohmpaa.Mem Go.Proofs.Ytkaepadkdohmpaa.ApiMem Go.Proofs.Ytkaepadkdohmpaa.SubRef Go.Proofs.Ytkaepadkdohmpaa.TwnRef Go.Proofs.Ytkaepadkdohmpaa.SubWalk
def NumB (n : Int) (w : World) (e : Ending) (w' : World) : Prop := e = .returned (.int .i64 n) ∧ Below w.heap.size w w'
set_option maxHeartbeats 800000 in
theorem part_i (x : Int) (g : Bool) (w : World) : Calls Try.prog 36 #[.agg #[.int .i64 x, .bool g]] w (NumB (partI ⟨x, g⟩) w) := by
  obtain ⟨n, hn⟩ : ∃ n, n = w.heap.size := ⟨_, rfl⟩
  have HBX := Lib.hid (ItmBox.new_at hn.symm ⟨x, g⟩ 42)
  have HBB := Lib.hid ((Below.refl w.heap.size w).alloc (Nat.le_refl _) (.cells #[.int .i64 x, .bool g] 42))
  cases g
  all_goals
    go_enter Try.func36, Try.ntmps36
    go_upto_region 1 with fail
    rw [← hn]
    clear hn
    generalize w.alloc (.cells #[.int .i64 x, .bool _] 42) = W at *
    obtain ⟨b0, b1, b2, b3, b4⟩ := HBX.out
    dsimp only at b1 b2
    go_wp2_with fail
    go_ret
    exact ⟨rfl, HBB.out⟩
set_option maxHeartbeats 800000 in
theorem wide_fn_i (x : Int) (g : Bool) (w : World) : Calls Try.prog 58 #[.agg #[.int .i64 x, .bool g]] w (BoolB (!wideB x) w) := by
  obtain ⟨n, hn⟩ : ∃ n, n = w.heap.size := ⟨_, rfl⟩
  have HBX := Lib.hid (ItmBox.new_at hn.symm ⟨x, g⟩ 42)
  have HBB := Lib.hid ((Below.refl w.heap.size w).alloc (Nat.le_refl _) (.cells #[.int .i64 x, .bool g] 42))
  rcases wide_ways x with ⟨a1, a2⟩ | ⟨a1, a3, a2⟩ | ⟨a1, a3, a2⟩
  all_goals
    have HR := Lib.hid a2
    clear a2
    go_enter Try.func58, Try.ntmps58
    go_upto_region 1 with fail
    rw [← hn]
    clear hn
    generalize w.alloc (.cells #[.int .i64 x, .bool g] 42) = W at *
    obtain ⟨b0, b1, b2, b3, b4⟩ := HBX.out
    dsimp only at b1 b2
    go_wp2_with fail
    go_ret
    exact ⟨by rw [HR.out]; rfl, HBB.out⟩
/-- A place of an item that may not be, or -1. -/
def FirstT (l : List Itm) (w : World) (e : Ending) (w' : World) : Prop := ∃ n : Int, e = .returned (.int .i64 n) ∧ decide (0 ≤ n) = !((wsOf l).all wideB) ∧ Below w.heap.size w w'
theorem all_not_i {l : List Itm} {k : Nat} (hk : k < l.length) (hx : wideB l[k].width = false) : (wsOf l).all wideB = false := by
  rw [List.all_eq_false]
  exact ⟨l[k].width, by rw [← ws_at hk]; exact List.getElem_mem _, by rw [hx]; decide⟩
set_option maxHeartbeats 1600000 in
theorem index_i (l : List Itm) (v : Value) (w : World) (hv : ItmsAt l w v) (hl : l.length ≤ 100000) : Calls Try.prog 69 #[v, .func (.func 58) #[] #[]] w (FirstT l w) := by
  obtain ⟨A, c, rfl, hc, hA⟩ := hv
  have HA := Lib.hid hA
  have HC := Lib.hid wide_fn_i
  have eg : ∀ args w, (callFunc 58 args).run Try.prog w = .ok (.enter 58 args) w := enters_of Try.func58 (by kernel_rfl) rfl
  clear hA
  go_enter Try.func69, Try.ntmps69
  go_wp2_with fail
  go_loopw [8] (fun i wr => ∃ k : Nat, k ≤ l.length ∧ i = .int .i64 k ∧ Hid (Below w.heap.size w wr) ∧ Hid (WideTo (wsOf l) k)) (fun i _ => l.length - (intOf i).toNat)
  case atStart => exact ⟨0, Nat.zero_le _, rfl, Below.refl _ _, WideTo.zero _⟩
  case round =>
    obtain ⟨k, hk, rfl, HB, HD⟩ := hrel
    by_cases hlt : k < l.length
    · obtain ⟨ad, rfl, hat⟩ := HA.out k hlt
      obtain ⟨hb2, h1, h2⟩ := hat.below HB.out
      have HNX : Hid (wideB l[k].width = true → WideTo (wsOf l) (k + 1)) := Lib.hid (fun h => HD.out.succ (by rw [ws_len]; exact hlt) (by rw [wsd_at hlt]; exact h))
      have HNO := Lib.hid (fun h => all_not_i hlt h)
      have hlt2 : (k : Int) < (l.length : Int) := by omega
      have i0 : (0 : Int) ≤ (k : Int) := Int.natCast_nonneg _
      clear hat
      generalize l[k] = y at *
      obtain ⟨x, g⟩ := y
      dsimp only at h1 h2 HNX HNO
      have CX := Lib.hid (HC.out x g wr)
      cases hd : wideB x
      · rw [hd] at CX
        have HR := Lib.hid (HNO.out hd)
        clear hd
        go_wp2_with (go_at_fn 58; refine CX.out.mono ?_; rintro e w1 ⟨rfl, hb1⟩)
        go_ret
        exact ⟨_, rfl, by rw [HR.out]; exact decide_eq_true i0, below_then HB.out hb1⟩
      · rw [hd] at CX
        have HR := Lib.hid (HNX.out hd)
        clear hd
        go_wp2_with (go_at_fn 58; refine CX.out.mono ?_; rintro e w1 ⟨rfl, hb1⟩)
        exact ⟨⟨k + 1, by omega, by go_num, below_then HB.out hb1, HR.out⟩, by simp [intOf] <;> omega⟩
    · have HR := Lib.hid (HD.out.all (by rw [ws_len]; omega))
      go_wp2_with fail
      go_ret
      exact ⟨-1, rfl, by rw [HR.out]; rfl, HB.out⟩
set_option maxHeartbeats 800000 in
theorem contains_i (l : List Itm) (v : Value) (w : World) (hv : ItmsAt l w v) (hl : l.length ≤ 100000) : Calls Try.prog 57 #[v, .func (.func 58) #[] #[]] w (BoolB (!((wsOf l).all wideB)) w) := by
  have CI := Lib.hid (index_i l v w hv hl)
  clear hv
  go_enter Try.func57, Try.ntmps57
  go_wp2_with (go_at_call 69; refine CI.out.mono ?_; rintro e w1 ⟨n, rfl, hn, hb1⟩; have HN := Lib.hid hn; clear hn)
  go_ret
  exact ⟨by rw [← HN.out]; rfl, hb1⟩
set_option maxHeartbeats 800000 in
theorem may_i (l : List Itm) (v : Value) (w : World) (hv : ItmsAt l w v) (hl : l.length ≤ 100000) : Calls Try.prog 33 #[v] w (BoolB (mayT l) w) := by
  have CI := Lib.hid (contains_i l v w hv hl)
  have HM : Hid (mayT l = ((wsOf l).all wideB && decide (l.length ≤ 32))) := rfl
  obtain ⟨A, c, rfl, hc, hA⟩ := hv
  clear hA
  generalize (wsOf l).all wideB = b at *
  by_cases h64 : l.length ≤ 32
  · have d1 : decide ((l.length : Int) ≤ 32) = true := decide_eq_true (by omega)
    have HR : Hid (mayT l = b) := Lib.hid (by rw [HM.out, decide_eq_true h64, Bool.and_true])
    cases b
    all_goals
      go_enter Try.func33, Try.ntmps33
      go_wp2_with (go_at_call 57; refine CI.out.mono ?_; rintro e w1 ⟨rfl, hb1⟩)
      go_ret
      exact ⟨by rw [HR.out]; rfl, hb1⟩
  · have d1 : decide ((l.length : Int) ≤ 32) = false := decide_eq_false (by omega)
    have HR : Hid (mayT l = false) := Lib.hid (by rw [HM.out, decide_eq_false h64, Bool.and_false])
    go_enter Try.func33, Try.ntmps33
    go_wp2_with fail
    go_ret
    exact ⟨by rw [HR.out]; rfl, Below.refl _ _⟩
def roomT (n : Int) : Bool := decide (0 ≤ n) && decide (n ≤ 256)
set_option maxHeartbeats 800000 in
theorem room_i (n : Int) (w : World) : Calls Try.prog 34 #[.int .i64 n] w (BoolQ (roomT n) w) := by
  have HR : Hid (roomT n = (decide (0 ≤ n) && decide (n ≤ 256))) := rfl
  by_cases h0 : 0 ≤ n
  · by_cases h1 : n ≤ 256
    · have HV : Hid (roomT n = true) := Lib.hid (by rw [HR.out, decide_eq_true h0, decide_eq_true h1]; rfl)
      go_enter Try.func34, Try.ntmps34
      go_wp2_with fail
      go_ret
      exact ⟨by rw [HV.out]; rfl, rfl⟩
    · have HV : Hid (roomT n = false) := Lib.hid (by rw [HR.out, decide_eq_true h0, decide_eq_false h1]; rfl)
      go_enter Try.func34, Try.ntmps34
      go_wp2_with fail
      go_ret
      exact ⟨by rw [HV.out]; rfl, rfl⟩
  · have HV : Hid (roomT n = false) := Lib.hid (by rw [HR.out, decide_eq_false h0]; rfl)
    go_enter Try.func34, Try.ntmps34
    go_wp2_with fail
    go_ret
    exact ⟨by rw [HV.out]; rfl, rfl⟩
theorem wAt_ls {l : List Itm} {m : Nat} (h : m < l.length) : wAt (lsOf l) (m : Int) = partI l[m] := by
  unfold wAt
  rw [Int.toNat_natCast, List.getD_eq_getElem?_getD, List.getElem?_eq_getElem (by rw [ls_len]; exact h), Option.getD_some, ls_at h]; rfl
theorem wAt_ws {l : List Itm} {m : Nat} (h : m < l.length) : wAt (wsOf l) (m : Int) = l[m].width := by
  unfold wAt
  rw [Int.toNat_natCast, wsd_at h]
theorem okT_okP {l : List Itm} {ps : List Int} (h : okP (wsOf l) ps = false) : okT l ps = false := by unfold okT; rw [h, Bool.and_false]
theorem sum_no {l : List Itm} {ps : List Int} (h : okT l ps = false) : sumA l ps = 0 ∧ sumB l ps = 0 := by
  unfold sumA sumB
  rw [h]
  exact ⟨rfl, rfl⟩
end Go.Proofs.Ytkaepadkdohmpaa.TwnWalk
namespace Go.Proofs.Ytkaepadkdohmpaa.TwnWalk
open Go.RowKit Go.Proofs.Ytkaepadkdohmpaa.SubPlain Go.Proofs.Ytkaepadkdohmpaa.ApiPlain Go.Proofs.Ytkaepadkdohmpaa.TwnPlain Go.Proofs.Ytkaepadkdohmpaa.Mem Go.Proofs.Ytkaepadkdohmpaa.ApiMem Go.Proofs.Ytkaepadkdohmpaa.SubRef Go.Proofs.Ytkaepadkdohmpaa.TwnRef Go.Proofs.Ytkaepadkdohmpaa.SubWalk
/-- Whether places are a choice, by what they are together. -/
theorem fits_ways (l : List Itm) (ps : List Int) (room long : Int) : (roomT room = false ∧ fitsT l ps room long = false) ∨ (roomT room = true ∧ roomT long = false ∧ fitsT l ps room long = false) ∨
    (roomT room = true ∧ roomT long = true ∧ okT l ps = false ∧ fitsT l ps room long = false) ∨ (roomT room = true ∧ roomT long = true ∧ okT l ps = true ∧ decide (sumA l ps ≤ room) = false ∧ fitsT l ps room long = false) ∨
    (roomT room = true ∧ roomT long = true ∧ okT l ps = true ∧ decide (sumA l ps ≤ room) = true ∧ decide (sumB l ps ≤ long) = false ∧ fitsT l ps room long = false) ∨
    (roomT room = true ∧ roomT long = true ∧ okT l ps = true ∧ decide (sumA l ps ≤ room) = true ∧ decide (sumB l ps ≤ long) = true ∧ fitsT l ps room long = true) := by
  unfold fitsT roomT sumA sumB
  cases okT l ps <;> cases decide (0 ≤ room) <;> cases decide (room ≤ 256) <;> cases decide (0 ≤ long) <;> cases decide (long ≤ 256) <;> simp
  all_goals
    by_cases h1 : sumP (wsOf l) ps ≤ room <;> by_cases h2 : sumP (lsOf l) ps ≤ long <;> simp [h1, h2] <;> omega
end Go.Proofs.Ytkaepadkdohmpaa.TwnWalk
namespace Go.Proofs.Ytkaepadkdohmpaa.TwnWalk
open Go.RowKit Go.Proofs.Ytkaepadkdohmpaa.SubPlain Go.Proofs.Ytkaepadkdohmpaa.ApiPlain Go.Proofs.Ytkaepadkdohmpaa.TwnPlain Go.Proofs.Ytkaepadkdohmpaa.Mem Go.Proofs.Ytkaepadkdohmpaa.ApiMem Go.Proofs.Ytkaepadkdohmpaa.SubRef Go.Proofs.Ytkaepadkdohmpaa.TwnRef Go.Proofs.Ytkaepadkdohmpaa.SubWalk
theorem nums_t : ElemT Try.prog 29 3 1 8 := ElemT.mk_ (.int .i64 0) Try.underlying29 (by kernel_rfl) rfl (by decide) (by decide)
def nvals (n : Nat) (f : Nat → Int) : List Value := (List.range n).map fun i => .int .i64 (f i)
theorem nvals_len (n : Nat) (f : Nat → Int) : (nvals n f).length = n := by simp [nvals]
theorem nvals_at {n : Nat} (f : Nat → Int) {i : Nat} (h : i < n) : (nvals n f)[i]? = some (.int .i64 (f i)) := by simp [nvals, h]
theorem nvals_cell (n : Nat) (f : Nat → Int) : ∀ u ∈ nvals n f, u.oneCell' = true := by
  intro u hu
  obtain ⟨i, _, rfl⟩ := List.mem_map.1 hu
  rfl
theorem nvals_set {n k : Nat} (f : Nat → Int) (b : Int) (h : k < n) : (nvals n f).set k (.int .i64 b) = nvals n (fun i => if i = k then b else f i) := by
  refine List.ext_getElem (by simp [nvals]) fun i h1 h2 => ?_
  simp only [nvals, List.getElem_set, List.getElem_map, List.getElem_range]
  by_cases e : k = i
  · subst e; simp
  · rw [if_neg e, if_neg (fun h => e h.symm)]
theorem nvals_congr {n : Nat} {f g : Nat → Int} (h : ∀ i, i < n → f i = g i) : nvals n f = nvals n g := List.map_congr_left fun i hi => by rw [h i (List.mem_range.1 hi)]
/-- A new row of numbers. -/
def NumsNew (n : Nat) (f : Nat → Int) (w : World) (e : Ending) (w' : World) : Prop := ∃ v', e = .returned v' ∧ OwnR 3 1 w.heap.size w' v' n (nvals n f) ∧ Below w.heap.size w w'
theorem nums_eql (w : World) (a : Option Addr) (n c n' c' : Nat) : (binOp .eql 29 (.slice a n c) (.slice none n' c')).run Try.prog w = .ok (.bool a.isNone) w := Lib.run_eql_slice_nil w _ _ a n c n' c' Try.underlying29
set_option maxHeartbeats 1600000 in
theorem clone_n (n : Nat) (f : Nat → Int) (a : Addr) (c : Nat) (w : World) (hr : Raw w a (nvals n f)) (hn : n ≤ 100000) : Calls Try.prog 71 #[.slice (some a) n c] w (NumsNew n f w) := by
  have q22 := nums_eql
  have HR := Lib.hid hr
  have H1 := Lib.hid (nvals_cell n f)
  have HL := Lib.hid (nvals_len n f)
  clear hr
  generalize hx : nvals n f = xs at *
  have HX := Lib.hid hx
  clear hx
  go_enter Try.func71, Try.ntmps71
  go_wp2_with (at_builtin; refine push_raw nums_t rfl (.tmp 5) (.tmp 6) rfl w.heap.size _ _ _ rfl (OwnR.new w 3 1) a n c xs rfl ?h0 ?h1 H1.out ?h2 ?_)
  case h0 => rw [HL.out, Nat.mul_one]
  case h1 => exact HR.out.below ((Below.refl _ _).alloc (Nat.le_refl _) _)
  case h2 => omega
  intro v' w' ho hb
  have HO := Lib.hid ho
  have HB := Lib.hid (((Below.refl _ _).alloc (Nat.le_refl _) _).trans hb)
  clear ho hb
  go_wp2_with fail
  go_ret
  exact ⟨_, rfl, by rw [HX.out]; exact HO.out, HB.out⟩
theorem make_nums (W : World) (N : Nat) (h : N ≤ 300) : (Instr.makeSlice 29 (.int .i64 (N : Int)) (.int .i64 (N : Int))).run Try.prog W = .ok (.slice (some ⟨W.heap.size, 0, none⟩) N N) (W.alloc (.cells (madeCells #[Value.int .i64 0] N) 3)) := by
  have h1 := run_make_row' (P := Try.prog) 29 3 (.int .i64 0) 8 Try.underlying29 (by kernel_rfl) rfl .i64 .i64 N (by omega) (by omega) W
  exact h1
/-- How the doubling stands: the first m numbers are x. -/
structure HalfAt (w : World) (x : Int) (g N m : Nat) (wr : World) : Prop where
  own : wr.ownsRow w.heap.size 3 1 (.slice (some ⟨g, 0, none⟩) N N) N (nvals N (fun i => if i < m then x else 0))
  below : Below w.heap.size w wr
theorem half_take {N m k : Nat} (x : Int) (h : m + k ≤ N) : (nvals N (fun i => if i < m then x else 0)).take m ++ nvals k (fun _ => x) ++ (nvals N (fun i => if i < m then x else 0)).drop (m + k) = nvals N (fun i => if i < m + k then x else 0) := by
  refine List.ext_getElem (by simp [nvals]; omega) fun i h1 h2 => ?_
  simp only [nvals, List.length_map, List.length_range] at h2
  rw [List.getElem_append]
  split
  · rename_i h3
    rw [List.getElem_append]
    split
    · rename_i h4
      simp only [nvals, List.length_take, List.length_map, List.length_range] at h4
      simp only [nvals, List.getElem_take, List.getElem_map, List.getElem_range]
      rw [if_pos (by omega), if_pos (by omega)]
    · rename_i h4
      simp only [nvals, List.length_append, List.length_take, List.length_map, List.length_range] at h3 h4
      simp only [nvals, List.getElem_map, List.getElem_range]
      rw [if_pos (by omega)]
  · rename_i h3
    simp only [nvals, List.length_append, List.length_take, List.length_map, List.length_range] at h3
    simp only [nvals, List.getElem_drop, List.getElem_map, List.getElem_range, List.length_append, List.length_take, List.length_map, List.length_range]
    rw [if_neg (by omega), if_neg (by omega)]
/-- A copy within the row: what it does, and how the row stands then. -/
theorem HalfAt.copy {w : World} {x : Int} {g N m : Nat} {wr : World} (h : HalfAt w x g N m wr) (hm : m ≤ N) (k dLen dCap : Nat) (a : Addr) (sLen sCap : Nat) (hk : Nat.min sLen dLen = k) (hmk : m + k ≤ N)
    (hsrc : ∀ j v, (nvals k (fun _ => x))[j]? = some v → wr.cell? (a.add j) = some v) :
    (∀ ty, (Builtin.copy_ #[29, 29] ty #[.slice (some ⟨g, m, none⟩) dLen dCap, .slice (some a) sLen sCap]).run Try.prog wr = .ok (goInt k) (wr.setCells g m (nvals k (fun _ => x)))) ∧ HalfAt w x g N (m + k) (wr.setCells g m (nvals k (fun _ => x))) := by
  have hg := own_cap h.own
  have h1 := own_copy nums_t h.own m dLen dCap a sLen sCap k (nvals k (fun _ => x)) hk (by rw [nvals_len, Nat.mul_one]) hsrc (nvals_cell _ _) (by rw [nvals_len, nvals_len]; exact hmk)
  refine ⟨h1.1, ⟨?_, below_wipe hg.2.2.1 _ _ _ h.below⟩⟩
  have h2 := h1.2.1
  rw [nvals_len, half_take x hmk] at h2
  exact h2
theorem u64_in {x : Nat} (h : x < 18446744073709551616) : IntKind.u64.wrap (x : Int) = (x : Int) := by
  show ((x : Int) % 18446744073709551616) = x
  omega
set_option maxRecDepth 100000 in
set_option maxHeartbeats 1600000 in
theorem repeat_n (x : Int) (a : Addr) (c : Nat) (w : World) (N : Nat) (hr : Raw w a [.int .i64 x]) (h1 : 1 ≤ N) (h2 : N ≤ 300) : Calls Try.prog 59 #[.slice (some a) 1 c, .int .i64 (N : Int)] w (NumsNew N (fun _ => x) w) := by
  have hmk := make_nums w N h2
  have HM := Lib.hid ((Try.bits_Mul 1 N (by decide) (by omega) w).mono fun _ _ h => (⟨h.1, h.2.symm⟩ : _ ∧ w = _))
  have hd0 : 1 * N / 18446744073709551616 = 0 := by omega
  have hd1 : 1 * N % 18446744073709551616 = N := by omega
  rw [hd0, hd1] at HM
  have hX0 : Hid (HalfAt w x w.heap.size N 0 (w.alloc (.cells (madeCells #[Value.int .i64 0] N) 3))) := Lib.hid ⟨by
    have h3 := World.ownsRow_lit (base := w.heap.size) (e := 3) (size := 1) w (madeCells #[Value.int .i64 0] N) N (Nat.le_refl _) (by unfold maxLen; omega) (by simp [madeCells])
    have e : (madeCells #[Value.int .i64 0] N).toList = nvals N (fun i => if i < 0 then x else 0) := by
      refine List.ext_getElem (by simp [madeCells, nvals]) fun i _ _ => ?_
      simp [madeCells, nvals, Nat.mod_one]
    rw [e] at h3
    exact h3, (Below.refl _ _).alloc (Nat.le_refl _) _⟩
  have n0 : (0 : Int) ≤ (N : Int) := Int.natCast_nonneg _
  have n1 : decide ((N : Int) < 0) = false := decide_eq_false (by omega)
  have n2 : decide ((9223372036854775807 : Int) < (N : Int)) = false := decide_eq_false (by omega)
  have n3 : IntKind.u64.wrap (N : Int) = (N : Int) := u64_in (by omega)
  have n4 : IntKind.i64.wrap (N : Int) = (N : Int) := IntWalk.i64_in _ (by omega)
  have hC1 := hX0.out.copy (Nat.zero_le _) 1 N N a 1 c (by simp only [Nat.min_def]; split <;> omega) (by omega) (fun j v hv => by
    have hj : j = 0 := by
      have := (List.getElem?_eq_some_iff.1 hv).1
      rw [nvals_len] at this
      omega
    subst hj
    rw [nvals_at _ (by omega)] at hv
    obtain ⟨q1, q2⟩ := hr 0 _ rfl
    rw [← hv]
    exact (((Below.refl w.heap.size w).alloc (Nat.le_refl _) _).cell (by rw [add_block]; exact q1)).trans q2)
  have HC1 := Lib.hid hC1.1
  have HX1 := Lib.hid hC1.2
  obtain ⟨g, hg⟩ : ∃ g, g = w.heap.size := ⟨_, rfl⟩
  rw [← hg] at HC1 HX1 hmk
  have hga : N = 0 ∨ g ≠ a.block ∧ True := .inr ⟨by have := (hr 0 _ rfl).1; omega, trivial⟩
  clear hd0 hd1 hX0 hC1 hr hga hg
  generalize hW0 : w.alloc (.cells (madeCells #[Value.int .i64 0] N) 3) = W0 at *
  generalize hW1 : W0.setCells g 0 (nvals 1 (fun _ => x)) = W1 at *
  clear hW0 hW1
  go_enter Try.func59, Try.ntmps59
  go_wp2_with (first
    | (go_at_call 70; refine HM.out.mono ?_; rintro e w1 ⟨rfl, rfl⟩)
    | (refine wpList_copy_run rfl (.tmp 31) (.tmp 32) _ _ rfl _ _ rfl rfl (HC1.out _) ?_))
  go_loopw [8] (fun i wr => ∃ m : Nat, i = .int .i64 m ∧ 1 ≤ m ∧ m ≤ N ∧ Hid (HalfAt w x g N m wr)) (fun i _ => N - (intOf i).toNat)
  case atStart => exact ⟨1, rfl, Nat.le_refl _, h1, HX1⟩
  case round =>
    obtain ⟨m, rfl, hm1, hm2, HX⟩ := hrel
    by_cases hlt : m < N
    · have hC2 := (show HalfAt w x g N m wr.drew from ⟨HX.out.own.drew, HX.out.below.drew⟩).copy hm2 (Nat.min m (N - m)) (N - m) (N - m) ⟨g, 0, none⟩ m N rfl (by simp only [Nat.min_def]; split <;> omega) (fun j v hv => by
        have hj : j < Nat.min m (N - m) := by
          have := (List.getElem?_eq_some_iff.1 hv).1
          rwa [nvals_len] at this
        have hj2 : j < m := by have := Nat.min_le_left m (N - m); simp only [Nat.min_def] at hj; split at hj <;> omega
        rw [nvals_at _ hj] at hv
        rw [add_flat, ← hv]
        have := own_at HX.out.own (nvals_at _ (show j < N by omega))
        rw [if_pos hj2] at this
        exact this)
      have HC2 := Lib.hid hC2.1
      have HX2 := Lib.hid hC2.2
      clear hC2
      have hk : Nat.min m (N - m) ≤ N - m ∧ 1 ≤ Nat.min m (N - m) := by simp only [Nat.min_def]; split <;> omega
      generalize Nat.min m (N - m) = k at *
      generalize wr.drew.setCells g m (nvals k (fun _ => x)) = W2 at *
      have k0 : (0 : Int) ≤ (m : Int) := Int.natCast_nonneg _
      have k1 : (m : Int) < (N : Int) := by omega
      have k2 : ¬ N = m := by omega
      go_wp2_with fail
      go_region_law (refine step_copy_run rfl (.tmp 41) (.tmp 44) 29 29 rfl _ _ (by simp [Act.eval, Act.put]) (by simp [Act.eval, Act.put]) (HC2.out _) ?_)
      have k3 : IntKind.i64.wrap ((m : Int) + (k : Int)) = ((m + k : Nat) : Int) := by rw [IntWalk.i64_in _ (by omega)]; omega
      simp [Act.put, k3]
      go_wp2_with fail
      exact ⟨⟨m + k, by go_num, by omega, by omega, HX2.out⟩, by simp [intOf] <;> omega⟩
    · obtain rfl : m = N := by omega
      have HE : Hid (nvals m (fun i => if i < m then x else 0) = nvals m (fun _ => x)) := Lib.hid (nvals_congr fun i hi => if_pos hi)
      go_wp2_with fail
      go_ret
      refine ⟨_, rfl, ⟨by rw [← HE.out]; exact HX.out.own, by simp, HX.out.below.size⟩, HX.out.below⟩
end Go.Proofs.Ytkaepadkdohmpaa.TwnWalk
namespace Go.Proofs.Ytkaepadkdohmpaa.TwnWalk
open Go.RowKit Go.Proofs.Ytkaepadkdohmpaa.SubPlain Go.Proofs.Ytkaepadkdohmpaa.ApiPlain Go.Proofs.Ytkaepadkdohmpaa.TwnPlain Go.Proofs.Ytkaepadkdohmpaa.Mem Go.Proofs.Ytkaepadkdohmpaa.ApiMem Go.Proofs.Ytkaepadkdohmpaa.SubRef Go.Proofs.Ytkaepadkdohmpaa.TwnRef Go.Proofs.Ytkaepadkdohmpaa.SubWalk
/-- What is least if one more item may be taken. -/
def withN (f : Nat → Int) (x : Nat) (p : Int) (i : Nat) : Int := if x ≤ i then min (f i) (f (i - x) + p) else f i
/-- The same, up to k. -/
def mixN (f : Nat → Int) (x : Nat) (p : Int) (k : Nat) (i : Nat) : Int := if i < k then withN f x p i else f i
theorem mixN_zero (f : Nat → Int) (x : Nat) (p : Int) (i : Nat) : mixN f x p x i = f i := by
  unfold mixN withN
  by_cases h : i < x
  · rw [if_pos h, if_neg (by omega)]
  · rw [if_neg h]
theorem mixN_succ {f : Nat → Int} {x k : Nat} {p : Int} (h : x ≤ k) (i : Nat) : (if i = k then min (f k) (f (k - x) + p) else mixN f x p k i) = mixN f x p (k + 1) i := by
  unfold mixN withN
  by_cases e : i = k
  · subst e; rw [if_pos rfl, if_pos (by omega), if_pos h]
  · rw [if_neg e]
    by_cases h2 : i < k
    · rw [if_pos h2, if_pos (show i < k + 1 by omega)]
    · rw [if_neg h2, if_neg (show ¬ i < k + 1 by omega)]
theorem mixN_end {f : Nat → Int} {x k n : Nat} {p : Int} (h : n ≤ k) : nvals n (mixN f x p k) = nvals n (withN f x p) := nvals_congr fun i hi => by unfold mixN; rw [if_pos (by omega)]
theorem raw_nums {n : Nat} {f : Nat → Int} {w : World} {a : Addr} (h : Cells w (some a) n (fun i => .int .i64 (f i))) : Raw w a (nvals n f) := by
  intro j u hu
  have hj : j < n := by have := (List.getElem?_eq_some_iff.1 hu).1; rwa [nvals_len] at this
  rw [nvals_at f hj] at hu
  injection hu with hu
  subst hu
  obtain ⟨a2, e, hl, hc⟩ := h j hj
  injection e with e
  subst e
  exact ⟨hl, hc⟩
/-- How the loop stands. -/
structure LessAt (w : World) (n : Nat) (f : Nat → Int) (x : Nat) (p : Int) (k : Nat) (v : Value) (wr : World) : Prop where
  own : OwnR 3 1 w.heap.size wr v n (nvals n (mixN f x p k))
  below : Below w.heap.size w wr
theorem LessAt.next {w wr : World} {n g c x k : Nat} {p : Int} {f : Nat → Int} (h : LessAt w n f x p k (.slice (some ⟨g, 0, none⟩) n c) wr) (hx : x ≤ k) (hk : k < n) (hg : w.heap.size ≤ g) {w' : World} (hb : Below wr.heap.size wr w') (b : Int) (hm : b = min (f k) (f (k - x) + p)) : LessAt w n f x p (k + 1) (.slice (some ⟨g, 0, none⟩) n c) (w'.setCell ⟨g, k, none⟩ (.int .i64 b)) :=
  ⟨((h.own.below hb).set k (.int .i64 b)).cast rfl (by rw [nvals_set _ _ hk]; exact nvals_congr fun i _ => by rw [hm]; exact mixN_succ hx i), (h.below.trans (hb.mono h.below.size)).setCell hg _⟩
set_option maxRecDepth 100000 in
set_option maxHeartbeats 1600000 in
theorem with_n (n : Nat) (f : Nat → Int) (x : Nat) (gl : Bool) (a : Addr) (c : Nat) (w : World) (hr : Raw w a (nvals n f)) (hn : n ≤ 257) (hx : x ≤ 256) (hf : ∀ i, 0 ≤ f i ∧ f i ≤ 257) (hp : 0 ≤ partI ⟨x, gl⟩ ∧ partI ⟨x, gl⟩ ≤ 256) : Calls Try.prog 60 #[.slice (some a) n c, .agg #[.int .i64 x, .bool gl]] w (NumsNew n (withN f x (partI ⟨x, gl⟩)) w) := by
  have CP := Lib.hid (part_i x gl)
  generalize partI ⟨x, gl⟩ = p at *
  obtain ⟨p1, p2⟩ := hp
  obtain ⟨bx, hbx⟩ : ∃ n, n = w.heap.size := ⟨_, rfl⟩
  have HBX := Lib.hid (ItmBox.new_at hbx.symm ⟨x, gl⟩ 42)
  have HBB := Lib.hid ((Below.refl w.heap.size w).alloc (Nat.le_refl _) (.cells #[.int .i64 x, .bool gl] 42))
  have hab : n = 0 ∨ a.block < bx := by
    by_cases h : n = 0
    · exact .inl h
    · right; rw [hbx]; exact (hr 0 _ (nvals_at f (by omega))).1
  have HR := Lib.hid (hr.below HBB.out)
  have HF := Lib.hid hf
  clear hr hf
  go_enter Try.func60, Try.ntmps60
  go_upto_region 1 with fail
  rw [← hbx]
  have HBXW : Hid (bx = w.heap.size) := Lib.hid hbx
  clear hbx
  generalize w.alloc (.cells #[.int .i64 x, .bool gl] 42) = W at *
  have CC := Lib.hid (clone_n n f a c W HR.out (by omega))
  go_upto_region 2 with (go_at_call 71; refine CC.out.mono ?_; rintro e w1 ⟨v1, rfl, ho1, hb1⟩)
  have HM1 : Hid (LessAt W n f x p x v1 w1) := Lib.hid ⟨ho1.cast rfl (nvals_congr fun i _ => (mixN_zero f x p i).symm), hb1⟩
  obtain ⟨g, cg, rfl, hg, _⟩ := ho1.form
  have HG := Lib.hid hg
  have hbxl := HBX.out.lt
  obtain ⟨b0, b1, b2, b3, b4⟩ := HBX.out.below hb1
  have hgb : bx < g := by omega
  clear ho1 hb1 hg
  dsimp only at b1 b2
  go_wp2_with fail
  clear b0 b1 b2 b3 b4
  go_loopw [6] (fun i wr => ∃ k : Nat, i = .int .i64 k ∧ x ≤ k ∧ k ≤ 257 ∧ Hid (LessAt W n f x p k (.slice (some ⟨g, 0, none⟩) n cg) wr)) (fun i _ => n - (intOf i).toNat)
  case atStart => exact ⟨x, rfl, Nat.le_refl _, by omega, HM1.out⟩
  case round =>
    clear HM1
    obtain ⟨k, rfl, hxk, hk, HM⟩ := hrel
    by_cases hlt : k < n
    · obtain ⟨g2, c2, e2, _, hg2, hn2, _, hraw2, hf2⟩ := HM.out.own.form
      injection e2 with e2 _ e3
      injection e2 with e2
      injection e2 with e2
      subst e2
      subst e3
      have hal : a.block < bx := by omega
      have hgl : g < wr.heap.size := (hraw2 0 _ (nvals_at _ (by omega))).1
      obtain ⟨b0, b1, b2, b3, b4⟩ := HBX.out.below HM.out.below
      dsimp only at b1 b2
      have k0 : (0 : Int) ≤ (k : Int) := Int.natCast_nonneg _
      have k1 : (k : Int) < (n : Int) := by omega
      have k2 : (x : Int) ≤ (k : Int) := by omega
      have e1 : wr.drew.cell? (a.add k) = some (.int .i64 (f k)) := (HR.out.below HM.out.below k _ (nvals_at f hlt)).2
      have e2 : wr.drew.cell? (a.add (k - x)) = some (.int .i64 (f (k - x))) := (HR.out.below HM.out.below (k - x) _ (nvals_at f (by omega))).2
      have e3 : wr.drew.cell? ⟨g, k, none⟩ = some (.int .i64 (mixN f x p k k)) := by
        have := (hraw2 k _ (nvals_at _ hlt)).2
        rwa [add_flat] at this
      have e4 : wr.drew.frozen? ⟨g, k, none⟩ = false := hf2 k
      have e5 : wr.drew.cell? ⟨bx, 0, none⟩ = some (.int .i64 x) := b1
      have e6 : wr.drew.cell? ⟨bx, 1, none⟩ = some (.bool gl) := b2
      have hac : a.block < wr.drew.heap.size := by show a.block < wr.heap.size; omega
      have hbc : bx < wr.drew.heap.size := b0
      have hgc : g < wr.drew.heap.size := hgl
      have ht : ((k : Int) - (x : Int)).toNat = k - x := by omega
      have ht2 : IntKind.i64.wrap ((k : Int) - (x : Int)) = (k : Int) - (x : Int) := IntWalk.i64_in _ (by omega)
      have ht3 : 0 ≤ (k : Int) - (x : Int) := by omega
      have ht4 : (k : Int) - (x : Int) < (n : Int) := by omega
      have hfk := HF.out k
      have hfx := HF.out (k - x)
      have HN := Lib.hid (fun w' hb b hm => HM.out.next (w' := w') hxk hlt HG.out hb b hm)
      have hne1 : (⟨g, k, none⟩ : Addr) ≠ a.add k := fun h => by have := congrArg Addr.block h; rw [add_block] at this; simp only at this; omega
      have hne2 : (⟨g, k, none⟩ : Addr) ≠ a.add (k - x) := fun h => by have := congrArg Addr.block h; rw [add_block] at this; simp only at this; omega
      have hne3 : (⟨g, k, none⟩ : Addr) ≠ ⟨bx, 0, none⟩ := fun h => by have := congrArg Addr.block h; simp only at this; omega
      have hne4 : (⟨g, k, none⟩ : Addr) ≠ ⟨bx, 1, none⟩ := fun h => by have := congrArg Addr.block h; simp only at this; omega
      clear hraw2 hf2 HM b0 b1 b2 b3 b4
      generalize f (k - x) = y2 at *
      generalize f k = y1 at *
      have ht5 : IntKind.i64.wrap (y2 + p) = y2 + p := IntWalk.i64_in _ (by omega)
      go_wp2_with fail
      go_region_held3 (fun w' => w'.cell? (a.add k) = some (.int .i64 y1) ∧ w'.cell? (a.add (k - x)) = some (.int .i64 y2) ∧ w'.cell? ⟨bx, 0, none⟩ = some (.int .i64 x) ∧ w'.cell? ⟨bx, 1, none⟩ = some (.bool gl))
        (first | go_keep | (go_split_ands; exact ⟨(World.cell?_setCell_other _ _ _ _ hne1).trans (by assumption), (World.cell?_setCell_other _ _ _ _ hne2).trans (by assumption), (World.cell?_setCell_other _ _ _ _ hne3).trans (by assumption), (World.cell?_setCell_other _ _ _ _ hne4).trans (by assumption)⟩) | (go_split_ands; exact ⟨(hb5.cell (p := a.add k) (by rw [add_block]; exact hac)).trans (by assumption), (hb5.cell (p := a.add (k - x)) (by rw [add_block]; exact hac)).trans (by assumption), (hb5.cell (p := ⟨bx, 0, none⟩) hbc).trans (by assumption), (hb5.cell (p := ⟨bx, 1, none⟩) hbc).trans (by assumption)⟩))
        ((go_at_call 36; refine (CP.out _).mono ?_; rintro e w5 ⟨rfl, hb5⟩; have q3 := (hb5.cell (p := ⟨g, k, none⟩) hgc).trans e3; have q4 := (hb5.frozen (p := ⟨g, k, none⟩) hgc).trans e4))
      have HN2 := Lib.hid (HN.out w5 (below_of_drew hb5) (if y2 + p < y1 then y2 + p else y1) (by split <;> omega))
      clear hb5 q3 q4 HN
      have hmn : min y1 (y2 + p) = (if y2 + p < y1 then y2 + p else y1) := by rw [Int.min_def]; split <;> split <;> omega
      try rw [hmn]
      clear hmn
      generalize (if y2 + p < y1 then y2 + p else y1) = y at *
      go_wp2_with fail
      exact ⟨⟨k + 1, by go_num, by omega, by omega, HN2.out⟩, by simp [intOf] <;> omega⟩
    · have HE : Hid (nvals n (mixN f x p k) = nvals n (withN f x p)) := mixN_end (by omega)
      go_wp2_with fail
      go_ret
      exact ⟨_, rfl, by rw [← HE.out]; exact ⟨(HM.out.own.toN.rebase HBB.out.size).1, HM.out.own.2.1, Nat.le_trans HBB.out.size HM.out.own.2.2⟩, below_then HBB.out HM.out.below⟩
end Go.Proofs.Ytkaepadkdohmpaa.TwnWalk
namespace Go.Proofs.Ytkaepadkdohmpaa.TwnWalk
open Go.RowKit Go.Proofs.Ytkaepadkdohmpaa.SubPlain Go.Proofs.Ytkaepadkdohmpaa.ApiPlain Go.Proofs.Ytkaepadkdohmpaa.TwnPlain Go.Proofs.Ytkaepadkdohmpaa.Mem Go.Proofs.Ytkaepadkdohmpaa.ApiMem Go.Proofs.Ytkaepadkdohmpaa.SubRef Go.Proofs.Ytkaepadkdohmpaa.TwnRef Go.Proofs.Ytkaepadkdohmpaa.SubWalk
theorem make_rows_n (W : World) (N : Nat) (h : N ≤ 64) : (Instr.makeSlice 73 (.int .i64 ((N : Int) + 1)) (.int .i64 ((N : Int) + 1))).run Try.prog W = .ok (.slice (some ⟨W.heap.size, 0, none⟩) (N + 1) (N + 1)) (W.alloc (.cells (madeCells #[Value.slice none 0 0] (N + 1)) 29)) := by
  have h1 := run_make_row' (P := Try.prog) 73 29 (.slice none 0 0) 24 Try.underlying73 (by kernel_rfl) rfl .i64 .i64 (N + 1) (by omega) (by omega) W
  exact h1
theorem row_below_n {w w' : World} {b n : Nat} {t : TypeId} {f : Nat → Value} (h : w.rowIs b t n f) (hb : Below w.heap.size w w') : w'.rowIs b t n f := h.of_block (hb.block b h.lt)
/-- One place's numbers, in a row of their own. -/
def RowOfN (l : List Itm) (R g i : Nat) (v : Value) (wr : World) : Prop := ∃ b c, v = .slice (some ⟨b, 0, none⟩) (R + 1) c ∧ R + 1 ≤ c ∧ g < b ∧ b < wr.heap.size ∧ Raw wr ⟨b, 0, none⟩ (nvals (R + 1) (lstF l i))
theorem RowOfN.below {l : List Itm} {R g i : Nat} {v : Value} {wr w' : World} (h : RowOfN l R g i v wr) (hb : Below wr.heap.size wr w') : RowOfN l R g i v w' := by
  obtain ⟨b, c, e, hc, hg, hl, hr⟩ := h
  exact ⟨b, c, e, hc, hg, Nat.lt_of_lt_of_le hl hb.size, hr.below hb⟩
theorem RowOfN.set {l : List Itm} {R g i : Nat} {v : Value} {wr : World} (h : RowOfN l R g i v wr) (j : Nat) (u : Value) : RowOfN l R g i v (wr.setCell ⟨g, j, none⟩ u) := by
  obtain ⟨b, c, e, hc, hg, hl, hr⟩ := h
  have hblk : (wr.setCell ⟨g, j, none⟩ u).heap[b]? = wr.heap[b]? := Below.heap_setCell wr ⟨g, j, none⟩ u b (by show b ≠ g; omega)
  exact ⟨b, c, e, hc, hg, by simp [World.setCell]; exact hl, fun q x hx => by
    rw [add_flat]
    have := hr q x hx
    rw [add_flat] at this
    exact ⟨by simp [World.setCell]; exact hl, (World.cell?_of_block (a := ⟨b, q, none⟩) hblk).trans this.2⟩⟩
/-- The rows from place k on. -/
structure RowsAtN (l : List Itm) (R : Nat) (w : World) (g k : Nat) (F : Nat → Value) (wr : World) : Prop where
  row : wr.rowIs g 29 (l.length + 1) F
  rows : ∀ i, k ≤ i → i ≤ l.length → RowOfN l R g i (F i) wr
  base : w.heap.size ≤ g
  below : Below w.heap.size w wr
theorem RowsAtN.calls {l : List Itm} {R : Nat} {w : World} {g k : Nat} {F : Nat → Value} {wr w' : World} (h : RowsAtN l R w g k F wr) (hb : Below wr.heap.size wr w') : RowsAtN l R w g k F w' :=
  ⟨row_below_n h.row hb, fun i h1 h2 => (h.rows i h1 h2).below hb, h.base, h.below.trans (hb.mono h.below.size)⟩
theorem RowsAtN.drewN {l : List Itm} {R : Nat} {w : World} {g k : Nat} {F : Nat → Value} {wr : World} (h : RowsAtN l R w g k F wr) (q : Nat) : RowsAtN l R w g k F (wr.drewN q) :=
  h.calls (below_drewN (Below.refl _ _) q)
theorem RowsAtN.next {l : List Itm} {R : Nat} {w : World} {g k : Nat} {F : Nat → Value} {wr : World} (h : RowsAtN l R w g (k + 1) F wr) {v : Value} (hv : RowOfN l R g k v wr) : RowsAtN l R w g k (fun j => if j = k then v else F j) (wr.setCell ⟨g, k, none⟩ v) :=
  ⟨h.row.set k v, fun i h1 h2 => by
    by_cases e : i = k
    · subst e; rw [if_pos rfl]; exact hv.set _ _
    · rw [if_neg e]; exact (h.rows i (by omega) h2).set _ _, h.base, h.below.setCell h.base _⟩
theorem from_withN {l : List Itm} {k : Nat} (h : k < l.length) {x : Nat} {gl : Bool} (hx : l[k] = ⟨(x : Int), gl⟩) (n : Nat) : nvals n (withN (lstF l (k + 1)) x (partI ⟨(x : Int), gl⟩)) = nvals n (lstF l k) := nvals_congr fun i _ => by
  rw [lstF_at h, hx]
  unfold withN
  by_cases hi : x ≤ i
  · rw [if_pos hi, if_pos (by show (x : Int) ≤ (i : Int); omega), show (Itm.mk (x : Int) gl).width.toNat = x from Int.toNat_natCast x]
  · rw [if_neg hi, if_neg (by show ¬ (x : Int) ≤ (i : Int); omega)]
def BehindN (l : List Itm) (R : Nat) (w : World) (e : Ending) (w' : World) : Prop := ∃ g F, e = .returned (.slice (some ⟨g, 0, none⟩) (l.length + 1) (l.length + 1)) ∧ RowsAtN l R w g 0 F w'
/-- The first row: nothing behind the last place. -/
theorem last_row_n {l : List Itm} {R : Nat} {w W : World} {g : Nat} {F : Nat → Value} {b c : Nat} (hr : W.rowIs g 29 (l.length + 1) F) (hg : w.heap.size ≤ g) (hgb : g < b) (hF : F l.length = .slice (some ⟨b, 0, none⟩) (R + 1) c)
    (hb : Below w.heap.size w W) {base : Nat} (hs : OwnR 3 1 base W (.slice (some ⟨b, 0, none⟩) (R + 1) c) (R + 1) (nvals (R + 1) (fun _ => 257))) : RowsAtN l R w g l.length F (W.setCell ⟨b, 0, none⟩ (.int .i64 0)) := by
  refine ⟨hr.setOther (by show g ≠ b; omega) _, fun i h1 h2 => ?_, hg, hb.setCell (by show w.heap.size ≤ b; omega) _⟩
  obtain rfl : i = l.length := by omega
  have h3 := hs.set 0 (.int .i64 0)
  rw [nvals_set _ _ (by omega)] at h3
  have e : nvals (R + 1) (fun i => if i = 0 then 0 else 257) = nvals (R + 1) (lstF l l.length) := nvals_congr fun j _ => (lstF_end (Nat.le_refl _) j).symm
  rw [e] at h3
  obtain ⟨g2, c2, e2, _, hl2, hc2, _, hraw2, _⟩ := h3.form
  injection e2 with e2 _ e3
  injection e2 with e2
  injection e2 with e2
  subst e2
  subst e3
  exact ⟨b, c, hF, hc2, hgb, hl2, hraw2⟩
theorem size_setCell_n (W : World) (p : Addr) (u : Value) : (W.setCell p u).heap.size = W.heap.size := by simp [World.setCell]
set_option maxRecDepth 100000 in
set_option maxHeartbeats 1600000 in
theorem behind_n (l : List Itm) (R : Nat) (v : Value) (w : World) (hv : ItmsAt l w v) (hw : (wsOf l).all wideB = true) (hl : l.length ≤ 64) (hR : R ≤ 256) : Calls Try.prog 35 #[v, .int .i64 R] w (BehindN l R w) := by
  obtain ⟨A, c, rfl, hc, hA⟩ := hv
  have HA := Lib.hid hA
  have HW := Lib.hid hw
  have hmk1 := make_rows_n w l.length hl
  clear hA hw
  go_enter Try.func35, Try.ntmps35
  go_upto_region 2 with fail
  have HR0 := Lib.hid (World.rowIs_made w (.slice none 0 0) (l.length + 1) 29)
  have HB0 := Lib.hid ((Below.refl w.heap.size w).alloc (Nat.le_refl _) (.cells (madeCells #[Value.slice none 0 0] (l.length + 1)) 29))
  obtain ⟨g, hg⟩ : ∃ g, g = w.heap.size := ⟨_, rfl⟩
  rw [← hg] at HR0 ⊢
  generalize w.alloc (.cells (madeCells #[Value.slice none 0 0] (l.length + 1)) 29) = W0 at *
  have HG := Lib.hid hg
  clear hmk1 hg
  have CR : Hid (Calls Try.prog 59 #[.slice (some ⟨W0.heap.size, 0, none⟩) 1 1, .int .i64 ((R : Int) + 1)] (W0.alloc (.cells #[.int .i64 257] 3)) (NumsNew (R + 1) (fun _ => 257) (W0.alloc (.cells #[.int .i64 257] 3)))) := Lib.hid (repeat_n 257 ⟨W0.heap.size, 0, none⟩ 1 (W0.alloc (.cells #[.int .i64 257] 3)) (R + 1) (Raw.alloc W0 #[.int .i64 257] 3) (by omega) (by omega))
  have hgl := HR0.out.lt
  go_upto_region 3 with (go_at_call 59; refine CR.out.mono ?_; rintro e w1 ⟨v1, rfl, ho1, hb1⟩; obtain ⟨b, cb, rfl, hgb1, _, _, _, _, _⟩ := ho1.form; have hbb : Below W0.heap.size W0 w1 := ((Below.refl W0.heap.size W0).alloc (Nat.le_refl _) _).trans (hb1.mono (by simp)); have hr1 := row_below_n HR0.out hbb; have hc1 : w1.cell? ⟨g, l.length, none⟩ = some (.slice none 0 0) := hr1.cell (by omega); have hf1 : w1.frozen? ⟨g, l.length, none⟩ = false := hr1.frozen _)
  have hg := HG.out
  have hgb : g < b := by simp at hgb1; omega
  have HR1 := Lib.hid (hr1.set l.length (.slice (some ⟨b, 0, none⟩) (R + 1) cb))
  have HO1 : Hid (OwnR 3 1 (W0.alloc (.cells #[.int .i64 257] 3)).heap.size (w1.setCell ⟨g, l.length, none⟩ (.slice (some ⟨b, 0, none⟩) (R + 1) cb)) (.slice (some ⟨b, 0, none⟩) (R + 1) cb) (R + 1) (nvals (R + 1) (fun _ => 257))) := Lib.hid ⟨(ho1.toN.set_other (p := ⟨g, l.length, none⟩) (by show g < _; simp; omega) _).1, ho1.2.1, by rw [size_setCell_n]; exact ho1.2.2⟩
  have HB1 := Lib.hid ((HB0.out.trans (hbb.mono HB0.out.size)).setCell (p := ⟨g, l.length, none⟩) (by show w.heap.size ≤ g; omega) (.slice (some ⟨b, 0, none⟩) (R + 1) cb))
  clear ho1 hb1 hbb hr1 hc1 hf1 HR0 HB0 CR hgb1
  generalize w1.setCell ⟨g, l.length, none⟩ (.slice (some ⟨b, 0, none⟩) (R + 1) cb) = W1 at *
  have hc2 : W1.cell? ⟨g, l.length, none⟩ = some (.slice (some ⟨b, 0, none⟩) (R + 1) cb) := by
    have := HR1.out.cell (i := l.length) (by omega)
    rwa [if_pos rfl] at this
  obtain ⟨b9, c9, e9, _, hbl, hnb, _, hraw9, hfz9⟩ := HO1.out.form
  injection e9 with e9 _ e8
  injection e9 with e9
  injection e9 with e9
  subst e9
  subst e8
  have hc3 : W1.cell? ⟨b, 0, none⟩ = some (.int .i64 257) := by
    have := (hraw9 0 _ (nvals_at _ (by omega))).2
    rwa [add_flat] at this
  have hf3 : W1.frozen? ⟨b, 0, none⟩ = false := hfz9 0
  have HL := Lib.hid (last_row_n HR1.out (w := w) (by omega) hgb (by rw [if_pos rfl]) HB1.out HO1.out)
  have HGL := Lib.hid hgb
  clear hg hgb HR1 HO1 HB1 hraw9 hfz9 hbl hgl
  go_upto_region 4 with fail
  clear hc2 hc3 hf3
  generalize W1.setCell ⟨b, 0, none⟩ (.int .i64 0) = W2 at *
  go_wp2_with fail
  go_loopw [6] (fun i wr => ∃ (k : Nat) (F : Nat → Value), i = .int .i64 ((k : Int) - 1) ∧ k ≤ l.length ∧ Hid (RowsAtN l R w g k F wr)) (fun i _ => (intOf i + 1).toNat)
  case atStart => exact ⟨l.length, _, rfl, Nat.le_refl _, HL.out⟩
  case round =>
    clear HL
    obtain ⟨k, F, hi, hk, HF⟩ := hrel
    cases k with
    | zero =>
      subst hi
      go_wp2_with fail
      go_ret
      exact ⟨_, _, rfl, HF.out⟩
    | succ k =>
      rw [show ((k + 1 : Nat) : Int) - 1 = (k : Int) by omega] at hi
      subst hi
      have hlt : k < l.length := by omega
      obtain ⟨ad, rfl, hat⟩ := HA.out k hlt
      obtain ⟨hla, i1, i2⟩ := hat.below HF.out.below
      obtain ⟨b1, c1, hF1, hc1, hgb1, hbl1, hraw1⟩ := HF.out.rows (k + 1) (Nat.le_refl _) (by omega)
      have hx : wideB l[k].width = true := (List.all_eq_true.1 HW.out) _ (by rw [← ws_at hlt]; exact List.getElem_mem _)
      unfold wideB at hx
      rw [Bool.and_eq_true, decide_eq_true_eq, decide_eq_true_eq] at hx
      obtain ⟨x, gl, hx2⟩ : ∃ (x : Nat) (gl : Bool), l[k] = ⟨(x : Int), gl⟩ := ⟨l[k].width.toNat, l[k].long, by rw [show ((l[k].width.toNat : Nat) : Int) = l[k].width by omega]⟩
      rw [hx2] at hx i1 i2
      dsimp only at hx i1 i2
      have hx3 : x ≤ 256 := by omega
      have hpb := part_bound (x := ⟨(x : Int), gl⟩) hx.1
      dsimp only at hpb
      have e1 : wr.drew.cell? (ad.add (k * 2)) = some (.int .i64 x) := i1
      have e1b : wr.drew.cell? ⟨(ad.add (k * 2)).block, (ad.add (k * 2)).off + 1, none⟩ = some (.bool gl) := i2
      have e2 : wr.drew.cell? ⟨g, k + 1, none⟩ = some (.slice (some ⟨b1, 0, none⟩) (R + 1) c1) := by rw [← hF1]; exact HF.out.row.cell (by omega)
      have e3 : wr.drew.cell? ⟨g, k, none⟩ = some (F k) := HF.out.row.cell (by omega)
      have e4 : wr.drew.frozen? ⟨g, k, none⟩ = false := HF.out.row.frozen _
      have e5 : IntKind.i64.wrap ((k : Int) + 1) = (k : Int) + 1 := IntWalk.i64_in _ (by omega)
      have e6 : ((k : Int) + 1).toNat = k + 1 := by omega
      have k0 : (0 : Int) ≤ (k : Int) := Int.natCast_nonneg _
      have k1 : (k : Int) < (l.length : Int) := by omega
      have k2 : (0 : Int) ≤ (k : Int) + 1 := by omega
      have k3 : (k : Int) + 1 < (l.length : Int) + 1 := by omega
      have had : (ad.add (k * 2)).block < w.heap.size := by obtain ⟨z, ez, hz⟩ := HA.out k hlt; injection ez with ez; subst ez; exact hz.lt
      have hne0 : g ≠ (ad.add (k * 2)).block := by have := HF.out.base; omega
      have hne1 : (⟨g, k, none⟩ : Addr) ≠ ad.add (k * 2) := fun h => by
        have h2 := congrArg Addr.block h
        simp only at h2
        exact hne0 h2
      have hne1b : (⟨g, k, none⟩ : Addr) ≠ ⟨(ad.add (k * 2)).block, (ad.add (k * 2)).off + 1, none⟩ := fun h => by
        have h2 := congrArg Addr.block h
        simp only at h2
        exact hne0 h2
      have hne2 : (⟨g, k, none⟩ : Addr) ≠ ⟨g, k + 1, none⟩ := fun h => by
        have h2 := congrArg Addr.off h
        simp only at h2
        omega
      have k4 : (k : Int) < (l.length : Int) + 1 := by omega
      have CW := Lib.hid (with_n (R + 1) (lstF l (k + 1)) x gl ⟨b1, 0, none⟩ c1 wr.drew hraw1 (by omega) hx3 (lstF_bound HW.out (k + 1)) (by omega))
      have HX := Lib.hid (from_withN hlt hx2 (R + 1))
      have hgl := HF.out.row.lt
      have had2 : (ad.add (k * 2)).block < wr.drew.heap.size := hla
      clear hx hx2 hraw1 hF1 hat i1 i2 hla hpb had hne0
      generalize partI ⟨(x : Int), gl⟩ = p at *
      go_wp2_with fail
      go_region_held3 (fun w' => w'.cell? (ad.add (k * 2)) = some (.int .i64 x) ∧ w'.cell? ⟨(ad.add (k * 2)).block, (ad.add (k * 2)).off + 1, none⟩ = some (.bool gl) ∧ w'.cell? ⟨g, k + 1, none⟩ = some (.slice (some ⟨b1, 0, none⟩) (R + 1) c1))
        (first | go_keep | (go_split_ands; exact ⟨(World.cell?_setCell_other _ _ _ _ hne1).trans (by assumption), (World.cell?_setCell_other _ _ _ _ hne1b).trans (by assumption), (World.cell?_setCell_other _ _ _ _ hne2).trans (by assumption)⟩) | (go_split_ands; exact ⟨(hb5.cell had2).trans (by assumption), (hb5.cell (p := ⟨(ad.add (k * 2)).block, (ad.add (k * 2)).off + 1, none⟩) had2).trans (by assumption), (hb5.cell (p := ⟨g, k + 1, none⟩) hgl).trans (by assumption)⟩))
        ((go_at_call 60; refine CW.out.mono ?_; rintro e w5 ⟨v5, rfl, ho5, hb5⟩; obtain ⟨g5, c5, rfl, hg5, hl5, hn5, _, hr5, _⟩ := ho5.form; have q3 := (hb5.cell (p := ⟨g, k, none⟩) hgl).trans e3; have q4 := (hb5.frozen (p := ⟨g, k, none⟩) hgl).trans e4))
      all_goals
        have HN : Hid (RowsAtN l R w g k (fun j => if j = k then .slice (some ⟨g5, 0, none⟩) (R + 1) c5 else F j) (w5.setCell ⟨g, k, none⟩ (.slice (some ⟨g5, 0, none⟩) (R + 1) c5))) := by
          refine ((HF.out.drewN 1).calls hb5).next ⟨g5, c5, rfl, hn5, Nat.lt_of_lt_of_le hgl hg5, hl5, ?_⟩
          rw [← HX.out]
          exact hr5
        clear ho5 hb5 q3 q4 hr5 hg5 hl5 hn5 HF
        go_wp2_with fail
        exact ⟨⟨k, _, rfl, by omega, HN.out⟩, by simp [intOf] <;> omega⟩
end Go.Proofs.Ytkaepadkdohmpaa.TwnWalk
