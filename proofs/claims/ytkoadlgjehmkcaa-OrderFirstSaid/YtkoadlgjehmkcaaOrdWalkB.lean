/-
  The walks of layer 8's code: the library's slices.IndexFunc at jobs; Place.
-/
import Derived.Test.YtkoadlgjehmkcaaOrdWalkA
import Derived.Shelf.Abstract
namespace Go.Proofs.Ytkoadlgjehmkcaa.OrdWalk
open Go.RowKit Go.Lib Go.Sort Go.Proofs.Ytkoadlgjehmkcaa.JobPlain Go.Proofs.Ytkoadlgjehmkcaa.OrdPlain Go.Proofs.Ytkoadlgjehmkcaa.Mem Go.Proofs.Ytkoadlgjehmkcaa.JobMem Go.Proofs.Ytkoadlgjehmkcaa.OrdMem Go.Proofs.Ytkoadlgjehmkcaa.OrdRef
/-- The place of the first one that is meant. -/
def idxL (l : List Jb) (p : Jb → Bool) : Int := match l.findIdx? p with | some i => i | none => -1
theorem idx_at {l : List Jb} {p : Jb → Bool} {k : Nat} (hk : k < l.length) (h : ∀ i (hi : i < l.length), i < k → p l[i] = false) (hx : p l[k] = true) : idxL l p = k := by
  unfold idxL
  have : l.findIdx? p = some k := by
    rw [List.findIdx?_eq_some_iff_getElem]
    exact ⟨hk, hx, fun i hi => by simpa using h i (by omega) hi⟩
  rw [this]
theorem idx_none {l : List Jb} {p : Jb → Bool} (h : ∀ i (hi : i < l.length), p l[i] = false) : idxL l p = -1 := by
  unfold idxL
  have : l.findIdx? p = none := by
    rw [List.findIdx?_eq_none_iff]
    intro x hx
    obtain ⟨i, hi, rfl⟩ := List.mem_iff_getElem.1 hx
    exact h i hi
  rw [this]
/-- A function value's calls tell p, in every world behind w. -/
def Tells (g : Nat) (cb : Array Value) (p : Jb → Bool) (w : World) : Prop := ∀ (W : World) (j : Jb), Below w.heap.size w W → Calls Try.prog g (#[jobV j] ++ cb) W (BoolB (p j) W)
set_option maxRecDepth 100000 in
set_option maxHeartbeats 1600000 in
theorem index_any (g : Nat) (cb : Array Value) (p : Jb → Bool) (l : List Jb) (v : Value) (w : World) (eg : ∀ args w, (callFunc g args).run Try.prog w = .ok (.enter g args) w) (hp : Tells g cb p w) (hv : JobsIs l w v) (hl : l.length ≤ 100000) :
    Calls Try.prog 21 #[v, .func (.func g) #[] cb] w (IntB (idxL l p) w) := by
  obtain ⟨A, c, rfl, hn, hA⟩ := hv.open_
  have HA := Lib.hid hA
  have HP := Lib.hid hp
  clear hA hv hp
  go_enter Try.func21, Try.ntmps21
  go_wp2_with fail
  go_loopw [8] (fun i wr => ∃ k : Nat, k ≤ l.length ∧ i = .int .i64 k ∧ Hid (Below w.heap.size w wr) ∧ Hid (∀ i (hi : i < l.length), i < k → p l[i] = false)) (fun i _ => l.length - (intOf i).toNat)
  case atStart => exact ⟨0, Nat.zero_le _, rfl, Below.refl _ _, fun _ _ h => absurd h (Nat.not_lt_zero _)⟩
  case round =>
    obtain ⟨k, hk, rfl, HB, HD⟩ := hrel
    by_cases hlt : k < l.length
    · obtain ⟨a, rfl, hat⟩ := HA.out k hlt
      obtain ⟨y, y0, y1, y2, y3, y4, y5, y6, y7, y8⟩ := hat.below HB.out
      have hlt2 : (k : Int) < (l.length : Int) := by omega
      have hkn : (0 : Int) ≤ (k : Int) := by omega
      have HF := Lib.hid (fun h => idx_at (p := p) hlt HD.out h)
      have HN : Hid (p l[k] = false → ∀ i (hi : i < l.length), i < k + 1 → p l[i] = false) := fun h i hi hi2 => by
        by_cases he : i = k
        · subst he; exact h
        · exact HD.out i hi (by omega)
      have HC := Lib.hid (HP.out wr l[k] HB.out)
      clear hat HD
      generalize l[k] = j at *
      unfold jobV jobA at HC
      cases hd : p j
      · rw [hd] at HC
        go_wp2_with (go_at_fn g; refine HC.out.mono ?_; rintro e w1 ⟨rfl, hb1⟩)
        exact ⟨⟨k + 1, by omega, by go_num, below_then HB.out hb1, HN.out hd⟩, by simp [intOf]; omega⟩
      · rw [hd] at HC
        have HE := Lib.hid (HF.out hd)
        go_wp2_with (go_at_fn g; refine HC.out.mono ?_; rintro e w1 ⟨rfl, hb1⟩)
        go_ret
        exact ⟨by rw [HE.out]; rfl, below_then HB.out hb1⟩
    · have HF := Lib.hid (idx_none (l := l) (p := p) (fun i hi => HD.out i hi (by omega)))
      go_wp2_with fail
      go_ret
      exact ⟨by rw [HF.out]; rfl, HB.out⟩
set_option maxHeartbeats 1600000 in
theorem place_fn (b : Nat) (id : Int) (j : Jb) (W : World) (hb : b < W.heap.size) (hc : W.cell? ⟨b, 0, none⟩ = some (.int .i64 id)) :
    Calls Try.prog 24 #[jobV j, .pointer (some ⟨b, 0, none⟩)] W (BoolB (j.id == id) W) := by
  have HX := Lib.hid (JobBox.new W j 24)
  have HB := Lib.hid (below_box W (.cells #[.int .i64 j.id, .string j.user, .int .i64 j.width, .int .i64 j.est, .int .i64 j.prio, .int .i64 j.sub, .int .i64 j.state, .int .i64 j.start, .int .i64 j.fin] 24))
  have hc2 : (W.alloc (.cells #[.int .i64 j.id, .string j.user, .int .i64 j.width, .int .i64 j.est, .int .i64 j.prio, .int .i64 j.sub, .int .i64 j.state, .int .i64 j.start, .int .i64 j.fin] 24)).cell? ⟨b, 0, none⟩ = some (.int .i64 id) := (HB.out.cell (p := ⟨b, 0, none⟩) hb).trans hc
  clear hc
  unfold jobV jobA
  go_enter Try.func24, Try.ntmps24
  go_upto_region 1 with fail
  generalize W.alloc (.cells #[.int .i64 j.id, .string j.user, .int .i64 j.width, .int .i64 j.est, .int .i64 j.prio, .int .i64 j.sub, .int .i64 j.state, .int .i64 j.start, .int .i64 j.fin] 24) = W0 at *
  obtain ⟨y, y0, y1, y2, y3, y4, y5, y6, y7, y8, _, _, _, _, _, _, _, _, _⟩ := HX.out
  cases hd : (j.id == id)
  · go_wp2_with fail
    go_ret
    exact ⟨by first | rfl | (rw [hd]; rfl), HB.out⟩
  · go_wp2_with fail
    go_ret
    exact ⟨by first | rfl | (rw [hd]; rfl), HB.out⟩
theorem find_idx (l : List Jb) (id : Int) : findL l id = idxL l (fun j => j.id == id) := rfl
set_option maxHeartbeats 1600000 in
theorem placeS (l : List Jb) (id : Int) (v : Value) (w : World) (hv : JobsIs l w v) (hl : l.length ≤ 200) : Calls Try.prog 12 #[v, .int .i64 id] w (IntB (findL l id) w) := by
  have HE := Lib.hid (find_idx l id)
  generalize findL l id = F at HE ⊢
  have eg : ∀ args w, (callFunc 24 args).run Try.prog w = .ok (.enter 24 args) w := enters_of Try.func24 (by kernel_rfl) rfl
  have HB := Lib.hid (below_box w (.cells #[.int .i64 id] 3))
  have hbx := (Raw.alloc w #[.int .i64 id] 3) 0 (.int .i64 id) rfl
  rw [add_flat] at hbx
  have HT : Tells 24 #[.pointer (some ⟨w.heap.size, 0, none⟩)] (fun j => j.id == id) (w.alloc (.cells #[.int .i64 id] 3)) := fun W j hW =>
    place_fn w.heap.size id j W (Nat.lt_of_lt_of_le hbx.1 hW.size) ((hW.cell (p := ⟨w.heap.size, 0, none⟩) hbx.1).trans hbx.2)
  have C := Lib.hid (index_any 24 #[.pointer (some ⟨w.heap.size, 0, none⟩)] (fun j => j.id == id) l v _ eg HT (hv.below HB.out) (by omega))
  have hmf : ∀ (fn : Fn) (first cap : Array Value) (w : World), (Instr.makeFunc fn first cap).run Try.prog w = .ok (.func fn first cap) w := fun _ _ _ _ => rfl
  rw [← HE.out] at C
  obtain ⟨A, c, rfl, _⟩ := hv.open_
  clear HE HT hbx hv eg
  go_enter Try.func12, Try.ntmps12
  go_upto_region 1 with fail
  generalize w.alloc (.cells #[.int .i64 id] 3) = W0 at *
  go_wp2_with fail
  refine C.out.mono ?_
  rintro e w1 ⟨rfl, hb1⟩
  have HB1 := Lib.hid (below_then HB.out hb1)
  clear hb1
  go_wp2_with fail
  go_ret
  exact ⟨rfl, HB1.out⟩
end Go.Proofs.Ytkoadlgjehmkcaa.OrdWalk
