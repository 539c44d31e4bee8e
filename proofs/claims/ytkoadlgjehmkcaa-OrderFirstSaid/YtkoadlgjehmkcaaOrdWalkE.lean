/-
  The walks of layer 8's code: Put.
-/
import Derived.Test.YtkoadlgjehmkcaaOrdWalkD
import Derived.Deep.RegionHeld3
import Derived.Deep.RegionWith
namespace Go.Proofs.Ytkoadlgjehmkcaa.OrdWalk
open Go.RowKit Go.Lib Go.Sort Go.Proofs.Ytkoadlgjehmkcaa.JobPlain Go.Proofs.Ytkoadlgjehmkcaa.OrdPlain Go.Proofs.Ytkoadlgjehmkcaa.Mem Go.Proofs.Ytkoadlgjehmkcaa.JobMem Go.Proofs.Ytkoadlgjehmkcaa.OrdMem Go.Proofs.Ytkoadlgjehmkcaa.OrdRef
set_option maxHeartbeats 1600000 in
theorem put_fn (b : Nat) (j e : Jb) (W : World) (hb : JobBox W b j) : Calls Try.prog 22 #[jobV e, .pointer (some ⟨b, 0, none⟩)] W (BoolB (aheadB j e) W) := by
  have HX := Lib.hid (JobBox.new W e 24)
  have HJ := Lib.hid (hb.alloc (.cells #[.int .i64 e.id, .string e.user, .int .i64 e.width, .int .i64 e.est, .int .i64 e.prio, .int .i64 e.sub, .int .i64 e.state, .int .i64 e.start, .int .i64 e.fin] 24))
  have HB := Lib.hid (below_box W (.cells #[.int .i64 e.id, .string e.user, .int .i64 e.width, .int .i64 e.est, .int .i64 e.prio, .int .i64 e.sub, .int .i64 e.state, .int .i64 e.start, .int .i64 e.fin] 24))
  have HC := Lib.hid (fun W => aheadS j e W)
  clear hb
  unfold jobV jobA at *
  go_enter Try.func22, Try.ntmps22
  go_upto_region 1 with fail
  generalize W.alloc (.cells #[.int .i64 e.id, .string e.user, .int .i64 e.width, .int .i64 e.est, .int .i64 e.prio, .int .i64 e.sub, .int .i64 e.state, .int .i64 e.start, .int .i64 e.fin] 24) = W0 at *
  obtain ⟨y, y0, y1, y2, y3, y4, y5, y6, y7, y8, _, _, _, _, _, _, _, _, _⟩ := HX.out
  obtain ⟨z, z0, z1, z2, z3, z4, z5, z6, z7, z8, _, _, _, _, _, _, _, _, _⟩ := HJ.out
  generalize aheadB j e = B at *
  go_wp2_with fail
  refine (HC.out _).mono ?_
  rintro e1 w1 ⟨rfl, hb1⟩
  have HB1 := Lib.hid (below_then HB.out hb1)
  clear hb1
  go_wp2_with fail
  go_ret
  exact ⟨rfl, HB1.out⟩
theorem put_idx (l : List Jb) (j : Jb) : ∃ k : Nat, k ≤ l.length ∧ putL l j = l.take k ++ (j :: l.drop k) ∧ ((idxL l (aheadB j) = k ∧ k < l.length) ∨ (idxL l (aheadB j) = -1 ∧ k = l.length)) := by
  induction l with
  | nil => exact ⟨0, Nat.le_refl _, rfl, .inr ⟨rfl, rfl⟩⟩
  | cons e l ih =>
    by_cases h : aheadB j e = true
    · refine ⟨0, Nat.zero_le _, by unfold putL; rw [if_pos h]; rfl, .inl ⟨?_, by simp⟩⟩
      unfold idxL
      rw [List.findIdx?_cons, if_pos h]
    · obtain ⟨k, h1, h2, h3⟩ := ih
      have e1 : putL (e :: l) j = e :: putL l j := by rw [putL, if_neg h]
      have e2 : (e :: l).findIdx? (aheadB j) = (l.findIdx? (aheadB j)).map (· + 1) := by rw [List.findIdx?_cons, if_neg h]
      refine ⟨k + 1, by simpa using h1, by rw [e1, h2]; rfl, ?_⟩
      unfold idxL at h3 ⊢
      rw [e2]
      cases hf : l.findIdx? (aheadB j) with
      | none =>
        rw [hf] at h3
        rcases h3 with ⟨h3, _⟩ | ⟨_, h4⟩
        · exact absurd (show (-1 : Int) = (k : Int) from h3) (by omega)
        · exact .inr ⟨rfl, by simp [h4]⟩
      | some i =>
        rw [hf] at h3
        rcases h3 with ⟨h3, h4⟩ | ⟨h3, _⟩
        · refine .inl ⟨?_, by simpa using h4⟩
          have h3' : (i : Int) = (k : Int) := h3
          show ((i + 1 : Nat) : Int) = ((k + 1 : Nat) : Int)
          omega
        · exact absurd (show (i : Int) = -1 from h3) (by have : (0 : Int) ≤ (i : Int) := Int.natCast_nonneg _; omega)
theorem raw_take {W : World} {a : Addr} {xs ys : List Value} (h : Raw W a (xs ++ ys)) : Raw W a xs := fun i u hu => h i u (by rw [List.getElem?_append_left (List.getElem?_eq_some_iff.1 hu).1]; exact hu)
theorem raw_drop {W : World} {a : Addr} {xs ys : List Value} {n : Nat} (hn : xs.length = n) (h : Raw W a (xs ++ ys)) : Raw W (a.add n) ys := fun i u hu => by
  subst hn
  have := h (xs.length + i) u (by rw [List.getElem?_append_right (by omega), Nat.add_sub_cancel_left]; exact hu)
  rw [add_add, add_block]
  exact this
def partL (l : List Jb) (j : Jb) (k : Nat) (i : Nat) : List Jb := if i = 0 then l.take k else if i = 1 then [j] else l.drop k
def partV (l : List Jb) (a : Addr) (c k g : Nat) (i : Nat) : Value := if i = 0 then .slice (some a) k c else if i = 1 then .slice (some ⟨g, 0, none⟩) 1 1 else .slice (if c = k then some a else some (a.add (k * 9))) (l.length - k) (c - k)
theorem cat_parts (l : List Jb) (j : Jb) (k : Nat) : catTo (partL l j k) 3 = l.take k ++ (j :: l.drop k) := by
  show (([] ++ l.take k) ++ [j]) ++ l.drop k = _
  simp
theorem below_w {w W : World} (h : Below w.heap.size w W) : Below w.heap.size w W := h
theorem own_below {e : TypeId} {k B B' : Nat} {w : World} {v : Value} {n : Nat} {xs : List Value} (h : OwnR e k B w v n xs) (hb : B' ≤ B) : OwnR e k B' w v n xs := own_rebase h hb
set_option maxHeartbeats 1600000 in
theorem concat_put (l : List Jb) (j : Jb) (a : Addr) (c k B : Nat) (w W : World) (hr : Raw W a (jvals l)) (hc : l.length ≤ c) (hk : k ≤ l.length) (hl : l.length ≤ 200) (hB : Below w.heap.size w W) (T : TypeId) :
    Calls Try.prog 23 #[.slice (some ⟨W.heap.size + 1, 0, none⟩) 3 3] (((W.alloc (.cells #[.int .i64 j.id, .string j.user, .int .i64 j.width, .int .i64 j.est, .int .i64 j.prio, .int .i64 j.sub, .int .i64 j.state, .int .i64 j.start, .int .i64 j.fin] 24)).alloc (.cells #[.slice (some a) k c, .slice (some ⟨W.heap.size, 0, none⟩) 1 1, .slice (if c = k then some a else some (a.add (k * 9))) (l.length - k) (c - k)] T)).drew)
      (ConcatIs (l.take k ++ (j :: l.drop k)) w) := by
  have h1 := below_box W (.cells #[.int .i64 j.id, .string j.user, .int .i64 j.width, .int .i64 j.est, .int .i64 j.prio, .int .i64 j.sub, .int .i64 j.state, .int .i64 j.start, .int .i64 j.fin] 24)
  have h2 := below_box (W.alloc (.cells #[.int .i64 j.id, .string j.user, .int .i64 j.width, .int .i64 j.est, .int .i64 j.prio, .int .i64 j.sub, .int .i64 j.state, .int .i64 j.start, .int .i64 j.fin] 24)) (.cells #[.slice (some a) k c, .slice (some ⟨W.heap.size, 0, none⟩) 1 1, .slice (if c = k then some a else some (a.add (k * 9))) (l.length - k) (c - k)] T)
  have hbx := Boxed.new (W.alloc (.cells #[.int .i64 j.id, .string j.user, .int .i64 j.width, .int .i64 j.est, .int .i64 j.prio, .int .i64 j.sub, .int .i64 j.state, .int .i64 j.start, .int .i64 j.fin] 24)) #[.slice (some a) k c, .slice (some ⟨W.heap.size, 0, none⟩) 1 1, .slice (if c = k then some a else some (a.add (k * 9))) (l.length - k) (c - k)] T
  have hraw := Raw.alloc W (jobA j) 24
  have hs1 : (W.alloc (.cells #[.int .i64 j.id, .string j.user, .int .i64 j.width, .int .i64 j.est, .int .i64 j.prio, .int .i64 j.sub, .int .i64 j.state, .int .i64 j.start, .int .i64 j.fin] 24)).heap.size = W.heap.size + 1 := by simp
  have hr1 := hr.below h1
  have hraw1 : Raw (W.alloc (.cells #[.int .i64 j.id, .string j.user, .int .i64 j.width, .int .i64 j.est, .int .i64 j.prio, .int .i64 j.sub, .int .i64 j.state, .int .i64 j.start, .int .i64 j.fin] 24)) ⟨W.heap.size, 0, none⟩ (jvals [j]) := hraw
  generalize W.alloc (.cells #[.int .i64 j.id, .string j.user, .int .i64 j.width, .int .i64 j.est, .int .i64 j.prio, .int .i64 j.sub, .int .i64 j.state, .int .i64 j.start, .int .i64 j.fin] 24) = W1 at *
  rw [hs1] at hbx
  have hr2 := (hr1.below h2).below (Below.refl _ _).drew
  have hraw2 := (hraw1.below h2).below (Below.refl _ _).drew
  have hB2 : Below w.heap.size w (W1.alloc (.cells #[.slice (some a) k c, .slice (some ⟨W.heap.size, 0, none⟩) 1 1, .slice (if c = k then some a else some (a.add (k * 9))) (l.length - k) (c - k)] T)).drew := (below_then (below_then hB h1) h2).drew
  have hg : W.heap.size + 1 < (W1.alloc (.cells #[.slice (some a) k c, .slice (some ⟨W.heap.size, 0, none⟩) 1 1, .slice (if c = k then some a else some (a.add (k * 9))) (l.length - k) (c - k)] T)).drew.heap.size := hbx.lt
  have hc0 : ∀ i, i < 3 → (W1.alloc (.cells #[.slice (some a) k c, .slice (some ⟨W.heap.size, 0, none⟩) 1 1, .slice (if c = k then some a else some (a.add (k * 9))) (l.length - k) (c - k)] T)).drew.cell? ⟨W.heap.size + 1, i, none⟩ = some (partV l a c k W.heap.size i) := fun i hi => by
    match i, hi with
    | 0, _ => exact hbx.c 0 _ rfl
    | 1, _ => exact hbx.c 1 _ rfl
    | 2, _ => exact hbx.c 2 _ rfl
  generalize (W1.alloc (.cells #[.slice (some a) k c, .slice (some ⟨W.heap.size, 0, none⟩) 1 1, .slice (if c = k then some a else some (a.add (k * 9))) (l.length - k) (c - k)] T)).drew = W2 at *
  have lt1 : (l.take k).length = k := by rw [List.length_take]; omega
  have ld1 : (l.drop k).length = l.length - k := List.length_drop
  have ej : jvals l = jvals (l.take k) ++ jvals (l.drop k) := by rw [← jvals_append, List.take_append_drop]
  rw [ej] at hr2
  have hcat : (catTo (partL l j k) 3).length = l.length + 1 := by rw [cat_parts]; simp only [List.length_append, List.length_cons, lt1, ld1]; omega
  have C := concatS (W.heap.size + 1) (partL l j k) (partV l a c k W.heap.size) W2 hg hc0 (fun i hi => by
      match i, hi with
      | 0, _ => exact ⟨some a, c, by show Value.slice _ _ _ = Value.slice _ (l.take k).length _; rw [lt1]⟩
      | 1, _ => exact ⟨_, _, rfl⟩
      | 2, _ => exact ⟨_, _, by show Value.slice _ _ _ = Value.slice _ (l.drop k).length _; rw [ld1]⟩)
    (fun i hi => by
      match i, hi with
      | 0, _ => exact .inr ⟨a, c, by show Value.slice _ _ _ = Value.slice _ (l.take k).length _; rw [lt1], raw_take hr2⟩
      | 1, _ => exact .inr ⟨_, _, rfl, hraw2⟩
      | 2, _ =>
        show Mem.Src W2 (.slice (if c = k then some a else some (a.add (k * 9))) (l.length - k) (c - k)) (l.drop k).length (jvals (l.drop k))
        rw [ld1]
        by_cases e : c = k
        · rw [if_pos e, List.drop_eq_nil_of_le (by omega)]
          exact .inr ⟨a, _, rfl, fun i u hu => by simp [jvals] at hu⟩
        · rw [if_neg e]
          exact .inr ⟨_, _, rfl, raw_drop (by rw [jvals_len, lt1]) hr2⟩)
    (by omega) (by omega)
  refine C.mono ?_
  rintro e w' ⟨v', rfl, ho, hb⟩
  rw [cat_parts] at ho
  exact ⟨v', rfl, own_below ho hB2.size, hB2.trans (hb.mono hB2.size)⟩
set_option maxHeartbeats 1600000 in
theorem concat_nil (j : Jb) (w W : World) (hB : Below w.heap.size w W) (T : TypeId) :
    Calls Try.prog 23 #[.slice (some ⟨W.heap.size + 1, 0, none⟩) 3 3] (((W.alloc (.cells #[.int .i64 j.id, .string j.user, .int .i64 j.width, .int .i64 j.est, .int .i64 j.prio, .int .i64 j.sub, .int .i64 j.state, .int .i64 j.start, .int .i64 j.fin] 24)).alloc (.cells #[.slice none 0 0, .slice (some ⟨W.heap.size, 0, none⟩) 1 1, .slice none 0 0] T)).drew) (ConcatIs [j] w) := by
  have h1 := below_box W (.cells #[.int .i64 j.id, .string j.user, .int .i64 j.width, .int .i64 j.est, .int .i64 j.prio, .int .i64 j.sub, .int .i64 j.state, .int .i64 j.start, .int .i64 j.fin] 24)
  have h2 := below_box (W.alloc (.cells #[.int .i64 j.id, .string j.user, .int .i64 j.width, .int .i64 j.est, .int .i64 j.prio, .int .i64 j.sub, .int .i64 j.state, .int .i64 j.start, .int .i64 j.fin] 24)) (.cells #[.slice none 0 0, .slice (some ⟨W.heap.size, 0, none⟩) 1 1, .slice none 0 0] T)
  have hbx := Boxed.new (W.alloc (.cells #[.int .i64 j.id, .string j.user, .int .i64 j.width, .int .i64 j.est, .int .i64 j.prio, .int .i64 j.sub, .int .i64 j.state, .int .i64 j.start, .int .i64 j.fin] 24)) #[.slice none 0 0, .slice (some ⟨W.heap.size, 0, none⟩) 1 1, .slice none 0 0] T
  have hraw := Raw.alloc W (jobA j) 24
  have hs1 : (W.alloc (.cells #[.int .i64 j.id, .string j.user, .int .i64 j.width, .int .i64 j.est, .int .i64 j.prio, .int .i64 j.sub, .int .i64 j.state, .int .i64 j.start, .int .i64 j.fin] 24)).heap.size = W.heap.size + 1 := by simp
  have hraw1 : Raw (W.alloc (.cells #[.int .i64 j.id, .string j.user, .int .i64 j.width, .int .i64 j.est, .int .i64 j.prio, .int .i64 j.sub, .int .i64 j.state, .int .i64 j.start, .int .i64 j.fin] 24)) ⟨W.heap.size, 0, none⟩ (jvals [j]) := hraw
  generalize W.alloc (.cells #[.int .i64 j.id, .string j.user, .int .i64 j.width, .int .i64 j.est, .int .i64 j.prio, .int .i64 j.sub, .int .i64 j.state, .int .i64 j.start, .int .i64 j.fin] 24) = W1 at *
  rw [hs1] at hbx
  have hraw2 := (hraw1.below h2).below (Below.refl _ _).drew
  have hB2 : Below w.heap.size w (W1.alloc (.cells #[.slice none 0 0, .slice (some ⟨W.heap.size, 0, none⟩) 1 1, .slice none 0 0] T)).drew := (below_then (below_then hB h1) h2).drew
  have hg : W.heap.size + 1 < (W1.alloc (.cells #[.slice none 0 0, .slice (some ⟨W.heap.size, 0, none⟩) 1 1, .slice none 0 0] T)).drew.heap.size := hbx.lt
  have hc0 : ∀ i, i < 3 → (W1.alloc (.cells #[.slice none 0 0, .slice (some ⟨W.heap.size, 0, none⟩) 1 1, .slice none 0 0] T)).drew.cell? ⟨W.heap.size + 1, i, none⟩ = some ((fun i => if i = 1 then Value.slice (some ⟨W.heap.size, 0, none⟩) 1 1 else .slice none 0 0) i) := fun i hi => by
    match i, hi with
    | 0, _ => exact hbx.c 0 _ rfl
    | 1, _ => exact hbx.c 1 _ rfl
    | 2, _ => exact hbx.c 2 _ rfl
  generalize (W1.alloc (.cells #[.slice none 0 0, .slice (some ⟨W.heap.size, 0, none⟩) 1 1, .slice none 0 0] T)).drew = W2 at *
  have C := concatS (W.heap.size + 1) (fun i => if i = 1 then [j] else []) (fun i => if i = 1 then Value.slice (some ⟨W.heap.size, 0, none⟩) 1 1 else .slice none 0 0) W2 hg hc0 (fun i hi => by
      match i, hi with
      | 0, _ => exact ⟨none, 0, rfl⟩
      | 1, _ => exact ⟨_, _, rfl⟩
      | 2, _ => exact ⟨none, 0, rfl⟩)
    (fun i hi => by
      match i, hi with
      | 0, _ => exact .inl ⟨rfl, rfl, rfl⟩
      | 1, _ => exact .inr ⟨_, _, rfl, hraw2⟩
      | 2, _ => exact .inl ⟨rfl, rfl, rfl⟩)
    (by simp [catTo]) (by simp [catTo])
  refine C.mono ?_
  rintro e w' ⟨v', rfl, ho, hb⟩
  exact ⟨v', rfl, own_below ho hB2.size, hB2.trans (hb.mono hB2.size)⟩
set_option maxRecDepth 100000 in
set_option maxHeartbeats 3200000 in
theorem put_some (l : List Jb) (j : Jb) (a : Addr) (c : Nat) (w : World) (hv : JobsIs l w (.slice (some a) l.length c)) (hr : Raw w a (jvals l)) (hc : l.length ≤ c) (hl : l.length ≤ 200) : Calls Try.prog 8 #[.slice (some a) l.length c, jobV j] w (ConcatIs (putL l j) w) := by
  have eg : ∀ args w, (callFunc 22 args).run Try.prog w = .ok (.enter 22 args) w := enters_of Try.func22 (by kernel_rfl) rfl
  have hx0 := JobBox.new w j 24
  have HB0 := Lib.hid (below_box w (.cells #[.int .i64 j.id, .string j.user, .int .i64 j.width, .int .i64 j.est, .int .i64 j.prio, .int .i64 j.sub, .int .i64 j.state, .int .i64 j.start, .int .i64 j.fin] 24))
  have HT : Tells 22 #[.pointer (some ⟨w.heap.size, 0, none⟩)] (aheadB j) (w.alloc (.cells #[.int .i64 j.id, .string j.user, .int .i64 j.width, .int .i64 j.est, .int .i64 j.prio, .int .i64 j.sub, .int .i64 j.state, .int .i64 j.start, .int .i64 j.fin] 24)) := fun W e hW =>
    put_fn w.heap.size j e W (hx0.below hW)
  have C := Lib.hid (index_any 22 #[.pointer (some ⟨w.heap.size, 0, none⟩)] (aheadB j) l _ _ eg HT (hv.below HB0.out) (by omega))
  have hmf : ∀ (fn : Fn) (first cap : Array Value) (w : World), (Instr.makeFunc fn first cap).run Try.prog w = .ok (.func fn first cap) w := fun _ _ _ _ => rfl
  obtain ⟨k, hk, hput, hix⟩ := put_idx l j
  have HX0 := Lib.hid hx0
  have HPUT := Lib.hid hput
  have HIX := Lib.hid hix
  generalize idxL l (aheadB j) = X at *
  have HR := Lib.hid hr
  clear HT eg hx0 hput hix hv hr
  unfold jobV jobA
  go_enter Try.func8, Try.ntmps8
  go_upto_region 1 with fail
  generalize hW0 : w.alloc (.cells #[.int .i64 j.id, .string j.user, .int .i64 j.width, .int .i64 j.est, .int .i64 j.prio, .int .i64 j.sub, .int .i64 j.state, .int .i64 j.start, .int .i64 j.fin] 24) = W0 at *
  clear hW0
  go_wp2_with fail
  refine C.out.mono ?_
  rintro e w1 ⟨rfl, hb1⟩
  have HB1 := Lib.hid (below_then HB0.out hb1)
  have HX1 := Lib.hid (HX0.out.below hb1)
  clear hb1
  go_upto_if 10 with fail
  go_cut [5] from 11 to 12 (fun o wc => o = .int .i64 (k : Nat) ∧ w1 = wc)
  case first =>
    rcases HIX.out with ⟨rfl, hk2⟩ | ⟨rfl, rfl⟩
    · have i0 : (0 : Int) ≤ (k : Int) := Int.natCast_nonneg _
      go_wp2_with fail
      go_meet
      exact ⟨rfl, rfl⟩
    · go_wp2_with fail
      go_meet
      exact ⟨rfl, rfl⟩
  case rest =>
    obtain ⟨rfl, rfl⟩ := hcut
    go_upto_region 4 with fail
    obtain ⟨z, z0, z1, z2, z3, z4, z5, z6, z7, z8, _, _, _, _, _, _, _, _, _⟩ := HX1.out
    have hk2 : (k : Int) ≤ (l.length : Int) := by omega
    have hk3 : (k : Int) ≤ (c : Int) := by omega
    have hk0 : (0 : Int) ≤ (k : Int) := by omega
    have hlc : (l.length : Int) ≤ (c : Int) := by omega
    have HCC := Lib.hid (concat_put l j a c k 0 w w1 (HR.out.below (below_w HB1.out)) hc hk hl HB1.out 22)
    rw [← HPUT.out] at HCC
    clear HX0 HB0 HIX HPUT
    by_cases hck : c = k
    · subst hck
      have e0 : l.length - c = 0 := by omega
      rw [if_pos rfl, e0, Nat.sub_self] at HCC
      clear e0
      go_upto_region 4 with fail
      go_cut [4] (fun o wc => ConcatIs (putL l j) w (.returned o) wc)
      case first =>
        go_region_with (first | (go_at_call 23; refine HCC.out.mono ?_; rintro e w5 ⟨v5, rfl, ho5, hb5⟩; have HQ := Lib.hid (And.intro ho5 hb5); clear ho5 hb5 HCC))
        all_goals
          go_wp2_with fail
          go_meet
          exact ⟨_, rfl, HQ.out.1, HQ.out.2⟩
      case rest =>
        obtain ⟨v5, hv5, ho5, hb5⟩ := hcut
        injection hv5 with hv5
        subst hv5
        have HQ := Lib.hid (And.intro ho5 hb5)
        clear ho5 hb5
        go_wp2_with fail
        go_ret
        exact ⟨_, rfl, HQ.out.1, HQ.out.2⟩
    · rw [if_neg hck] at HCC
      go_upto_region 4 with fail
      go_cut [4] (fun o wc => ConcatIs (putL l j) w (.returned o) wc)
      case first =>
        go_region_with (first | (go_at_call 23; refine HCC.out.mono ?_; rintro e w5 ⟨v5, rfl, ho5, hb5⟩; have HQ := Lib.hid (And.intro ho5 hb5); clear ho5 hb5 HCC))
        all_goals
          go_wp2_with fail
          go_meet
          exact ⟨_, rfl, HQ.out.1, HQ.out.2⟩
      case rest =>
        obtain ⟨v5, hv5, ho5, hb5⟩ := hcut
        injection hv5 with hv5
        subst hv5
        have HQ := Lib.hid (And.intro ho5 hb5)
        clear ho5 hb5
        go_wp2_with fail
        go_ret
        exact ⟨_, rfl, HQ.out.1, HQ.out.2⟩
set_option maxRecDepth 100000 in
set_option maxHeartbeats 3200000 in
theorem put_none (j : Jb) (w : World) : Calls Try.prog 8 #[.slice none 0 0, jobV j] w (ConcatIs [j] w) := by
  have eg : ∀ args w, (callFunc 22 args).run Try.prog w = .ok (.enter 22 args) w := enters_of Try.func22 (by kernel_rfl) rfl
  have hx0 := JobBox.new w j 24
  have HB0 := Lib.hid (below_box w (.cells #[.int .i64 j.id, .string j.user, .int .i64 j.width, .int .i64 j.est, .int .i64 j.prio, .int .i64 j.sub, .int .i64 j.state, .int .i64 j.start, .int .i64 j.fin] 24))
  have HT : Tells 22 #[.pointer (some ⟨w.heap.size, 0, none⟩)] (aheadB j) (w.alloc (.cells #[.int .i64 j.id, .string j.user, .int .i64 j.width, .int .i64 j.est, .int .i64 j.prio, .int .i64 j.sub, .int .i64 j.state, .int .i64 j.start, .int .i64 j.fin] 24)) := fun W e hW =>
    put_fn w.heap.size j e W (hx0.below hW)
  have C := Lib.hid (index_any 22 #[.pointer (some ⟨w.heap.size, 0, none⟩)] (aheadB j) [] (.slice none 0 0) _ eg HT (.inl ⟨rfl, rfl⟩) (by decide))
  have e0 : idxL [] (aheadB j) = -1 := rfl
  rw [e0] at C
  have hmf : ∀ (fn : Fn) (first cap : Array Value) (w : World), (Instr.makeFunc fn first cap).run Try.prog w = .ok (.func fn first cap) w := fun _ _ _ _ => rfl
  have HX0 := Lib.hid hx0
  clear HT eg hx0 e0
  unfold jobV jobA
  go_enter Try.func8, Try.ntmps8
  go_upto_region 1 with fail
  generalize hW0 : w.alloc (.cells #[.int .i64 j.id, .string j.user, .int .i64 j.width, .int .i64 j.est, .int .i64 j.prio, .int .i64 j.sub, .int .i64 j.state, .int .i64 j.start, .int .i64 j.fin] 24) = W0 at *
  clear hW0
  go_wp2_with fail
  refine C.out.mono ?_
  rintro e w1 ⟨rfl, hb1⟩
  have HB1 := Lib.hid (below_then HB0.out hb1)
  have HX1 := Lib.hid (HX0.out.below hb1)
  clear hb1
  go_upto_region 4 with fail
  obtain ⟨z, z0, z1, z2, z3, z4, z5, z6, z7, z8, _, _, _, _, _, _, _, _, _⟩ := HX1.out
  have HCC := Lib.hid (concat_nil j w w1 HB1.out 22)
  clear HX0 HB0 C
  go_cut [4] (fun o wc => ConcatIs [j] w (.returned o) wc)
  case first =>
    go_region_with (first | (go_at_call 23; refine HCC.out.mono ?_; rintro e w5 ⟨v5, rfl, ho5, hb5⟩; have HQ := Lib.hid (And.intro ho5 hb5); clear ho5 hb5 HCC))
    all_goals
      go_wp2_with fail
      go_meet
      exact ⟨_, rfl, HQ.out.1, HQ.out.2⟩
  case rest =>
    obtain ⟨v5, hv5, ho5, hb5⟩ := hcut
    injection hv5 with hv5
    subst hv5
    have HQ := Lib.hid (And.intro ho5 hb5)
    clear ho5 hb5
    go_wp2_with fail
    go_ret
    exact ⟨_, rfl, HQ.out.1, HQ.out.2⟩
theorem putS (l : List Jb) (j : Jb) (v : Value) (w : World) (hv : JobsIs l w v) (hl : l.length ≤ 200) : Calls Try.prog 8 #[v, jobV j] w (JobsSays (putL l j) w) := by
  rcases hv with ⟨rfl, rfl⟩ | ⟨a, c, rfl, hr, hn⟩
  · refine (put_none j w).mono ?_
    rintro e w' ⟨v', rfl, ho, hb⟩
    exact ⟨v', rfl, jobs_own ho rfl, hb⟩
  · refine (put_some l j a c w (.inr ⟨a, c, rfl, hr, hn⟩) hr hn hl).mono ?_
    rintro e w' ⟨v', rfl, ho, hb⟩
    exact ⟨v', rfl, jobs_own ho rfl, hb⟩
end Go.Proofs.Ytkoadlgjehmkcaa.OrdWalk
