/-
  The walks of layer 8's code: compare (by the library's cmp.Compare and cmp.Or), Ahead.
-/
import Derived.Test.YtjegkddpaampmaaOrdRefA
import Derived.Test.YtjegkddpaampmaaOrdSay
import Derived.Lib.AppendIntMem
import Derived.StillTailTactics
import Derived.LoopTactic
namespace Go.Proofs.Ytjegkddpaampmaa.OrdWalk
open Go.RowKit Go.Lib Go.Sort Go.Proofs.Ytjegkddpaampmaa.JobPlain Go.Proofs.Ytjegkddpaampmaa.OrdPlain Go.Proofs.Ytjegkddpaampmaa.Mem Go.Proofs.Ytjegkddpaampmaa.JobMem Go.Proofs.Ytjegkddpaampmaa.OrdMem Go.Proofs.Ytjegkddpaampmaa.OrdRef
def cmpZ (x y : Int) : Int := if x < y then -1 else if y < x then 1 else 0
theorem cmpZ_cases (x y : Int) : (x < y ∧ cmpZ x y = -1) ∨ (y < x ∧ ¬ x < y ∧ cmpZ x y = 1) ∨ (x = y ∧ cmpZ x y = 0) := by
  unfold cmpZ
  by_cases h : x < y
  · exact .inl ⟨h, by rw [if_pos h]⟩
  · by_cases h2 : y < x
    · exact .inr (.inl ⟨h2, h, by rw [if_neg h, if_pos h2]⟩)
    · exact .inr (.inr ⟨by omega, by rw [if_neg h, if_neg h2]⟩)
set_option maxHeartbeats 400000 in
theorem compare_any (x y : Int) (w : World) : Calls Try.prog 35 #[.int .i64 x, .int .i64 y] w fun e w' => e = .returned (.int .i64 (cmpZ x y)) ∧ w' = w := by
  rcases cmpZ_cases x y with ⟨h, e⟩ | ⟨h1, h, e⟩ | ⟨h, e⟩
  · rw [e]
    clear e
    go_enter Try.func35, Try.ntmps35
    go_wp2
    go_ret
    exact ⟨rfl, rfl⟩
  · rw [e]
    clear e
    go_enter Try.func35, Try.ntmps35
    go_wp2
    go_ret
    exact ⟨rfl, rfl⟩
  · rw [e]
    clear e
    subst h
    go_enter Try.func35, Try.ntmps35
    go_wp2
    go_ret
    exact ⟨rfl, rfl⟩
/-- The first one that is not 0. -/
def orZ (x y z : Int) : Int := if x ≠ 0 then x else if y ≠ 0 then y else z
def nth3 (x y z : Int) (k : Nat) : Int := if k = 0 then x else if k = 1 then y else z
def zeros (x y z : Int) (k : Nat) : Prop := ∀ i, i < k → nth3 x y z i = 0
theorem zeros_or {x y z : Int} {k : Nat} (hk : k < 3) (h : zeros x y z k) (hn : nth3 x y z k ≠ 0) : nth3 x y z k = orZ x y z := by
  unfold orZ
  match k, hk with
  | 0, _ =>
    rw [if_pos (show x ≠ 0 from hn)]; rfl
  | 1, _ =>
    have h0 : x = 0 := h 0 (by omega)
    rw [if_neg (by simp [h0]), if_pos (show y ≠ 0 from hn)]; rfl
  | 2, _ =>
    have h0 : x = 0 := h 0 (by omega)
    have h1 : y = 0 := h 1 (by omega)
    rw [if_neg (by simp [h0]), if_neg (by simp [h1])]; rfl
theorem zeros_end {x y z : Int} (h : zeros x y z 3) : orZ x y z = 0 := by
  have h0 : x = 0 := h 0 (by omega)
  have h1 : y = 0 := h 1 (by omega)
  have h2 : z = 0 := h 2 (by omega)
  unfold orZ
  rw [if_neg (by simp [h0]), if_neg (by simp [h1]), h2]
theorem zeros_next {x y z : Int} {k : Nat} (h : zeros x y z k) (hk : nth3 x y z k = 0) : zeros x y z (k + 1) := fun i hi => by
  by_cases e : i = k
  · rw [e]; exact hk
  · exact h i (by omega)
/-- Three cells that hold these. -/
structure Three (w : World) (g : Nat) (x y z : Int) : Prop where
  lt : g < w.heap.size
  at_ : ∀ k, k < 3 → w.cell? ⟨g, k, none⟩ = some (.int .i64 (nth3 x y z k))
theorem Three.new (w : World) (x y z : Int) (T : TypeId) : Three (w.alloc (.cells #[.int .i64 x, .int .i64 y, .int .i64 z] T)) w.heap.size x y z := by
  have h := Boxed.new w #[.int .i64 x, .int .i64 y, .int .i64 z] T
  refine ⟨h.lt, fun k hk => ?_⟩
  match k, hk with
  | 0, _ => exact h.c 0 _ rfl
  | 1, _ => exact h.c 1 _ rfl
  | 2, _ => exact h.c 2 _ rfl
set_option maxHeartbeats 1600000 in
theorem or_any (g : Nat) (x y z : Int) (w : World) (H : Three w g x y z) : Calls Try.prog 69 #[.slice (some ⟨g, 0, none⟩) 3 3] w fun e w' => e = .returned (.int .i64 (orZ x y z)) ∧ w' = w := by
  have HT := Lib.hid H
  clear H
  go_enter Try.func69, Try.ntmps69
  go_wp2_with fail
  go_loop [8] (fun i => ∃ k : Nat, i = .int .i64 k ∧ k ≤ 3 ∧ Hid (zeros x y z k)) (fun i => 3 - (intOf i).toNat)
  case atStart => exact ⟨0, rfl, by omega, Lib.hid (fun i h => absurd h (by omega))⟩
  case round =>
    obtain ⟨k, rfl, hk, HZ⟩ := hrel
    by_cases hlt : k < 3
    · have i1 : (k : Int) < 3 := by omega
      have i0 : (0 : Int) ≤ (k : Int) := Int.natCast_nonneg _
      have c0 := HT.out.at_ k hlt
      have hl := HT.out.lt
      have HO : Hid (nth3 x y z k ≠ 0 → nth3 x y z k = orZ x y z) := Lib.hid (zeros_or hlt HZ.out)
      have HN : Hid (nth3 x y z k = 0 → zeros x y z (k + 1)) := Lib.hid (zeros_next HZ.out)
      generalize nth3 x y z k = v at *
      by_cases hv : v = 0
      · subst hv
        go_wp2_with fail
        exact ⟨⟨k + 1, by go_num, by omega, Lib.hid (HN.out rfl)⟩, by simp [intOf] <;> omega⟩
      · have hv2 : (v != 0) = true := by simpa using hv
        have e := HO.out hv
        clear HO HN
        have HE := Lib.hid e
        clear e
        go_wp2_with fail
        go_ret
        exact ⟨by rw [HE.out]; rfl, rfl⟩
    · have e : k = 3 := by omega
      subst e
      have HE := Lib.hid (zeros_end HZ.out)
      go_wp2_with fail
      go_ret
      exact ⟨by rw [HE.out]; rfl, rfl⟩
def cmp3 (a b : Jb) : Int := orZ (cmpZ b.prio a.prio) (cmpZ a.sub b.sub) (cmpZ a.id b.id)
theorem cmp3_ahead (a b : Jb) : decide (cmp3 a b < 0) = aheadB a b := by
  have h : cmp3 a b < 0 ↔ aheadB a b = true := by
    rw [ahead_iff]
    unfold cmp3 orZ
    rcases cmpZ_cases b.prio a.prio with ⟨h1, e1⟩ | ⟨h1, _, e1⟩ | ⟨h1, e1⟩ <;> rw [e1]
    · simp; omega
    · simp; omega
    · rcases cmpZ_cases a.sub b.sub with ⟨h2, e2⟩ | ⟨h2, _, e2⟩ | ⟨h2, e2⟩ <;> rw [e2]
      · simp; omega
      · simp; omega
      · rcases cmpZ_cases a.id b.id with ⟨h3, e3⟩ | ⟨h3, _, e3⟩ | ⟨h3, e3⟩ <;> rw [e3] <;> simp <;> omega
  cases hb : aheadB a b with
  | true => exact decide_eq_true (h.2 hb)
  | false => exact decide_eq_false (fun h2 => by rw [h.1 h2] at hb; cases hb)
def CmpGrow (n : Int) (w : World) (e : Ending) (w' : World) : Prop := e = .returned (.int .i64 n) ∧ ∃ q os', w' = grow (w.drewN q) os'
set_option maxRecDepth 100000 in
set_option maxHeartbeats 3200000 in
theorem compare_grow (a b : Jb) (w : World) : Calls Try.prog 50 #[jobV a, jobV b] w (CmpGrow (cmp3 a b) w) := by
  have HH := Lib.hid (two_boxes w a b 28)
  have HC := Lib.hid (fun x y W => compare_any x y W)
  have HG : Hid (∀ o1 o2 o3 : Obj, ∃ q os', ((w.alloc o1).alloc o2).drew.alloc o3 = grow (w.drewN q) os') := Lib.hid (fun o1 o2 o3 => ⟨1, #[o1] ++ #[o2] ++ #[o3], by
    rw [alloc_eq_grow, alloc_eq_grow, alloc_eq_grow, grow_grow, drew_grow, grow_grow]; rfl⟩)
  unfold cmp3
  unfold jobV jobA
  generalize hX : cmpZ b.prio a.prio = X
  generalize hY : cmpZ a.sub b.sub = Y
  generalize hZ : cmpZ a.id b.id = Z
  have C1 := Lib.hid (fun W => hX ▸ HC.out b.prio a.prio W)
  have C2 := Lib.hid (fun W => hY ▸ HC.out a.sub b.sub W)
  have C3 := Lib.hid (fun W => hZ ▸ HC.out a.id b.id W)
  clear hX hY hZ HC
  go_enter Try.func50, Try.ntmps50
  go_upto_region 1 with fail
  have HG2 := Lib.hid (HG.out (.cells #[.int .i64 a.id, .string a.user, .int .i64 a.width, .int .i64 a.est, .int .i64 a.prio, .int .i64 a.sub, .int .i64 a.state, .int .i64 a.start, .int .i64 a.fin] 28) (.cells #[.int .i64 b.id, .string b.user, .int .i64 b.width, .int .i64 b.est, .int .i64 b.prio, .int .i64 b.sub, .int .i64 b.state, .int .i64 b.start, .int .i64 b.fin] 28))
  clear HG
  generalize ((w.alloc (.cells #[.int .i64 a.id, .string a.user, .int .i64 a.width, .int .i64 a.est, .int .i64 a.prio, .int .i64 a.sub, .int .i64 a.state, .int .i64 a.start, .int .i64 a.fin] 28)).alloc (.cells #[.int .i64 b.id, .string b.user, .int .i64 b.width, .int .i64 b.est, .int .i64 b.prio, .int .i64 b.sub, .int .i64 b.state, .int .i64 b.start, .int .i64 b.fin] 28)) = W at *
  obtain ⟨hx, hz, hb⟩ := HH.out
  obtain ⟨y, y0, y1, y2, y3, y4, y5, y6, y7, y8, _, _, _, _, _, _, _, _, _⟩ := hx
  obtain ⟨z, z0, z1, z2, z3, z4, z5, z6, z7, z8, _, _, _, _, _, _, _, _, _⟩ := hz
  clear hb HH
  go_still_tail 15, (by kernel_rfl)
  still_call (C1.out _)
  repeat still_step
  still_call (C2.out _)
  repeat still_step
  still_call (C3.out _)
  refine wpStill_nil ?_
  change wpList _ _ _ _ _ W.drew
  have HO := Lib.hid (or_any W.drew.heap.size X Y Z _ (Three.new W.drew X Y Z 3))
  clear y y0 y1 y2 y3 y4 y5 y6 y7 y8 z z0 z1 z2 z3 z4 z5 z6 z7 z8
  go_wp2_with fail
  refine (HO.out).mono ?_
  rintro e w1 ⟨rfl, rfl⟩
  go_wp2_with fail
  go_ret
  exact ⟨rfl, HG2.out _⟩
theorem compare_below (a b : Jb) (w : World) : Calls Try.prog 50 #[jobV a, jobV b] w fun e w' => e = .returned (.int .i64 (cmp3 a b)) ∧ Below w.heap.size w w' :=
  (compare_grow a b w).mono fun e w' h => ⟨h.1, by obtain ⟨_, q, os, rfl⟩ := h; exact below_grow _ _ (Nat.le_refl _) _ _⟩
end Go.Proofs.Ytjegkddpaampmaa.OrdWalk
