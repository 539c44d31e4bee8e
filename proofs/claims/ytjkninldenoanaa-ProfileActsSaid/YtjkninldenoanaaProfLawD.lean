/-
  The walks of the statements of layer 5: the memory of ProfileActs.
-/
import Derived.Test.YtjkninldenoanaaProfLawB
namespace Go.Proofs.Ytjkninldenoanaa.ProfWalk
open Go.RowKit Go.Proofs.Ytjkninldenoanaa.SpanPlain Go.Proofs.Ytjkninldenoanaa.StepPlain Go.Proofs.Ytjkninldenoanaa.ProfPlain Go.Proofs.Ytjkninldenoanaa.Mem Go.Proofs.Ytjkninldenoanaa.SpanMem Go.Proofs.Ytjkninldenoanaa.StepMem Go.Proofs.Ytjkninldenoanaa.SpanRef Go.Proofs.Ytjkninldenoanaa.StepRef Go.Proofs.Ytjkninldenoanaa.ProfRef

theorem Is.go {S G : List Nat} {x : Prof} {w w' : World} {g : Nat} (h : Is G x w g) (hs : Still S w w') (hS : ∀ i ∈ S, i ∈ G) (hg : g ∉ S) : Is G x w' g := h.keep (hs.mono hS) (hs.block g h.lt hg)
/-- An act: what is done, busy times, a time. -/
abbrev Ac := Int × By × Int
def acCell (l : List Ac) (i : Nat) : Ac := l.getD i (0, (0, 0, 0), 0)
/-- Elements of five cells. -/
def Fives (w : World) (A : Option Addr) (l : List Ac) : Prop :=
  ∀ i, i < l.length → ∃ a, A = some a ∧ a.block < w.heap.size ∧ w.cell? (a.add (i * 5)) = some (.int .i64 (acCell l i).1) ∧ w.cell? ⟨(a.add (i * 5)).block, (a.add (i * 5)).off + 1, none⟩ = some (.int .i64 (acCell l i).2.1.1) ∧
    w.cell? ⟨(a.add (i * 5)).block, (a.add (i * 5)).off + 2, none⟩ = some (.int .i64 (acCell l i).2.1.2.1) ∧ w.cell? ⟨(a.add (i * 5)).block, (a.add (i * 5)).off + 3, none⟩ = some (.int .i64 (acCell l i).2.1.2.2) ∧
    w.cell? ⟨(a.add (i * 5)).block, (a.add (i * 5)).off + 4, none⟩ = some (.int .i64 (acCell l i).2.2)
theorem Fives.below {w w' : World} {A : Option Addr} {l : List Ac} (h : Fives w A l) (hb : Below w.heap.size w w') : Fives w' A l := fun i hi => by
  obtain ⟨a, e, hl, h1, h2, h3, h4, h5⟩ := h i hi
  have hk : (a.add (i * 5)).block < w.heap.size := by rw [add_block]; exact hl
  exact ⟨a, e, Nat.lt_of_lt_of_le hl hb.size, (hb.cell hk).trans h1, (hb.cell (p := ⟨(a.add (i * 5)).block, (a.add (i * 5)).off + 1, none⟩) hk).trans h2, (hb.cell (p := ⟨(a.add (i * 5)).block, (a.add (i * 5)).off + 2, none⟩) hk).trans h3,
    (hb.cell (p := ⟨(a.add (i * 5)).block, (a.add (i * 5)).off + 3, none⟩) hk).trans h4, (hb.cell (p := ⟨(a.add (i * 5)).block, (a.add (i * 5)).off + 4, none⟩) hk).trans h5⟩
theorem Fives.cells {w : World} {A : Option Addr} {l : List Ac} (h : Fives w A l) {k : Nat} (hk : k < l.length) : ∃ a, A = some a ∧ ∀ W, Below w.heap.size w W → W.cell? (a.add (k * 5)) = some (.int .i64 (acCell l k).1) ∧
    W.cell? ⟨(a.add (k * 5)).block, (a.add (k * 5)).off + 1, none⟩ = some (.int .i64 (acCell l k).2.1.1) ∧ W.cell? ⟨(a.add (k * 5)).block, (a.add (k * 5)).off + 2, none⟩ = some (.int .i64 (acCell l k).2.1.2.1) ∧
    W.cell? ⟨(a.add (k * 5)).block, (a.add (k * 5)).off + 3, none⟩ = some (.int .i64 (acCell l k).2.1.2.2) ∧ W.cell? ⟨(a.add (k * 5)).block, (a.add (k * 5)).off + 4, none⟩ = some (.int .i64 (acCell l k).2.2) := by
  obtain ⟨a, rfl, _⟩ := h k hk
  refine ⟨a, rfl, fun W hb => ?_⟩
  obtain ⟨a2, e, _, h1, h2, h3, h4, h5⟩ := (h.below hb) k hk
  cases e
  exact ⟨h1, h2, h3, h4, h5⟩

/-- The memory of a round: y: the document's profile (box n, its busy times u); X: the program's (block g); C: its copy (block h), and the document's (box m, v). -/
structure Bun (G : List Nat) (y X C : Prof) (u v : Value) (n m g h : Nat) (W0 W : World) : Prop where
  isX : Is G X W g
  isC : Is G C W h
  gb : ∀ i ∈ G, i < W.heap.size
  ge : ∀ i ∈ G, W0.heap.size ≤ i
  nG : n ∈ G
  gn : g ≠ n
  hn : h ≠ n
  hg : h ≠ g
  mG : m ∉ G
  box : Trio W n (.int .i64 y.p) (.int .i64 y.t) u
  busy : BusyAt G y.l W u
  old : Trio W m (.int .i64 C.p) (.int .i64 C.t) v
  obusy : BusyAt G C.l W v
  below : Below W0.heap.size W0 W
section
variable {G : List Nat} {y X C : Prof} {u v : Value} {n m g h : Nat} {W0 W W' : World}
theorem Bun.next (b : Bun G y X C u v n m g h W0 W) (hb : Below W.heap.size W W') : Bun G y X C u v n m g h W0 W' :=
  ⟨b.isX.below hb, b.isC.below hb, fun i hi => Nat.lt_of_lt_of_le (b.gb i hi) hb.size, b.ge, b.nG, b.gn, b.hn, b.hg, b.mG, b.box.below hb, b.busy.still (S := []) (Still.of_below hb) (fun _ h => by cases h), b.old.below hb,
    b.obusy.still (S := []) (Still.of_below hb) (fun _ h => by cases h), b.below.trans (hb.mono b.below.size)⟩
theorem Bun.set (b : Bun G y X C u v n m g h W0 W) {p : Addr} (hp : p.block = n) (q : Value) {y' : Prof} {u' : Value} (hbox : Trio (W.setCell p q) n (.int .i64 y'.p) (.int .i64 y'.t) u') (hbz : BusyAt G y'.l W u') : Bun G y' X C u' v n m g h W0 (W.setCell p q) := by
  have hs : Still [n] W (W.setCell p q) := Still.of_set W (by simp [hp]) q
  have hS : ∀ i ∈ [n], i ∈ G := fun i hi => by simp at hi; subst hi; exact b.nG
  have hge : ∀ i ∈ [n], W0.heap.size ≤ i := fun i hi => b.ge i (hS i hi)
  have hm : m ∉ [n] := fun e => by simp at e; exact b.mG (e ▸ b.nG)
  exact ⟨b.isX.go hs hS (by simpa using b.gn), b.isC.go hs hS (by simpa using b.hn), fun i hi => Nat.lt_of_lt_of_le (b.gb i hi) hs.size, b.ge, b.nG, b.gn, b.hn, b.hg, b.mG, hbox, hbz.still hs hS, trio_still b.old hs hm,
    b.obusy.still hs hS, below_still b.below hs hge b.below.size⟩
theorem Bun.put (b : Bun G y X C u v n m g h W0 W) {y' : Prof} {u' : Value} (hbz : BusyAt G y'.l W u') :
    Bun G y' X C u' v n m g h W0 (((W.setCell ⟨n, 0, none⟩ (.int .i64 y'.p)).setCell ⟨n, 1, none⟩ (.int .i64 y'.t)).setCell ⟨n, 2, none⟩ u') := by
  have s0 : Still [n] W (W.setCell ⟨n, 0, none⟩ (.int .i64 y'.p)) := Still.of_set W (by simp) _
  have s1 : Still [n] (W.setCell ⟨n, 0, none⟩ (.int .i64 y'.p)) ((W.setCell ⟨n, 0, none⟩ (.int .i64 y'.p)).setCell ⟨n, 1, none⟩ (.int .i64 y'.t)) := Still.of_set _ (by simp) _
  have hS : ∀ i ∈ [n], i ∈ G := fun i hi => by simp at hi; subst hi; exact b.nG
  have b1 : Bun G ⟨y'.p, y.t, y.l⟩ X C u v n m g h W0 (W.setCell ⟨n, 0, none⟩ (.int .i64 y'.p)) := b.set rfl _ (b.box.set0 _) b.busy
  have b2 : Bun G ⟨y'.p, y'.t, y.l⟩ X C u v n m g h W0 ((W.setCell ⟨n, 0, none⟩ (.int .i64 y'.p)).setCell ⟨n, 1, none⟩ (.int .i64 y'.t)) := b1.set rfl _ (b1.box.set1 _) b1.busy
  exact b2.set rfl _ (b2.box.set2 _) ((hbz.still s0 hS).still s1 hS)
theorem Bun.turn (b : Bun G y X C u v n m g h W0 W) {Y : Prof} (hi : Is G Y W' g) (hr : W.grownBy W' (some g)) : Bun G y Y C u v n m g h W0 W' := by
  have hs : Still [g] W W' := Still.of_grown hr (by simp)
  have hS : ∀ i ∈ [g], i ∈ G := fun i hi => by simp at hi; subst hi; exact b.isX.mem
  have hge : ∀ i ∈ [g], W0.heap.size ≤ i := fun i hi => b.ge i (hS i hi)
  have hm : m ∉ [g] := fun e => by simp at e; exact b.mG (e ▸ b.isX.mem)
  exact ⟨hi, b.isC.go hs hS (by simpa using b.hg), fun i hi => Nat.lt_of_lt_of_le (b.gb i hi) hs.size, b.ge, b.nG, b.gn, b.hn, b.hg, b.mG, trio_still b.box hs (by simpa using Ne.symm b.gn), b.busy.still hs hS, trio_still b.old hs hm,
    b.obusy.still hs hS, below_still b.below hs hge b.below.size⟩
end
/-- The memory at a round's beginning. -/
structure Sol (G : List Nat) (X : Prof) (u : Value) (n g : Nat) (W0 W : World) : Prop where
  isX : Is G X W g
  gb : ∀ i ∈ G, i < W.heap.size
  ge : ∀ i ∈ G, W0.heap.size ≤ i
  nG : n ∈ G
  gn : g ≠ n
  box : Trio W n (.int .i64 X.p) (.int .i64 X.t) u
  busy : BusyAt G X.l W u
  below : Below W0.heap.size W0 W
theorem Bun.sol {G : List Nat} {X C : Prof} {u v : Value} {n m g h : Nat} {W0 W : World} (b : Bun G X X C u v n m g h W0 W) : Sol G X u n g W0 W := ⟨b.isX, b.gb, b.ge, b.nG, b.gn, b.box, b.busy, b.below⟩
theorem Sol.next {G : List Nat} {X : Prof} {u : Value} {n g : Nat} {W0 W W' : World} (b : Sol G X u n g W0 W) (hb : Below W.heap.size W W') : Sol G X u n g W0 W' :=
  ⟨b.isX.below hb, fun i hi => Nat.lt_of_lt_of_le (b.gb i hi) hb.size, b.ge, b.nG, b.gn, b.box.below hb, b.busy.still (S := []) (Still.of_below hb) (fun _ h => by cases h), b.below.trans (hb.mono b.below.size)⟩
/-- Behind a copy, and the document's. -/
theorem Sol.copy {G : List Nat} {X : Prof} {u : Value} {n g h : Nat} {W0 W W1 : World} (b : Sol G X u n g W0 W) (hh : W.heap.size ≤ h) (hi : Is (h :: G) X W1 h) (hb : Below W.heap.size W W1) (T : TypeId) :
    Bun (h :: G) X X X u u n W1.heap.size g h W0 (W1.alloc (.cells #[.int .i64 X.p, .int .i64 X.t, u] T)) := by
  have hgl := b.isX.lt
  have hnl := b.box.lt
  have hal := below_alloc W1 (.cells #[.int .i64 X.p, .int .i64 X.t, u] T)
  have hbb := below_then hb hal
  have hbz : BusyAt (h :: G) X.l (W1.alloc (.cells #[.int .i64 X.p, .int .i64 X.t, u] T)) u := (b.busy.more hh).still (S := []) (Still.of_below hbb) (fun _ h => by cases h)
  refine ⟨(b.isX.more hh).below hbb, hi.below hal, fun i hi2 => ?_, fun i hi2 => ?_, List.mem_cons_of_mem _ b.nG, b.gn, by omega, by omega, fun hm => ?_, b.box.below hbb, hbz, Trio.new W1 _ _ _ T, hbz, b.below.trans (hbb.mono b.below.size)⟩
  · rcases List.mem_cons.1 hi2 with rfl | hi2
    · exact Nat.lt_of_lt_of_le hi.lt hal.size
    · exact Nat.lt_of_lt_of_le (b.gb i hi2) hbb.size
  · rcases List.mem_cons.1 hi2 with rfl | hi2
    · exact Nat.le_trans b.below.size hh
    · exact b.ge i hi2
  · rcases List.mem_cons.1 hm with hm | hm
    · have := hi.lt; omega
    · have h1 := b.gb _ hm
      have h2 := hb.size
      omega
theorem busy_set3 {G : List Nat} {n : Nat} {l : List By} {w : World} {v : Value} (h : BusyAt (n :: G) l w v) (a b c : Value) : BusyAt G l (((w.setCell ⟨n, 0, none⟩ a).setCell ⟨n, 1, none⟩ b).setCell ⟨n, 2, none⟩ c) v := by
  have hS : ∀ i ∈ [n], i ∈ n :: G := fun i hi => by simp at hi; subst hi; simp
  have h1 : BusyAt (n :: G) l (((w.setCell ⟨n, 0, none⟩ a).setCell ⟨n, 1, none⟩ b).setCell ⟨n, 2, none⟩ c) v :=
    ((h.still (S := [n]) (Still.of_set w (p := ⟨n, 0, none⟩) (by simp) a) hS).still (S := [n]) (Still.of_set _ (p := ⟨n, 1, none⟩) (by simp) b) hS).still (S := [n]) (Still.of_set _ (p := ⟨n, 2, none⟩) (by simp) c) hS
  exact ⟨h1.1, fun hl a m c e hm => h1.2 hl a m c e (List.mem_cons_of_mem _ hm)⟩
/-- The slice that Turn hands out. -/
theorem turned_busy {G : List Nat} {l m : List By} {w w' : World} {u v : Value} (hb : BusyIs m w' u) (hf : (u = v ∧ m = l) ∨ ∃ g n k, u = .slice (some ⟨g, 0, none⟩) n k ∧ w.heap.size ≤ g) (hG : ∀ i ∈ G, i < w.heap.size) (hv : BusyAt G l w v) : BusyAt G m w' u := by
  refine ⟨hb, fun hm a n c e => ?_⟩
  rcases hf with ⟨rfl, rfl⟩ | ⟨g, n2, k, e2, hg⟩
  · exact hv.2 hm a n c e
  · rw [e] at e2
    injection e2 with e2
    injection e2 with e2
    subst e2
    intro hi
    have := hG _ hi
    dsimp only at this
    omega
end Go.Proofs.Ytjkninldenoanaa.ProfWalk
