/-
  The walk of the document's sum of digits.
-/
import Derived.Test.YtedpkphbpkkhbaaSatWalkC
import Derived.OwnWalk
namespace Go.Proofs.Ytedpkphbpkkhbaa.SatWalk
open Go.RowKit Go.Proofs.Ytedpkphbpkkhbaa.SatPlain Go.Proofs.Ytedpkphbpkkhbaa.Mem

def cellsOf (l : List Nat) : List Value := l.map fun d : Nat => Value.int .u64 (d : Int)
theorem cellsOf_snoc (l : List Nat) (d : Nat) : cellsOf (l ++ [d]) = cellsOf l ++ [.int .u64 (d : Int)] := by simp [cellsOf]
theorem cellsOf_at (l : List Nat) (n : Nat) (h : n = l.length) : ∀ i, i < n → (cellsOf l)[i]? = some (dcell l i) := fun i hi => by
  subst h
  simp [cellsOf, dcell, List.getD, hi]

theorem info_u64 : (Try.prog.info? 41).map (fun i => (i.zero, i.size, i.bytes)) = some (some (.int .u64 0), 1, 8) := by kernel_rfl

/-- What Plus answers of two numbers of five digits. -/
def PlusIs (a b : List Nat) (w : World) (e : Ending) (w' : World) : Prop :=
  ∃ v l, e = .returned v ∧ Reads w' v l ∧ l.length ≤ 6 ∧ dval l = dval a + dval b ∧ Below w.heap.size w w'

theorem reads_own {w : World} {base : Nat} {t : TypeId} {v : Value} {out : List Nat} (h : w.ownsRow base t 1 v out.length (cellsOf out)) (hd : Ds out) : Reads w v out := by
  rcases h.2 with ⟨rfl, h0⟩ | ⟨g, cap, cur, rfl, _⟩
  · exact ⟨none, 0, by rw [h0], by rw [h0]; exact Cells.none_, hd⟩
  · exact ⟨_, _, rfl, Cells.of_own h (cellsOf_at out _ rfl), hd⟩

/-- How the sum's loop stands. -/
def PlusAt (a b : List Nat) (w wr : World) (v : Value) (k c : Nat) : Prop :=
  ∃ out, wr.ownsRow w.heap.size 41 1 v k (cellsOf out) ∧ AddUp a b out k c ∧ Below w.heap.size w wr
theorem PlusAt.start (a b : List Nat) (w : World) : PlusAt a b w (w.alloc (.cells #[] 41)) (.slice (some ⟨w.heap.size, 0, none⟩) 0 0) 0 0 :=
  ⟨[], (World.ownsRow_made w #[] 0 (Nat.le_refl _) (by decide) rfl : (w.alloc (.cells #[] 41)).ownsRow w.heap.size 41 1 _ 0 []), AddUp.start a b, (Below.refl _ _).alloc (Nat.le_refl _) _⟩

theorem PlusAt.next {a b out : List Nat} {w wr w1 : World} {v v' : Value} {k c x y : Nat} {o : Obj} (hown : wr.ownsRow w.heap.size 41 1 v k (cellsOf out)) (hadd : AddUp a b out k c) (hbl : Below w.heap.size w wr)
    (da : Ds a) (db : Ds b) (hx : a.getD k 0 = x) (hy : b.getD k 0 = y)
    (hown' : w1.ownsRow w.heap.size 41 1 v' (k + 1) (cellsOf out ++ [.int .u64 (((c : Int) + (x : Int) + (y : Int)) % 65536)])) (hg : (wr.alloc o).grownBy w1 v.ownBlock) : PlusAt a b w w1 v' (k + 1) ((c + x + y) / 65536) := by
  subst hx
  subst hy
  refine ⟨_, ?_, hadd.next da db, (hbl.alloc hbl.size o).grown hg (by rw [size_alloc]; have := hbl.size; omega) (fun g hg => (hown.lt g hg).1)⟩
  rw [cellsOf_snoc]
  have e : (((c + a.getD k 0 + b.getD k 0) % 65536 : Nat) : Int) = ((c : Int) + (a.getD k 0 : Nat) + (b.getD k 0 : Nat)) % 65536 := by omega
  rw [e]
  exact hown'

set_option maxHeartbeats 1600000 in
theorem plus_any (v u : Value) (a b : List Nat) (w : World) (ha : Reads w v a) (hb : Reads w u b) (la : a.length = 5) (lb : b.length = 5) :
    Calls Try.prog 11 #[v, u] w (PlusIs a b w) := by
  obtain ⟨A, c, rfl, hA, da⟩ := ha
  obtain ⟨B, c', rfl, hB, db⟩ := hb
  obtain ⟨i0, hi, hz0, hz1, hz2⟩ := info_parts info_u64
  rw [la] at hA
  rw [lb] at hB
  have HA := Lib.hid hA
  have HB := Lib.hid hB
  have DA := Lib.hid da
  have DB := Lib.hid db
  have LA := Lib.hid la
  have LB := Lib.hid lb
  have HI := Lib.hid hi
  have HZ0 := Lib.hid hz0
  have HZ1 := Lib.hid hz1
  have HZ2 := Lib.hid hz2
  rw [la, lb]
  clear hA hB da db la lb hi hz0 hz1 hz2
  go_enter Try.func11, Try.ntmps11
  go_wp2_with fail
  go_loopw [5, 6, 7] (fun o q j wr => ∃ k c : Nat, q = .int .u64 c ∧ j = .int .i64 k ∧ k ≤ 6 ∧ c ≤ 1 ∧ Hid (k = 6 → c = 0) ∧ Hid (PlusAt a b w wr o k c)) (fun _ _ j _ => (6 - intOf j).toNat)
  case atStart => exact ⟨0, 0, rfl, rfl, by omega, by omega, fun _ => rfl, PlusAt.start a b w⟩
  case round =>
    obtain ⟨k, q, rfl, rfl, hk, hq, H6, HP⟩ := hrel
    have hbl : Below w.heap.size w wr := by obtain ⟨_, _, _, h⟩ := HP.out; exact h
    by_cases hlt : k < 5
    · have hlt2 : (k : Int) < 5 := by omega
      obtain ⟨ad, rfl, hla, hca⟩ := HA.out.at hlt
      obtain ⟨bd, rfl, hlb, hcb⟩ := HB.out.at hlt
      have ca : wr.cell? (ad.add k) = some (.int .u64 ((a.getD k 0 : Nat) : Int)) := (hbl.cell (by rw [add_block]; exact hla)).trans hca
      have cb : wr.cell? (bd.add k) = some (.int .u64 ((b.getD k 0 : Nat) : Int)) := (hbl.cell (by rw [add_block]; exact hlb)).trans hcb
      have hx := DA.out.getD k
      have hy := DB.out.getD k
      clear hca hcb hla hlb
      generalize hxx : a.getD k 0 = x at *
      generalize hyy : b.getD k 0 = y at *
      have HX := Lib.hid hxx
      have HY := Lib.hid hyy
      clear hxx hyy
      obtain ⟨out, hown, hadd, _⟩ := HP.out
      have HO := Lib.hid hown
      have HD := Lib.hid hadd
      clear hown hadd HP
      have hsz := hbl.size
      go_wp2_with (at_builtin; refine wpList_append_own _ rfl _ _ 24 rfl w.heap.size 41 i0 (.int .u64 0) 1 8 Try.underlying24 HI.out HZ0.out HZ1.out HZ2.out rfl (by decide) _ _ _ rfl (HO.out.alloc _) ⟨wr.heap.size, 0, none⟩ 1 1 [.int .u64 (((q : Int) + (x : Int) + (y : Int)) % 65536)] rfl rfl ?c1 ?c2 ?c3 ?c4 ?c5 ?_)
      case c1 => exact one_new wr _ _
      case c2 => exact one_cell
      case c3 => unfold maxLen; omega
      case c4 => omega
      case c5 => rw [size_alloc]; omega
      intro v' w1 hown' hgrow _
      have HO' := Lib.hid hown'
      have HG := Lib.hid hgrow
      clear hown' hgrow
      go_wp2_with fail
      exact ⟨⟨k + 1, (q + x + y) / 65536, by congr 1, by go_num, by omega, by omega, fun h => by omega, PlusAt.next HO.out HD.out hbl DA.out DB.out HX.out HY.out HO'.out HG.out⟩, by simp [intOf] <;> omega⟩
    · have hx0 : a.getD k 0 = 0 := getD_out (by rw [LA.out]; exact hlt)
      have hy0 : b.getD k 0 = 0 := getD_out (by rw [LB.out]; exact hlt)
      have HX := Lib.hid hx0
      have HY := Lib.hid hy0
      clear hx0 hy0
      have hq2 : (q = 1 ∧ k = 5) ∨ q = 0 := by
        have := H6.out
        omega
      rcases hq2 with ⟨rfl, rfl⟩ | rfl
      · obtain ⟨out, hown, hadd, _⟩ := HP.out
        have HO := Lib.hid hown
        have HD := Lib.hid hadd
        clear hown hadd HP
        have hsz := hbl.size
        go_wp2_with (at_builtin; refine wpList_append_own _ rfl _ _ 24 rfl w.heap.size 41 i0 (.int .u64 0) 1 8 Try.underlying24 HI.out HZ0.out HZ1.out HZ2.out rfl (by decide) _ _ _ rfl (HO.out.alloc _) ⟨wr.heap.size, 0, none⟩ 1 1 [.int .u64 1] rfl rfl ?c1 ?c2 ?c3 ?c4 ?c5 ?_)
        case c1 => exact one_new wr _ _
        case c2 => exact one_cell
        case c3 => decide
        case c4 => omega
        case c5 => rw [size_alloc]; omega
        intro v' w1 hown' hgrow _
        have HO' := Lib.hid hown'
        have HG := Lib.hid hgrow
        clear hown' hgrow
        go_wp2_with fail
        exact ⟨⟨6, 0, rfl, rfl, by omega, by omega, fun _ => rfl, PlusAt.next (k := 5) (c := 1) HO.out HD.out hbl DA.out DB.out HX.out HY.out HO'.out HG.out⟩, by simp [intOf] <;> omega⟩
      · go_wp2_with fail
        go_ret
        obtain ⟨out, hown, hadd, _⟩ := HP.out
        have hl := hadd.1
        subst hl
        exact ⟨_, out, rfl, reads_own hown hadd.2.1, hk, hadd.all (by rw [LA.out]; omega) (by rw [LB.out]; omega), hbl⟩
end Go.Proofs.Ytedpkphbpkkhbaa.SatWalk
