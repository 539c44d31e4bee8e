/-
  The walk of the document's product of digits.
-/
import Derived.Test.YtedpkphbpkkhbaaSatWalkB
namespace Go.Proofs.Ytedpkphbpkkhbaa.SatWalk
open Go.RowKit Go.Proofs.Ytedpkphbpkkhbaa.SatPlain Go.Proofs.Ytedpkphbpkkhbaa.Mem

/-- What Times answers of two numbers of five digits. -/
def TimesIs (a b : List Nat) (w : World) (e : Ending) (w' : World) : Prop :=
  ∃ v l, e = .returned v ∧ Reads w' v l ∧ l.length = 10 ∧ dval l = dval a * dval b ∧ Below w.heap.size w w'

theorem make_ten (w : World) : (Instr.makeSlice 24 (.int .i64 10) (.int .i64 10)).run Try.prog w = .ok (.slice (some ⟨w.heap.size, 0, none⟩) 10 10) (w.alloc (.cells (madeCells #[Value.int .u64 0] 10) 41)) := by kernel_rfl
theorem row_ten (w : World) : (w.alloc (.cells (madeCells #[Value.int .u64 0] 10) 41)).rowIs w.heap.size 41 10 (dcell (List.replicate 10 0)) :=
  (World.rowIs_made w _ 10 _).congr (fun i _ => by unfold dcell; rw [getD_replicate]; rfl)

theorem wrap_mul {x y p : Nat} (hp : p = x * y) (h : p < 18446744073709551616) : IntKind.u64.wrap ((x : Int) * (y : Int)) = (p : Int) := by
  subst hp
  rw [← Int.natCast_mul, IntKind.wrap_u64]
  omega
theorem row_set {w : World} {b i v : Nat} {t : TypeId} {out : List Nat} (h : w.rowIs b t 10 (dcell out)) (hl : out.length = 10) (hi : i < 10) :
    (w.setCell ⟨b, i, none⟩ (.int .u64 (v : Int))).rowIs b t 10 (dcell (out.set i v)) :=
  (h.set i _).congr fun j hj => by
    unfold dcell
    by_cases e : j = i
    · subst e
      rw [if_pos rfl]
      simp [List.getD, hl, hj]
    · rw [if_neg e, digit_set_ne (fun h => e h.symm)]

theorem reads_ten {w : World} {b : Nat} {t : TypeId} {out : List Nat} (h : w.rowIs b t 10 (dcell out)) (hl : out.length = 10) (hd : Ds out) : Reads w (.slice (some ⟨b, 0, none⟩) 10 10) out :=
  ⟨_, _, by rw [hl], by rw [hl]; exact Cells.of_row h, hd⟩

set_option maxHeartbeats 1600000 in
theorem times_any (v u : Value) (a b : List Nat) (w : World) (ha : Reads w v a) (hb : Reads w u b) (la : a.length = 5) (lb : b.length = 5) :
    Calls Try.prog 12 #[v, u] w (TimesIs a b w) := by
  obtain ⟨A, c, rfl, hA, da⟩ := ha
  obtain ⟨B, c', rfl, hB, db⟩ := hb
  rw [la] at hA
  rw [lb] at hB
  have HA := Lib.hid hA
  have HB := Lib.hid hB
  have DA := Lib.hid da
  have DB := Lib.hid db
  have LA := Lib.hid la
  have LB := Lib.hid lb
  have hmk := make_ten
  have HS : Hid (MulRows a b (List.replicate 10 0) 0) := by have := MulRows.start a b; rw [la, lb] at this; exact this
  rw [la, lb]
  clear hA hB da db la lb
  go_enter Try.func12, Try.ntmps12
  go_wp2_with fail
  go_loopw [6] (fun i wr => ∃ (k : Nat) (out : List Nat), i = .int .i64 k ∧ k ≤ 5 ∧ Hid (wr.rowIs w.heap.size 41 10 (dcell out)) ∧ Hid (MulRows a b out k) ∧ Below w.heap.size w wr) (fun i _ => (5 - intOf i).toNat)
  case atStart => exact ⟨0, _, rfl, by omega, row_ten w, HS, (Below.refl _ _).alloc (Nat.le_refl _) _⟩
  case round =>
    obtain ⟨i, out, rfl, hi, HR, HT, hbl⟩ := hrel
    by_cases hlt : i < 5
    · have hlt2 : (i : Int) < 5 := by omega
      obtain ⟨wo, rfl⟩ : ∃ wo : World, wo = wr := ⟨_, rfl⟩
      go_wp2_with fail
      go_loopw [7, 8] (fun q j wr => ∃ (k c : Nat) (out : List Nat), q = .int .u64 c ∧ j = .int .i64 k ∧ k ≤ 5 ∧ Hid (wr.rowIs w.heap.size 41 10 (dcell out)) ∧ Hid (MulRow a b out i k c) ∧ Below w.heap.size w wr) (fun _ j _ => (5 - intOf j).toNat)
      case atStart => exact ⟨0, 0, _, rfl, rfl, by omega, HR, HT.out.row, hbl⟩
      case round =>
        clear HR HT hbl
        obtain ⟨k, q, out, rfl, rfl, hk, HR, HT, hbl⟩ := hrel
        by_cases hkt : k < 5
        · have hkt2 : (k : Int) < 5 := by omega
          obtain ⟨ad, rfl, hla, hca⟩ := HA.out.at hlt
          obtain ⟨bd, rfl, hlb, hcb⟩ := HB.out.at hkt
          have ca : wr.cell? (ad.add i) = some (.int .u64 ((a.getD i 0 : Nat) : Int)) := (hbl.cell (by rw [add_block]; exact hla)).trans hca
          have cb : wr.cell? (bd.add k) = some (.int .u64 ((b.getD k 0 : Nat) : Int)) := (hbl.cell (by rw [add_block]; exact hlb)).trans hcb
          have co : wr.cell? ⟨w.heap.size, i + k, none⟩ = some (.int .u64 ((out.getD (i + k) 0 : Nat) : Int)) := HR.out.cell (by omega)
          have cf : wr.frozen? ⟨w.heap.size, i + k, none⟩ = false := HR.out.frozen _
          clear hca hcb hla hlb
          have hlen : out.length = 10 := by have := HT.out.1; rw [LA.out, LB.out] at this; exact this
          have HLEN := Lib.hid hlen
          clear hlen
          have HN := Lib.hid (HT.out.next DA.out DB.out (by rw [LA.out]; exact hlt) (by rw [LB.out]; exact hkt))
          have hbd := HT.out.bound DA.out DB.out
          have hxy := col_le (DA.out.getD i) (DB.out.getD k)
          have hsz : w.heap.size < wr.heap.size := HR.out.lt
          generalize a.getD i 0 = x at *
          generalize b.getD k 0 = y at *
          generalize out.getD (i + k) 0 = o at *
          obtain ⟨p, hp⟩ : ∃ p, p = x * y := ⟨_, rfl⟩
          obtain ⟨r, hr⟩ : ∃ r, r = o + p := ⟨_, rfl⟩
          obtain ⟨n, hn⟩ : ∃ n, n = r + q := ⟨_, rfl⟩
          rw [← hp] at HN hbd hxy
          have w1 : IntKind.u64.wrap ((x : Int) * (y : Int)) = (p : Int) := wrap_mul hp (by omega)
          rw [← hr] at HN hbd
          have w2 : IntKind.u64.wrap ((o : Int) + (p : Int)) = (r : Int) := by rw [hr, IntKind.wrap_u64]; omega
          rw [← hn] at HN hbd
          have w3 : IntKind.u64.wrap ((r : Int) + (q : Int)) = (n : Int) := by rw [hn, IntKind.wrap_u64]; omega
          clear hp hr hn
          go_wp2_with fail
          go_quiet (fail)
          go_wp2_with fail
          exact ⟨⟨k + 1, n / 65536, _, by go_num, by go_num, by omega, row_set (row_drewN HR.out _) HLEN.out (by omega), HN.out, (below_drewN hbl _).setCell (Nat.le_refl _) _⟩, by simp [intOf] <;> omega⟩
        · obtain rfl : k = 5 := by omega
          have co : wr.cell? ⟨w.heap.size, i + 5, none⟩ = some (.int .u64 ((out.getD (i + 5) 0 : Nat) : Int)) := HR.out.cell (by omega)
          have cf : wr.frozen? ⟨w.heap.size, i + 5, none⟩ = false := HR.out.frozen _
          have HN : Hid (MulRows a b (out.set (i + 5) q) (i + 1)) := by
            have h0 := HT.out.2.2.2.2 (i + 5) (by rw [LB.out]; exact Nat.le_refl _)
            have h1 := HT.out
            rw [← LB.out] at h1
            have h2 := h1.done (by rw [LA.out]; exact hlt)
            rw [LB.out, h0, Nat.zero_add] at h2
            exact h2
          have h0 : out.getD (i + 5) 0 = 0 := HT.out.2.2.2.2 (i + 5) (by rw [LB.out]; exact Nat.le_refl _)
          have hq : q < 65536 := HT.out.2.2.1
          rw [h0] at co
          clear h0
          go_wp2_with fail
          have hlen : out.length = 10 := by have := HT.out.1; rw [LA.out, LB.out] at this; exact this
          exact ⟨⟨i + 1, _, by go_num, by omega, row_set HR.out hlen (by omega), HN.out, hbl.setCell (Nat.le_refl _) _⟩, by simp [intOf] <;> omega⟩
    · obtain rfl : i = 5 := by omega
      go_wp2_with fail
      go_ret
      have hl := HT.out.1
      rw [LA.out, LB.out] at hl
      exact ⟨_, out, rfl, reads_ten HR.out hl HT.out.2.1, hl, (by rw [← LA.out] at HT; exact HT.out.all), hbl⟩
end Go.Proofs.Ytedpkphbpkkhbaa.SatWalk
