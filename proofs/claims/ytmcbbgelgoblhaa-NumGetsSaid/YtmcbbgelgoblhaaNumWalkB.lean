/-
  The walks of package num's digits and Put: what they answer is a number's digits.
-/
import Derived.Test.YtmcbbgelgoblhaaNumWalkA
import Derived.Deep.OwnRows
import Derived.Laws.IdiomStrings
import Derived.Deep.QuietTactic
import Derived.BigQuiet
namespace Go.Proofs.Ytmcbbgelgoblhaa.NumWalk
open Go.RowKit Go.Proofs.Ytmcbbgelgoblhaa.NumPlain

/-- The last cells of a row of 16 are the bytes l. -/
def Laid (w : World) (b k : Nat) (l : List UInt8) : Prop :=
  ∃ f : Nat → Value, w.rowIs b 37 16 f ∧ l.length + k = 16 ∧ ∀ j (hj : j < l.length), f (k + j) = .int .u8 (l[j].toNat : Int)

theorem Laid.cell {w : World} {b k : Nat} {l : List UInt8} (h : Laid w b (k + 1) l) : (∃ v, w.cell? ⟨b, k, none⟩ = some v) ∧ w.frozen? ⟨b, k, none⟩ = false := by
  obtain ⟨f, hr, hl, _⟩ := h
  exact ⟨⟨_, hr.cell (by omega)⟩, hr.frozen k⟩

theorem Laid.put {w : World} {b k : Nat} {l : List UInt8} (h : Laid w b (k + 1) l) (c : UInt8) : Laid (w.setCell ⟨b, k, none⟩ (.int .u8 (c.toNat : Int))) b k (c :: l) := by
  obtain ⟨f, hr, hl, hf⟩ := h
  refine ⟨_, hr.set k _, by simp; omega, fun j hj => ?_⟩
  cases j with
  | zero => simp
  | succ j =>
    have := hf j (by simpa using hj)
    simp only [List.getElem_cons_succ]
    rw [if_neg (by omega), ← this]
    congr 1
    omega

theorem Laid.text {w : World} {b k : Nat} {l : List UInt8} (h : Laid w b k l) :
    (convert 39 9 (.slice (some ⟨b, k, none⟩) (16 - k) (16 - k))).run Try.prog w = .ok (.string ⟨l.toArray⟩) w := by
  obtain ⟨f, hr, hl, hf⟩ := h
  rw [show 16 - k = l.length from by omega]
  exact run_convert_bytes_back w 39 9 5 ⟨b, k, none⟩ _ l Try.underlying39 Try.underlying5 Try.underlying9 (fun j hj => by
    have hp : (⟨b, k, none⟩ : Addr).add j = ⟨b, k + j, none⟩ := by unfold Addr.add; split <;> simp_all
    rw [hp, hr.cell (by omega), hf j hj])

theorem slice_own (w : World) (b k : Nat) (hk : k ≤ 15) :
    (Instr.sliceAt 37 (.pointer (some ⟨b, 0, none⟩)) (some (.int .i64 (k : Int))) none none).run Try.prog w = .ok (.slice (some ⟨b, k, none⟩) (16 - k) (16 - k)) w := by
  have e1 : Try.prog.arrayLen 37 = 16 := by kernel_rfl
  have e2 : Try.prog.elem 37 = 5 := by kernel_rfl
  have e3 : (sizeOf 5).run Try.prog w = .ok 1 w := by kernel_rfl
  rw [run_sliceAt_array_l w 37 ⟨b, 0, none⟩ (by kernel_rfl) .i64 (k : Int) (by omega) (by rw [e1]; omega), e1, e2, e3]
  simp only [Result.andThen, slicedAt, Int.toNat_natCast, Nat.mul_one]
  rw [if_neg (by omega)]
  have hp : (⟨b, 0, none⟩ : Addr).add k = ⟨b, k, none⟩ := by unfold Addr.add; split <;> simp_all
  rw [hp]

theorem dByte_int (n : Nat) : ((dByte n).toNat : Int) = 48 + (n : Int) % 10 := by rw [dByte_nat]; omega

theorem laid_start (w : World) (n : Nat) : Laid (w.alloc (Obj.cells
      #[Value.int IntKind.u8 0, Value.int IntKind.u8 0, Value.int IntKind.u8 0, Value.int IntKind.u8 0,
        Value.int IntKind.u8 0, Value.int IntKind.u8 0, Value.int IntKind.u8 0, Value.int IntKind.u8 0,
        Value.int IntKind.u8 0, Value.int IntKind.u8 0, Value.int IntKind.u8 0, Value.int IntKind.u8 0,
        Value.int IntKind.u8 0, Value.int IntKind.u8 0, Value.int IntKind.u8 0, Value.int IntKind.u8 (48 + (n : Int) % 10)]
      37)) w.heap.size 15 [dByte n] := by
  refine ⟨fun i => if i = 15 then .int .u8 (48 + (n : Int) % 10) else .int .u8 0, World.rowIs_alloc w _ _ _ (fun i hi => ?_), rfl, fun j hj => ?_⟩
  · simp at hi
    match i, hi with
    | 0, _ => rfl | 1, _ => rfl | 2, _ => rfl | 3, _ => rfl | 4, _ => rfl | 5, _ => rfl | 6, _ => rfl | 7, _ => rfl
    | 8, _ => rfl | 9, _ => rfl | 10, _ => rfl | 11, _ => rfl | 12, _ => rfl | 13, _ => rfl | 14, _ => rfl | 15, _ => rfl
    | k + 16, h => omega
  · simp at hj
    subst hj
    simp only [List.getElem_cons_zero, dByte_int]
    rfl

set_option maxHeartbeats 400000 in
theorem digits_any (n : Nat) (w : World) (h1 : n ≤ 1125899906842624) :
    Calls Try.prog 14 #[.int .i64 n] w fun e w' => e = .returned (.string ⟨(txt n).toArray⟩) ∧ Below w.heap.size w w' := by
  go_enter Try.func14, Try.ntmps14
  go_wp2_with (go_at_call 18; refine (digit_any _ _ (by omega) (by omega)).mono ?_; rintro e w' ⟨rfl, rfl⟩)
  go_loopw [0, 4] (fun a t wr => ∃ (q k : Nat) (l : List UInt8), q ≤ n ∧ a = .int .i64 q ∧ t = .int .i64 k ∧ k ≤ 15 ∧ Hid (txt n = aheadL q ++ l) ∧ Hid (Laid wr w.heap.size k l) ∧ Below w.heap.size w wr) (fun a _ _ => (intOf a).toNat)
  case atStart => exact ⟨n / 10, 15, [dByte n], by omega, by go_num, rfl, by omega, aheadL_start n, laid_start w n, (Below.refl _ _).alloc (Nat.le_refl _) _⟩
  case round =>
    obtain ⟨q, k, l, hq, rfl, rfl, hk, HT, HL, hB⟩ := hrel
    have hsum : l.length + k = 16 := by obtain ⟨_, _, h, _⟩ := HL.out; exact h
    by_cases h : 0 < q
    · have hk1 : 1 ≤ k := by
        have h2 := txt_len (n := n) h1
        have h3 := aheadL_len h
        rw [HT.out, List.length_append] at h2
        omega
      obtain ⟨k, rfl⟩ : ∃ k', k = k' + 1 := ⟨k - 1, by omega⟩
      obtain ⟨⟨v, hc⟩, hf⟩ := HL.out.cell
      clear hsum
      go_wp2_with (go_at_call 18; refine (digit_any _ _ (by omega) (by omega)).mono ?_; rintro e w' ⟨rfl, rfl⟩)
      refine ⟨⟨q / 10, k, dByte q :: l, by omega, by go_num, rfl, by omega, ?_, ?_, hB.setCell (Nat.le_refl _) _⟩, by simp [intOf]; omega⟩
      · have e := HT.out
        rw [aheadL_step h] at e
        exact e
      · rw [← dByte_int]
        exact HL.out.put _
    · have hs := fun W : World => slice_own W w.heap.size k hk
      have hcv := HL.out.text
      go_wp2
      go_ret
      have e := HT.out
      have hq0 : q = 0 := by omega
      rw [hq0, aheadL_end] at e
      exact ⟨by rw [e]; rfl, hB⟩

set_option maxHeartbeats 400000 in
theorem put_no (n : Int) (w : World) (h : n < 0 ∨ 1125899906842624 < n) :
    Calls Try.prog 6 #[.int .i64 n] w fun e w' => e = .returned (.tuple #[.string ⟨#[]⟩, .int .i64 6]) ∧ w = w' := by
  by_cases h0 : n < 0
  · clear h
    go_enter Try.func6, Try.ntmps6
    go_wp2
    go_ret2
    exact ⟨rfl, rfl⟩
  · have h1 : 1125899906842624 < n := by omega
    clear h
    go_enter Try.func6, Try.ntmps6
    go_wp2
    go_ret2
    exact ⟨rfl, rfl⟩

set_option maxHeartbeats 400000 in
theorem put_yes (n : Nat) (w : World) (h1 : n ≤ 1125899906842624) :
    Calls Try.prog 6 #[.int .i64 n] w fun e w' => e = .returned (.tuple #[.string ⟨(txt n).toArray⟩, .int .i64 0]) ∧ Below w.heap.size w w' := by
  have h0 : ¬ (n : Int) < 0 := by omega
  have h2 : ¬ 1125899906842624 < (n : Int) := by omega
  go_enter Try.func6, Try.ntmps6
  go_wp2_with (go_at_call 14; refine (digits_any _ _ (by omega)).mono ?_; rintro e w' ⟨rfl, hb⟩)
  go_ret2
  exact ⟨rfl, hb⟩
end Go.Proofs.Ytmcbbgelgoblhaa.NumWalk
