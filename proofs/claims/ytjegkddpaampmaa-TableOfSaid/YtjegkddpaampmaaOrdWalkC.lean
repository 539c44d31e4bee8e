/-
  The library's slices.SortStableFunc at jobs, walked: the insertions, the passes, the whole. The walks of layer 8's code: the library's slices.Clone at jobs; Sort, by the library's slices.SortStableFunc.
-/
import Derived.Test.YtjegkddpaampmaaOrdStabD
import Derived.Test.YtjegkddpaampmaaStab
import Derived.Test.YtjegkddpaampmaaShelfG
import Derived.Lib.OwnBridge
import Derived.WalkSpells
namespace Go.Proofs.Ytjegkddpaampmaa.OrdStab
open Go.Shelf Go.RowKit Go.Lib Go.Sort Go.Proofs.Ytjegkddpaampmaa.JobPlain Go.Proofs.Ytjegkddpaampmaa.OrdPlain Go.Proofs.Ytjegkddpaampmaa.Mem Go.Proofs.Ytjegkddpaampmaa.JobMem Go.Proofs.Ytjegkddpaampmaa.OrdMem Go.Proofs.Ytjegkddpaampmaa.OrdWalk Go.Proofs.Ytjegkddpaampmaa.Swap Go.Proofs.Ytjegkddpaampmaa.Stab Go.Proofs.Ytjegkddpaampmaa.Ins Go.Proofs.Ytjegkddpaampmaa.Symm
theorem lt_cmp : ltOf cmp3 = aheadB := by
  funext x y
  exact cmp3_ahead x y
theorem swo3 : SWO (ltOf cmp3) where
  irrefl x := by rw [lt_cmp]; exact ahead_self x
  trans x y z h1 h2 := by rw [lt_cmp] at *; exact ahead_trans h1 h2
  ntrans x y z h1 h2 := by rw [lt_cmp] at *; exact no_trans h1 h2
theorem insert_any (cap blk a b n : Nat) (P B Q d : List Jb) (w0 w : World) (hd : d = P ++ (B ++ Q)) (ha : P.length = a) (hb : a + B.length = b) (hn : d.length = n) (hR : RowIs w0 blk n) (S : Hold w0 blk d w) (hl : n ≤ 100000) :
    Calls Try.prog 58 #[.slice (some ⟨blk, 0, none⟩) n cap, .int .i64 a, .int .i64 b, .func (.func 50) #[] #[]] w (Done w0 blk (P ++ (sortBy aheadB B ++ Q))) := by
  obtain ⟨d0, hd0, R⟩ := hR
  subst hd ha hb hn
  have eg : ∀ args w, (callFunc 50 args).run Try.prog w = .ok (.enter 50 args) w := enters_of Try.func50 (by kernel_rfl) rfl
  have hcon := AnyQ.insertionSortCmpFunc_w Try.insJ 9 Try.isAgg28 Try.sizeOf28 jobC cmp3 50 #[] blk 0 cap P.length (P.length + B.length) d0 (P ++ (B ++ Q)).toArray w0 w eg (fun m os dk _ x y => compare_grow x y _) R (by rw [hd0]; simp) S swo3 (by omega) (by simp only [List.size_toArray, List.length_append]; omega) (by have := hl; simp only [List.size_toArray]; omega)
  rw [lt_cmp, ins_sort swo] at hcon
  have e : (P ++ (B ++ Q)).toArray.size = (P ++ (B ++ Q)).length := by simp
  rw [e] at hcon
  exact hcon
set_option maxRecDepth 100000 in
set_option maxHeartbeats 6400000 in
theorem stable_any (cap blk n : Nat) (l : List Jb) (w0 w : World) (hn : l.length = n) (hR : RowIs w0 blk n) (S : Hold w0 blk l w) (hl : n ≤ 100000) :
    Calls Try.prog 68 #[.slice (some ⟨blk, 0, none⟩) n cap, .int .i64 n, .func (.func 50) #[] #[]] w (Done w0 blk (sortBy aheadB l)) := by
  have CI : Hid (∀ (a b : Nat) (P B Q : List Jb) (W : World), P.length = a → a + B.length = b → (P ++ (B ++ Q)).length = n → Hold w0 blk (P ++ (B ++ Q)) W → Calls Try.prog 58 #[.slice (some ⟨blk, 0, none⟩) n cap, .int .i64 a, .int .i64 b, .func (.func 50) #[] #[]] W (Done w0 blk (P ++ (sortBy aheadB B ++ Q)))) :=
    fun a b P B Q W h1 h2 h3 h4 => insert_any cap blk a b n P B Q _ w0 W rfl h1 h2 h3 hR h4 hl
  have CM : Hid (∀ (a m b : Nat) (P L R Q : List Jb) (W : World), a < m → m < b → Pair aheadB P L R Q (P ++ (L ++ (R ++ Q))) a m b → (P ++ (L ++ (R ++ Q))).length = n → Hold w0 blk (P ++ (L ++ (R ++ Q))) W → Calls Try.prog 76 #[.slice (some ⟨blk, 0, none⟩) n cap, .int .i64 a, .int .i64 m, .int .i64 b, .func (.func 50) #[] #[]] W (Done w0 blk (P ++ (mg aheadB L R ++ Q)))) :=
    fun a m b P L R Q W h1 h2 h3 h4 h5 => symm_any cap blk n w0 hR hl (b - a + 1) a m b P L R Q _ W (by omega) h1 h2 h3 h4 h5
  have HN := Lib.hid hn
  have HS := Lib.hid S
  clear S hR hn
  go_enter Try.func68, Try.ntmps68
  go_upto_block 0 with fail
  go_cut [7] (fun o wc => ∃ a : Nat, o = .int .i64 a ∧ a ≤ n ∧ ∃ P X, Hid (n < a + 20 ∧ InsAt aheadB l 20 a P X) ∧ Hid (Hold w0 blk (P ++ X) wc))
  case first =>
    go_wp2_with fail
    go_loopw [7, 8] (fun o q wr => ∃ a b : Nat, o = .int .i64 a ∧ q = .int .i64 b ∧ b = a + 20 ∧ a ≤ n ∧ ∃ P X, Hid (InsAt aheadB l 20 a P X) ∧ Hid (Hold w0 blk (P ++ X) wr)) (fun i _ _ => n - (intOf i).toNat)
    case atStart => exact ⟨0, 20, rfl, rfl, rfl, Nat.zero_le _, [], l, InsAt.start l 20, HS.out⟩
    case round =>
      clear HS
      obtain ⟨a, b, rfl, rfl, hb, han, P, X, HA, HK⟩ := hrel
      have HB := Lib.hid hb
      by_cases hlt : b ≤ n
      · have hx := HA.out.x
        have hnn := HN.out
        obtain ⟨h1, h2⟩ := HA.out.next (by omega : 0 < 20) (by omega)
        have C1 := Lib.hid (CI.out a b P (X.take 20) (X.drop 20) wr HA.out.p (by omega) (by rw [List.take_append_drop, List.length_append, HA.out.p]; omega) (by rw [List.take_append_drop]; exact HK.out))
        have HA2 : Hid (InsAt aheadB l 20 b (P ++ sortBy aheadB (X.take 20)) (X.drop 20)) := by rw [hb]; exact h2
        have hbb : b ≤ n := hlt
        clear hx h1 h2 HA HK hb hnn
        go_wp2_with fail
        refine C1.out.mono ?_
        rintro e w3 ⟨rfl, h3⟩
        rw [← List.append_assoc] at h3
        have H3 := Lib.hid h3
        clear h3
        go_wp2_with fail
        have hq := HB.out
        exact ⟨⟨b, b + 20, rfl, by go_num, rfl, hbb, _, _, HA2, H3⟩, by simp only [intOf]; omega⟩
      · clear hb
        go_wp2_with fail
        go_meet
        exact ⟨a, rfl, han, P, X, ⟨by have := HB.out; omega, HA.out⟩, HK⟩
  case rest =>
    clear HS
    obtain ⟨a, rfl, han, P, X, HA, HK⟩ := hcut
    have C1 := Lib.hid (CI.out a n P X [] wc HA.out.2.p (by have := HA.out.2.x; have := HN.out; omega) (by rw [List.append_nil, List.length_append, HA.out.2.p]; have := HA.out.2.x; have := HN.out; omega) (by rw [List.append_nil]; exact HK.out))
    have HE : Hid (P ++ (sortBy aheadB X ++ []) = blocks aheadB 20 l) := Lib.hid (by rw [List.append_nil]; exact (HA.out.2.end_ (by have := HA.out.1; have := HN.out; omega)).symm)
    clear HA HK CI
    go_wp2_with fail
    refine C1.out.mono ?_
    rintro e w3 ⟨rfl, h3⟩
    rw [HE.out] at h3
    have H3 := Lib.hid h3
    clear h3 HE C1
    go_wp2_with fail
    go_loopw [6] (fun o wr => ∃ s : Nat, o = .int .i64 s ∧ 20 ≤ s ∧ s ≤ 200000 ∧ Hid (Hold w0 blk (blocks aheadB s l) wr)) (fun i _ => n - (intOf i).toNat)
    case atStart => exact ⟨20, rfl, Nat.le_refl _, by omega, H3.out⟩
    case round =>
      clear H3
      obtain ⟨s, rfl, hs20, hs2, HK⟩ := hrel
      by_cases hlt : s < n
      · have hs0 : 0 < s := by omega
        have HS0 := Lib.hid hs0
        go_upto_block 4 with fail
        go_cut [7] (fun o wc => ∃ a : Nat, o = .int .i64 a ∧ a ≤ n ∧ ∃ P X, Hid (n < a + 2 * s ∧ MgAt aheadB l s a P X) ∧ Hid (Hold w0 blk (P ++ blocks aheadB s X) wc))
        case first =>
          go_wp2_with fail
          go_loopw [7, 8] (fun o q wr => ∃ a b : Nat, o = .int .i64 a ∧ q = .int .i64 b ∧ b = a + 2 * s ∧ a ≤ n ∧ ∃ P X, Hid (MgAt aheadB l s a P X) ∧ Hid (Hold w0 blk (P ++ blocks aheadB s X) wr)) (fun i _ _ => n - (intOf i).toNat)
          case atStart => exact ⟨0, 2 * s, rfl, by go_num, by omega, Nat.zero_le _, [], l, MgAt.start l s, HK⟩
          case round =>
            clear HK
            obtain ⟨a, b, rfl, rfl, hb, han, P, X, HA, HK⟩ := hrel
            have HB := Lib.hid hb
            by_cases hlt2 : b ≤ n
            · have hnn := HN.out
              obtain ⟨L, R, e1, l1, l2, s1, s2, e2, hM⟩ := HA.out.next swo hs0 (by omega)
              have hlen := HA.out.len hs0
              obtain ⟨m, hm⟩ : ∃ m : Nat, m = a + s := ⟨_, rfl⟩
              have hm2 : (a : Int) + (s : Int) = (m : Int) := by omega
              have C1 := Lib.hid (CM.out a m b P L R (blocks aheadB s (X.drop (2 * s))) wr (by omega) (by omega) ⟨rfl, HA.out.p, by omega, by omega, s1, s2⟩ (by rw [← e1]; omega) (by rw [← e1]; exact HK.out))
              have HA2 : Hid (MgAt aheadB l s b (P ++ mg aheadB L R) (X.drop (2 * s))) := by rw [hb]; exact hM
              have HE := Lib.hid e2
              have hmn : m ≤ n := by omega
              clear e1 l1 l2 s1 s2 e2 hM hlen HA HK hb hnn hm
              go_wp2_with fail
              refine C1.out.mono ?_
              rintro e w3 ⟨rfl, h3⟩
              rw [HE.out] at h3
              have H3 := Lib.hid h3
              clear h3 hm2
              go_wp2_with fail
              have hq := HB.out
              exact ⟨⟨b, b + 2 * s, rfl, by go_num, rfl, hlt2, _, _, HA2, H3⟩, by simp only [intOf]; omega⟩
            · clear hb
              go_wp2_with fail
              go_meet
              exact ⟨a, rfl, han, P, X, ⟨by have := HB.out; omega, HA.out⟩, HK⟩
        case rest =>
          clear HK
          obtain ⟨a, rfl, han, P, X, HA, HK⟩ := hcut
          obtain ⟨m, hm⟩ : ∃ m : Nat, m = a + s := ⟨_, rfl⟩
          have hm2 : (a : Int) + (s : Int) = (m : Int) := by omega
          have hm3 : m ≤ 300000 := by omega
          have HM := Lib.hid hm
          by_cases hmn : m < n
          · have hnn := HN.out
            obtain ⟨L, R, e1, l1, l2, s1, s2, e2⟩ := HA.out.2.last swo hs0 (by have := HA.out.1; omega) (by omega)
            have hlen := HA.out.2.len hs0
            have C1 := Lib.hid (CM.out a m n P L R [] wc (by omega) (by omega) ⟨rfl, HA.out.2.p, by omega, by omega, s1, s2⟩ (by rw [← e1]; omega) (by rw [← e1]; exact HK.out))
            have HE : Hid (P ++ (mg aheadB L R ++ []) = blocks aheadB (s * 2) l) := Lib.hid (by rw [e2, Nat.mul_comm])
            clear e1 l1 l2 s1 s2 e2 hlen HA HK hnn hm CM
            go_wp2_with fail
            refine C1.out.mono ?_
            rintro e w3 ⟨rfl, h3⟩
            rw [HE.out] at h3
            have H3 := Lib.hid h3
            clear h3 hm2
            go_wp2_with fail
            exact ⟨⟨s * 2, by go_num, by omega, by omega, H3⟩, by simp only [intOf]; omega⟩
          · have HE : Hid (P ++ blocks aheadB s X = blocks aheadB (s * 2) l) := Lib.hid (by rw [HA.out.2.rest (by have := HN.out; omega), Nat.mul_comm])
            have H3 : Hid (Hold w0 blk (blocks aheadB (s * 2) l) wc) := by rw [← HE.out]; exact HK
            clear HA HK hm CM HE
            go_wp2_with fail
            exact ⟨⟨s * 2, by go_num, by omega, by omega, H3⟩, by simp only [intOf]; omega⟩
      · have HF : Hid (blocks aheadB s l = sortBy aheadB l) := Lib.hid (blocks_one (by have := HN.out; omega))
        go_wp2_with fail
        go_end0
        exact ⟨rfl, by rw [← HF.out]; exact HK.out⟩
end Go.Proofs.Ytjegkddpaampmaa.OrdStab
namespace Go.Proofs.Ytjegkddpaampmaa.OrdWalk
open Go.Shelf Go.RowKit Go.Lib Go.Sort Go.Proofs.Ytjegkddpaampmaa.JobPlain Go.Proofs.Ytjegkddpaampmaa.OrdPlain Go.Proofs.Ytjegkddpaampmaa.Mem Go.Proofs.Ytjegkddpaampmaa.JobMem Go.Proofs.Ytjegkddpaampmaa.OrdMem Go.Proofs.Ytjegkddpaampmaa.OrdRef Go.Proofs.Ytjegkddpaampmaa.OrdStab Go.Proofs.Ytjegkddpaampmaa.Stab
theorem put_same (l : List Jb) (j : Jb) : put aheadB l j = putL l j := by
  induction l with
  | nil => rfl
  | cons e l ih => unfold put putL; rw [ih]
theorem sort_same (l : List Jb) : sortBy aheadB l = sortL l := by
  unfold sortBy sortL
  congr 1
  funext l j
  exact put_same l j
theorem flat_jvals (l : List Jb) : flatK jobC 9 l.toArray = (jvals l).toArray := by
  refine ext_get! (by simp [jvals_len]) fun t ht => ?_
  have ht' : t < l.length * 9 := by simpa using ht
  rw [get_flatK _ _ _ _ (by simpa using ht')]
  have hi : t / 9 < l.length := by omega
  have hf : t % 9 < 9 := by omega
  have h1 := jvals_at l (t / 9) hi (t % 9) hf
  rw [show t / 9 * 9 + t % 9 = t by omega] at h1
  have hl : t < (jvals l).length := by rw [jvals_len]; exact ht'
  have hc : t % 9 < (jobC l[t / 9]).length := hf
  have e : l.toArray[t / 9]! = l[t / 9] := by simp [hi]
  rw [e, getElem!_pos (jobC l[t / 9]) (t % 9) hc, getElem!_pos (jvals l).toArray t (by simpa using hl)]
  rw [List.getElem?_eq_getElem hl, List.getElem?_eq_getElem hc] at h1
  injection h1 with h1
  simpa using h1.symm
theorem holds_jvals {w : World} {g : Nat} {l : List Jb} (h : Raw w ⟨g, 0, none⟩ (jvals l)) (hf : ∀ i, w.frozen? ⟨g, i, none⟩ = false) : HoldsK jobC 9 w g 0 l.toArray := by
  unfold HoldsK
  rw [flat_jvals]
  intro j hj
  have hj' : j < (jvals l).length := by simpa using hj
  refine ⟨?_, by rw [Nat.zero_add]; exact hf j⟩
  have h1 := (h j (jvals l)[j] (by simp [hj'])).2
  rw [add_flat] at h1
  rw [Nat.zero_add, h1]
  simp [hj']
theorem jvals_holds {w : World} {g : Nat} {l : List Jb} (h : HoldsK jobC 9 w g 0 l.toArray) (hg : g < w.heap.size) : Raw w ⟨g, 0, none⟩ (jvals l) := by
  unfold HoldsK at h
  rw [flat_jvals] at h
  intro j u hu
  obtain ⟨hj, e⟩ := List.getElem?_eq_some_iff.1 hu
  refine ⟨hg, ?_⟩
  have h1 := (h j (by simpa using hj)).1
  rw [Nat.zero_add] at h1
  rw [add_flat, h1]
  simp [hj, ← e]
theorem below_sort {B g : Nat} {w W : World} {d : Array Jb} (h : SWK jobC 9 w g 0 d W) (hB : B ≤ g) (hg : g < w.heap.size) : Below B w W := by
  obtain ⟨n, os, rfl⟩ := h
  unfold sortWorldK putRowK
  have h9 := below_putRow (enc := id) (q := n) (d := flatK jobC 9 d) (Below.refl B w) hB
  exact h9.trans (below_grow B _ (Nat.le_trans (by omega : B ≤ w.heap.size) h9.size) 0 os)
/-- What Clone answers. -/
def CloneIs (l : List Jb) (w : World) (e : Ending) (w' : World) : Prop := ∃ v', e = .returned v' ∧ ((v' = .slice none 0 0 ∧ l = []) ∨ OwnR 28 9 w.heap.size w' v' l.length (jvals l)) ∧ Below w.heap.size w w'
theorem jobs_eql (w : World) (a : Option Addr) (n c n' c' : Nat) : (binOp .eql 26 (.slice a n c) (.slice none n' c')).run Try.prog w = .ok (.bool a.isNone) w := Lib.run_eql_slice_nil w _ _ a n c n' c' Try.underlying26
set_option maxHeartbeats 1600000 in
theorem cloneS (l : List Jb) (v : Value) (w : World) (hv : JobsIs l w v) (hl : l.length ≤ 100000) : Calls Try.prog 48 #[v] w (CloneIs l w) := by
  have q22 := jobs_eql
  rcases hv with ⟨rfl, rfl⟩ | ⟨a, c, rfl, hr, hn⟩
  · go_enter Try.func48, Try.ntmps48
    go_wp2_with fail
    go_ret
    exact ⟨_, rfl, .inl ⟨rfl, rfl⟩, Below.refl _ _⟩
  · have HR := Lib.hid hr
    have H1 := Lib.hid (jvals_cell l)
    have HL := Lib.hid (jvals_len l)
    clear hr
    generalize hx : jvals l = xs at *
    have HX := Lib.hid hx
    clear hx
    go_enter Try.func48, Try.ntmps48
    go_wp2_with (at_builtin; refine push_raw jobs_t rfl (.tmp 5) (.tmp 6) rfl w.heap.size _ _ _ rfl (OwnR.new w 28 9) a l.length c xs rfl HL.out ?h1 H1.out ?h2 ?_)
    case h1 => exact HR.out.below (below_box _ _)
    case h2 => omega
    intro v' w' ho hb
    have HO := Lib.hid ho
    have HB := Lib.hid (((Below.refl _ _).alloc (Nat.le_refl _) _).trans hb)
    clear ho hb
    go_wp2_with fail
    go_ret
    exact ⟨_, rfl, .inr (by rw [HX.out]; exact HO.out), HB.out⟩
def Nothing (w : World) (e : Ending) (w' : World) : Prop := e = .returned (.tuple #[]) ∧ w = w'
set_option maxRecDepth 100000 in
set_option maxHeartbeats 1600000 in
theorem insert_none (f : Value) (w : World) : Calls Try.prog 58 #[.slice none 0 0, .int .i64 0, .int .i64 0, f] w (Nothing w) := by
  go_enter Try.func58, Try.ntmps58
  go_wp2_with fail
  go_loop [8] (fun i => i = .int .i64 1) (fun _ => 0)
  case atStart => rfl
  case round =>
    subst hrel
    go_wp2_with fail
    go_end0
    exact ⟨rfl, rfl⟩
set_option maxRecDepth 100000 in
set_option maxHeartbeats 1600000 in
theorem stable_none (f : Value) (w : World) : Calls Try.prog 68 #[.slice none 0 0, .int .i64 0, f] w (Nothing w) := by
  have C1 := Lib.hid (insert_none f w)
  go_enter Try.func68, Try.ntmps68
  go_wp2_with fail
  go_loop [7, 8] (fun a b => a = .int .i64 0 ∧ b = .int .i64 20) (fun _ _ => 0)
  case atStart => exact ⟨rfl, rfl⟩
  case round =>
    obtain ⟨rfl, rfl⟩ := hrel
    go_wp2_with fail
    refine C1.out.mono ?_
    rintro e w1 ⟨rfl, rfl⟩
    go_wp2_with fail
    go_loop [6] (fun a => a = .int .i64 20) (fun _ => 0)
    case atStart => rfl
    case round =>
      subst hrel
      go_wp2_with fail
      go_end0
      exact ⟨rfl, rfl⟩
set_option maxHeartbeats 1600000 in
theorem sorts_none (f : Value) (w : World) : Calls Try.prog 49 #[.slice none 0 0, f] w (Nothing w) := by
  have C1 := Lib.hid (stable_none f w)
  go_enter Try.func49, Try.ntmps49
  go_wp2_with fail
  refine C1.out.mono ?_
  rintro e w1 ⟨rfl, rfl⟩
  go_wp2_with fail
  go_end0
  exact ⟨rfl, rfl⟩
def SortedIs (l : List Jb) (B g : Nat) (w : World) (e : Ending) (w' : World) : Prop := e = .returned (.tuple #[]) ∧ Raw w' ⟨g, 0, none⟩ (jvals (sortL l)) ∧ Below B w w'
set_option maxHeartbeats 1600000 in
theorem sorts_own (l : List Jb) (B g c : Nat) (w : World) (hB : B ≤ g) (hg : g < w.heap.size) (hr : Raw w ⟨g, 0, none⟩ (jvals l)) (hf : ∀ i, w.frozen? ⟨g, i, none⟩ = false) (hl : l.length ≤ 100000) :
    Calls Try.prog 49 #[.slice (some ⟨g, 0, none⟩) l.length c, .func (.func 50) #[] #[]] w (SortedIs l B g w) := by
  have hH := holds_jvals hr hf
  have hR : RowIs w g l.length := ⟨l.toArray, by simp, ⟨fun _ => rfl, fun x => jobC_cell x, hH, hg⟩⟩
  have C1 := Lib.hid (stable_any c g l.length l w w rfl hR (SWK.start hH) hl)
  have HE : Hid (∀ W, Hold w g (sortBy aheadB l) W → Raw W ⟨g, 0, none⟩ (jvals (sortL l)) ∧ Below B w W) := fun W h => by
    rw [sort_same] at h
    have h2 : SWK jobC 9 w g 0 (sortL l).toArray W := h
    refine ⟨jvals_holds (h2.holds hg hH (by simp [OrdPlain.sort_len])) (h2.lt hg), below_sort h2 hB hg⟩
  clear hH hR hr hf
  go_enter Try.func49, Try.ntmps49
  go_wp2_with fail
  refine C1.out.mono ?_
  rintro e w1 ⟨rfl, h1⟩
  have H1 := Lib.hid (HE.out w1 h1)
  clear h1
  go_wp2_with fail
  go_end0
  exact ⟨rfl, H1.out.1, H1.out.2⟩
set_option maxHeartbeats 1600000 in
theorem sortS (l : List Jb) (v : Value) (w : World) (hv : JobsIs l w v) (hl : l.length ≤ 200) : Calls Try.prog 36 #[v] w (JobsSays (sortL l) w) := by
  have C1 := Lib.hid (cloneS l v w hv (by omega))
  obtain ⟨A, c, rfl, _⟩ := hv.open_
  clear hv
  go_enter Try.func36, Try.ntmps36
  go_wp2_with fail
  refine C1.out.mono ?_
  rintro e w1 ⟨v1, rfl, h1, hb1⟩
  have HB1 := Lib.hid hb1
  rcases h1 with ⟨rfl, rfl⟩ | h1
  · have C2 := Lib.hid (sorts_none (.func (.func 50) #[] #[]) w1)
    clear hb1 C1
    go_wp2_with fail
    refine C2.out.mono ?_
    rintro e w2 ⟨rfl, rfl⟩
    go_wp2_with fail
    go_ret
    exact ⟨_, rfl, .inl ⟨rfl, rfl⟩, HB1.out⟩
  · obtain ⟨g, c1, rfl, g1, g2, g3, g4, g5, g6⟩ := h1.form
    have C2 := Lib.hid (sorts_own l w.heap.size g c1 w1 g1 g2 g5 g6 (by omega))
    have HG := Lib.hid (And.intro g1 g3)
    clear hb1 C1 h1 g1 g2 g3 g4 g5 g6
    go_wp2_with fail
    refine C2.out.mono ?_
    rintro e w2 ⟨rfl, hr, hb⟩
    have HR := Lib.hid hr
    have HB := Lib.hid hb
    clear hr hb
    go_wp2_with fail
    go_ret
    exact ⟨_, rfl, .inr ⟨⟨g, 0, none⟩, c1, by rw [OrdPlain.sort_len]; rfl, HR.out, by rw [OrdPlain.sort_len]; exact HG.out.2⟩, HB1.out.trans HB.out⟩
end Go.Proofs.Ytjegkddpaampmaa.OrdWalk
