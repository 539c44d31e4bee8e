/-
  The plain mathematics of layer 14: a window's jobs, their items, the choice; that all that are chosen have room together with the one that is reserved.
-/
import Derived.Test.YtkaepadkdohmpaaGapPlain
import Derived.Test.YtkaepadkdohmpaaOrdPlain
import Derived.Test.YtkaepadkdohmpaaTwnPlain
namespace Go.Proofs.Ytkaepadkdohmpaa.WinPlain
open Go.Proofs.Ytkaepadkdohmpaa.SpanPlain Go.Proofs.Ytkaepadkdohmpaa.StepPlain Go.Proofs.Ytkaepadkdohmpaa.GapPlain Go.Proofs.Ytkaepadkdohmpaa.JobPlain Go.Proofs.Ytkaepadkdohmpaa.OrdPlain Go.Proofs.Ytkaepadkdohmpaa.SubPlain Go.Proofs.Ytkaepadkdohmpaa.ApiPlain Go.Proofs.Ytkaepadkdohmpaa.TwnPlain
/-- A window's jobs. -/
def meantW (s : List Sp) (now : Int) (j : Jb) : Bool := okG s now j.width j.est
def winL (s : List Sp) (now k : Int) (jobs : List Jb) : List Jb := (jobs.filter (meantW s now)).take k.toNat
/-- Is now and a length behind a reserved time? -/
def endW (now est : Int) : Int := if now < 0 ∨ max est 0 ≤ 9223372036854775807 - now then now + max est 0 else 9223372036854775807
def longW (now est reserved : Int) : Bool := decide (reserved < endW now est)
def itemW (now reserved : Int) (j : Jb) : Itm := ⟨j.width, longW now j.est reserved⟩
def itemsW (l : List Jb) (now reserved : Int) : List Itm := l.map (itemW now reserved)
/-- The jobs of a choice. -/
def pickW : List Jb → Nat → List Jb
  | [], _ => []
  | j :: l, b => (if b.testBit l.length = true then [j] else []) ++ pickW l b
def badW (s : List Sp) (now : Int) (x : Lok) : Bool := !chkB s || decide (now < head s) || decide (1125899906842624 < now) || decide (x.k < 1) || decide (32 < x.k) || decide (x.long < 0) || decide (256 < x.long)
def bestW (s : List Sp) (now : Int) (jobs : List Jb) (x : Lok) : Nat := bestI (itemsW (winL s now x.k jobs) now x.reserved) (val s now) x.long
def chosenW (s : List Sp) (now : Int) (jobs : List Jb) (x : Lok) : List Jb := if badW s now x = true then [] else pickW (winL s now x.k jobs) (bestW s now jobs x)
def errW (s : List Sp) (now : Int) (x : Lok) : Int := if badW s now x = true then 1 else 0
theorem items_len (l : List Jb) (now reserved : Int) : (itemsW l now reserved).length = l.length := by simp [itemsW]
theorem win_len (s : List Sp) (now k : Int) (jobs : List Jb) : (winL s now k jobs).length ≤ k.toNat ∧ (winL s now k jobs).length ≤ jobs.length := by
  unfold winL
  rw [List.length_take]
  have := List.length_filter_le (meantW s now) jobs
  omega
theorem win_mem {s : List Sp} {now k : Int} {jobs : List Jb} {j : Jb} (h : j ∈ winL s now k jobs) : j ∈ jobs ∧ okG s now j.width j.est = true := List.mem_filter.1 (List.mem_of_mem_take h)
theorem pick_sub : ∀ (l : List Jb) (b : Nat), (pickW l b).Sublist l
  | [], _ => List.Sublist.refl _
  | j :: l, b => by
    unfold pickW
    split
    · exact (pick_sub l b).cons_cons j
    · exact (pick_sub l b).cons j
/-- The Ids at some places. -/
def idAt (l : List Jb) (p : Int) : Int := (l.getD p.toNat noJb).id
theorem pick_places : ∀ (l : List Jb) (b : Nat), (placesB l.length b).map (idAt l) = (pickW l b).map fun j => j.id
  | [], _ => rfl
  | j :: l, b => by
    have ih := pick_places l b
    unfold placesB placesTo at ih ⊢
    rw [List.map_map] at ih ⊢
    rw [List.length_cons, List.range_succ_eq_map, List.filter_cons, List.filter_map]
    have e0 : b.testBit (l.length + 1 - 1 - 0) = b.testBit l.length := by rw [show l.length + 1 - 1 - 0 = l.length by omega]
    have e1 : (List.range l.length).filter ((fun i => b.testBit (l.length + 1 - 1 - i)) ∘ Nat.succ) = (List.range l.length).filter fun i => b.testBit (l.length - 1 - i) := by
      apply List.filter_congr
      intro i hi
      have := List.mem_range.1 hi
      show b.testBit (l.length + 1 - 1 - (i + 1)) = _
      rw [show l.length + 1 - 1 - (i + 1) = l.length - 1 - i by omega]
    rw [e0, e1]
    have e2 : ∀ r : List Nat, (r.map Nat.succ).map (idAt (j :: l) ∘ fun i : Nat => (i : Int)) = r.map (idAt l ∘ fun i : Nat => (i : Int)) := fun r => by
      rw [List.map_map]
      apply List.map_congr_left
      intro i _
      show ((j :: l).getD ((i + 1 : Nat) : Int).toNat noJb).id = (l.getD (i : Int).toNat noJb).id
      rw [Int.toNat_natCast, Int.toNat_natCast]
      rfl
    unfold pickW
    cases hb : b.testBit l.length with
    | true => simp only [if_true, List.map_cons, List.cons_append, List.nil_append]; rw [e2, ih]; rfl
    | false => simp only [Bool.false_eq_true, if_false, List.nil_append]; rw [e2, ih]
theorem places_in {n b : Nat} {p : Int} (h : p ∈ placesB n b) : 0 ≤ p ∧ p.toNat < n ∧ p < n := by
  unfold placesB placesTo at h
  obtain ⟨i, hi, rfl⟩ := List.mem_map.1 h
  have := List.mem_range.1 (List.mem_filter.1 hi).1
  exact ⟨Int.natCast_nonneg _, by simpa using this, by omega⟩
/-- How much of these is needed at a time. -/
def cover : List Jb → Int → Int
  | [], _ => 0
  | j :: l, t => (if t < j.est then j.width else 0) + cover l t
theorem cover_pos : ∀ {l : List Jb} {t : Int}, (∀ j ∈ l, 0 ≤ j.width) → 0 ≤ cover l t
  | [], _, _ => Int.le_refl _
  | j :: l, t, h => by
    have h1 := h j (by simp)
    have h2 := cover_pos (l := l) (t := t) fun x hx => h x (by simp [hx])
    unfold cover
    split <;> omega
theorem cover_all : ∀ (l : List Jb) (now reserved t : Int) (b : Nat), (∀ j ∈ l, 0 ≤ j.width) → cover (pickW l b) t ≤ tot (wsOf (itemsW l now reserved)) b
  | [], _, _, _, _, _ => Int.le_refl _
  | j :: l, now, reserved, t, b, h => by
    have h1 := h j (by simp)
    have h2 := cover_all l now reserved t b fun x hx => h x (by simp [hx])
    have hl : (wsOf (itemsW l now reserved)).length = l.length := by rw [ws_len, items_len]
    show cover ((if b.testBit l.length = true then [j] else []) ++ pickW l b) t ≤ (if b.testBit (wsOf (itemsW l now reserved)).length = true then j.width else 0) + tot (wsOf (itemsW l now reserved)) b
    rw [hl]
    split
    · show (if t < j.est then j.width else 0) + cover (pickW l b) t ≤ _
      split <;> omega
    · rw [Int.zero_add]; exact h2
theorem cover_long : ∀ (l : List Jb) (reserved t : Int) (b : Nat), (∀ j ∈ l, 0 ≤ j.width ∧ 0 ≤ j.est ∧ j.est ≤ 9223372036854775807) → reserved ≤ t → cover (pickW l b) t ≤ tot (lsOf (itemsW l 0 reserved)) b
  | [], _, _, _, _, _ => Int.le_refl _
  | j :: l, reserved, t, b, h, ht => by
    obtain ⟨h1, h3, h4⟩ := h j (by simp)
    have h2 := cover_long l reserved t b (fun x hx => h x (by simp [hx])) ht
    have hl : (lsOf (itemsW l 0 reserved)).length = l.length := by rw [ls_len, items_len]
    show cover ((if b.testBit l.length = true then [j] else []) ++ pickW l b) t ≤ (if b.testBit (lsOf (itemsW l 0 reserved)).length = true then (if longW 0 j.est reserved = true then j.width else 0) else 0) + tot (lsOf (itemsW l 0 reserved)) b
    rw [hl]
    split
    · show (if t < j.est then j.width else 0) + cover (pickW l b) t ≤ _
      by_cases hc : t < j.est
      · have : longW 0 j.est reserved = true := by
          unfold longW endW
          rw [if_pos (.inr (by omega))]
          exact decide_eq_true (by omega)
        rw [if_pos hc, if_pos this]
        omega
      · rw [if_neg hc]
        have : 0 ≤ (if longW 0 j.est reserved = true then j.width else 0) := by split <;> omega
        omega
    · rw [Int.zero_add]; exact h2
/-- What is left for those that are still to come. -/
structure Leaves (t : List Sp) (l : List Jb) : Prop where
  chk : Chk t
  head : head t = 0
  room : ∀ u, 0 ≤ u → cover l u ≤ val t u
theorem Leaves.ok {t : List Sp} {j : Jb} {l : List Jb} (h : Leaves t (j :: l)) (hl : ∀ x ∈ l, 0 ≤ x.width) (hw : 1 ≤ j.width ∧ j.width ≤ 256) (he : 1 ≤ j.est ∧ j.est ≤ 1099511627776) : okG t 0 j.width j.est = true := by
  refine okG_iff.2 ⟨mayG_iff.2 ⟨h.chk, hw, he.1, he.2⟩, by rw [h.head]; exact Int.le_refl _, by omega, fun u h1 h2 => ?_⟩
  have h3 := h.room u h1
  have h4 := cover_pos (t := u) hl
  unfold cover at h3
  rw [if_pos (by omega)] at h3
  omega
theorem Leaves.next {t r : List Sp} {j : Jb} {l : List Jb} (h : Leaves t (j :: l)) (hl : ∀ x ∈ l, 0 ≤ x.width) (hw : 1 ≤ j.width ∧ j.width ≤ 256) (he : 1 ≤ j.est ∧ j.est ≤ 1099511627776) (hr : AddIs t (0, j.est) (-j.width) r) : Leaves r l := by
  have hx : May ((0, j.est) : Sp) := ⟨by show (0 : Int) ≤ 0; omega, by show (0 : Int) < j.est; omega, by show j.est ≤ _; omega⟩
  have hnb : ¬ addBad t (0, j.est) (-j.width) := by
    rintro (h1 | h1 | h1 | h1)
    · exact chk_false h1 h.chk
    · rw [(mayB_iff _).2 hx] at h1; cases h1
    · omega
    · omega
  have hin : ∀ u, 0 ≤ u → (hasB ((0, j.est) : Sp) u = true ↔ u < j.est) := fun u hu => by
    rw [hasB_iff]
    exact ⟨fun q => q.2.2, fun q => ⟨hx, hu, q⟩⟩
  have hval : ∀ u, 0 ≤ u → cover l u ≤ addF t (0, j.est) (-j.width) u ∧ addF t (0, j.est) (-j.width) u ≤ 256 := fun u hu => by
    have h3 := h.room u hu
    have hv := h.chk.val_free (t := u) (by rw [h.head]; exact hu)
    unfold cover at h3
    unfold addF
    by_cases hc : u < j.est
    · rw [if_pos ((hin u hu).2 hc)]
      rw [if_pos hc] at h3
      omega
    · rw [if_neg (fun q => hc ((hin u hu).1 q))]
      rw [if_neg hc] at h3
      omega
  rcases hr with ⟨hb, _⟩ | ⟨_, ⟨u, hu, ho⟩, _⟩ | ⟨_, hrep⟩
  · exact absurd hb hnb
  · rw [h.head] at hu
    have h5 := hval u hu
    have h6 := cover_pos (t := u) hl
    exact absurd ⟨by omega, h5.2⟩ ho
  · refine ⟨hrep.1, by rw [hrep.2.1]; exact h.head, fun u hu => ?_⟩
    rw [hrep.2.2 u (by rw [h.head]; exact hu)]
    exact (hval u hu).1
/-- All that are chosen have room, and none else is in the way of the one that is reserved. -/
theorem leaves_start {p : Int} {busy : List By} {s t : List Sp} {hw he at_ : Int} {l : List Jb} {b : Nat} (hb : ∀ x ∈ busy, x.1 = 0 ∧ 0 ≤ x.2.2) (hs : Rep s 0 (freeL p busy)) (hf : FitIs s 0 hw he at_ true) (h0 : 0 < at_)
    (hadd : AddIs s (at_, at_ + he) (-hw) t) (hj : ∀ j ∈ l, 0 ≤ j.width ∧ 0 ≤ j.est ∧ j.est ≤ 9223372036854775807)
    (hbest : tot (wsOf (itemsW l 0 at_)) b ≤ val t 0 ∧ tot (lsOf (itemsW l 0 at_)) b ≤ val s at_ - hw) : Leaves t (pickW l b) := by
  have hmono : ∀ u v, 0 ≤ u → u ≤ v → val s u ≤ val s v := fun u v hu huv => by
    rw [hs.2.2 u hu, hs.2.2 v (by omega)]
    have : ∀ (bs : List By) (q r : Int), q ≤ r → (∀ x ∈ bs, x.1 = 0 ∧ 0 ≤ x.2.2) → freeL q bs u ≤ freeL r bs v := by
      intro bs
      induction bs with
      | nil => intro q r hqr _; exact hqr
      | cons y bs ih =>
        intro q r hqr hbs
        obtain ⟨e1, e2⟩ := hbs y (by simp)
        show freeL (if y.1 ≤ u ∧ u < y.2.1 then q - y.2.2 else q) bs u ≤ freeL (if y.1 ≤ v ∧ v < y.2.1 then r - y.2.2 else r) bs v
        refine ih _ _ ?_ (fun x hx => hbs x (by simp [hx]))
        by_cases c1 : y.1 ≤ v ∧ v < y.2.1
        · have c2 : y.1 ≤ u ∧ u < y.2.1 := ⟨by rw [e1]; exact hu, by omega⟩
          rw [if_pos c1, if_pos c2]; omega
        · rw [if_neg c1]
          split <;> omega
    exact this busy p p (Int.le_refl _) hb
  have hhead := hs.2.1
  rcases hf with ⟨_, hm, hge, hroom, _⟩ | ⟨hf, _⟩
  case inr => cases hf
  obtain ⟨hc, hww, hee1, hee2⟩ := mayG_iff.1 hm
  have hat2 := hroom.2.1
  have hx : May ((at_, at_ + he) : Sp) := ⟨by show (0 : Int) ≤ at_; omega, by show at_ < at_ + he; omega, by show at_ + he ≤ _; omega⟩
  have hin : ∀ u, hasB ((at_, at_ + he) : Sp) u = true ↔ at_ ≤ u ∧ u < at_ + he := fun u => by
    rw [hasB_iff]
    exact ⟨fun q => q.2, fun q => ⟨hx, q⟩⟩
  have hnb : ¬ addBad s (at_, at_ + he) (-hw) := by
    rintro (h1 | h1 | h1 | h1)
    · exact chk_false h1 hc
    · rw [(mayB_iff _).2 hx] at h1; cases h1
    · omega
    · omega
  rcases hadd with ⟨hb2, _⟩ | ⟨_, ⟨u, hu, ho⟩, _⟩ | ⟨_, hrep⟩
  · exact absurd hb2 hnb
  · exfalso
    apply ho
    have hv := hc.val_free (t := u) hu
    unfold addF
    by_cases hcu : hasB ((at_, at_ + he) : Sp) u = true
    · have := hroom.2.2 u ((hin u).1 hcu).1 ((hin u).1 hcu).2
      rw [if_pos hcu]; omega
    · rw [if_neg hcu]; exact hv
  · have hval : ∀ u, 0 ≤ u → val t u = addF s (at_, at_ + he) (-hw) u := fun u hu => hrep.2.2 u (by rw [hhead]; exact hu)
    refine ⟨hrep.1, by rw [hrep.2.1]; exact hhead, fun u hu => ?_⟩
    rw [hval u hu]
    by_cases hlt : u < at_
    · have h1 := cover_all l 0 at_ u b fun j hj2 => (hj j hj2).1
      have h2 := hbest.1
      rw [hval 0 (Int.le_refl _)] at h2
      unfold addF at h2 ⊢
      rw [if_neg (fun q => by have := ((hin 0).1 q).1; omega)] at h2
      rw [if_neg (fun q => by have := ((hin u).1 q).1; omega)]
      have := hmono 0 u (Int.le_refl _) hu
      omega
    · have h1 := cover_long l at_ u b hj (by omega)
      have h2 := hbest.2
      have := hmono at_ u (by omega) (by omega)
      unfold addF
      split <;> omega
/-- The steps with the reserved one laid are steps. -/
theorem reserve_good {s t : List Sp} {hw he at_ : Int} (hhead : head s = 0) (hf : FitIs s 0 hw he at_ true) (h0 : 0 < at_) (hadd : AddIs s (at_, at_ + he) (-hw) t) : Chk t ∧ head t = 0 := by
  rcases hf with ⟨_, hm, hge, hroom, _⟩ | ⟨hf, _⟩
  case inr => cases hf
  obtain ⟨hc, hww, hee1, hee2⟩ := mayG_iff.1 hm
  have hat2 := hroom.2.1
  have hx : May ((at_, at_ + he) : Sp) := ⟨by show (0 : Int) ≤ at_; omega, by show at_ < at_ + he; omega, by show at_ + he ≤ _; omega⟩
  have hin : ∀ u, hasB ((at_, at_ + he) : Sp) u = true ↔ at_ ≤ u ∧ u < at_ + he := fun u => by
    rw [hasB_iff]
    exact ⟨fun q => q.2, fun q => ⟨hx, q⟩⟩
  have hnb : ¬ addBad s (at_, at_ + he) (-hw) := by
    rintro (h1 | h1 | h1 | h1)
    · exact chk_false h1 hc
    · rw [(mayB_iff _).2 hx] at h1; cases h1
    · omega
    · omega
  rcases hadd with ⟨hb2, _⟩ | ⟨_, ⟨u, hu, ho⟩, _⟩ | ⟨_, hrep⟩
  · exact absurd hb2 hnb
  · exfalso
    apply ho
    have hv := hc.val_free (t := u) hu
    unfold addF
    by_cases hcu : hasB ((at_, at_ + he) : Sp) u = true
    · have := hroom.2.2 u ((hin u).1 hcu).1 ((hin u).1 hcu).2
      rw [if_pos hcu]; omega
    · rw [if_neg hcu]; exact hv
  · exact ⟨hrep.1, by rw [hrep.2.1]; exact hhead⟩
/-- Of the choice's look nothing is amiss, and what is chosen has room. -/
theorem chosen_leaves {p : Int} {busy : List By} {s t : List Sp} {hw he at_ : Int} {rest : List Jb} (hb : ∀ x ∈ busy, x.1 = 0) (hs : OfIs p 0 busy s 0) (hf : FitIs s 0 hw he at_ true) (h0 : 0 < at_)
    (hadd : AddIs s (at_, at_ + he) (-hw) t) : badW t 0 ⟨9, at_, val s at_ - hw⟩ = false ∧ Leaves t (chosenW t 0 rest ⟨9, at_, val s at_ - hw⟩) := by
  obtain ⟨hnb, hrep⟩ : ¬ ofBad p 0 busy ∧ Rep s 0 (freeL p busy) := by
    rcases hs with ⟨_, _, e⟩ | ⟨_, _, _, e⟩ | ⟨h1, _, h2⟩
    · cases e
    · cases e
    · exact ⟨h1, h2⟩
  obtain ⟨hct, hht⟩ := reserve_good hrep.2.1 hf h0 hadd
  have hroom : 0 ≤ val s at_ - hw ∧ val s at_ - hw ≤ 256 := by
    rcases hf with ⟨_, hm, hge, hroom, _⟩ | ⟨hf, _⟩
    · obtain ⟨hc, hww, hee1, hee2⟩ := mayG_iff.1 hm
      have h1 := hroom.2.2 at_ (Int.le_refl _) (by omega)
      have h2 := hc.val_free (t := at_) hroom.1
      omega
    · cases hf
  have hbad : badW t 0 ⟨9, at_, val s at_ - hw⟩ = false := by
    unfold badW
    rw [(chk_iff t).2 hct, hht]
    simp
    omega
  refine ⟨hbad, ?_⟩
  unfold chosenW
  rw [if_neg (by rw [hbad]; decide)]
  have hv0 : 0 ≤ val t 0 := (hct.val_free (by rw [hht]; exact Int.le_refl _)).1
  have hbest := bestI_is (itemsW (winL t 0 9 rest) 0 at_) hv0 hroom.1
  refine leaves_start (fun x hx => ⟨hb x hx, ?_⟩) hrep hf h0 hadd (fun j hj => ?_) ⟨hbest.fits, hbest.longs⟩
  · have h1 := (not_bad hnb).1 x hx
    unfold byB at h1
    simp only [Bool.and_eq_true, decide_eq_true_eq] at h1
    omega
  · have h1 := mayG_iff.1 (okG_iff.1 (win_mem hj).2).1
    omega
theorem chosen_mem {s : List Sp} {now : Int} {jobs : List Jb} {x : Lok} {j : Jb} (h : j ∈ chosenW s now jobs x) : j ∈ jobs := by
  unfold chosenW at h
  split at h
  · cases h
  · exact (win_mem ((pick_sub _ _).subset h)).1
theorem chosen_len (s : List Sp) (now : Int) (jobs : List Jb) (x : Lok) : (chosenW s now jobs x).length ≤ jobs.length := by
  unfold chosenW
  split
  · exact Nat.zero_le _
  · exact Nat.le_trans (pick_sub _ _).length_le (win_len _ _ _ _).2
theorem rise_nodup {e : List Int} (h : Rise e) : e.Nodup := List.Pairwise.imp (fun h => Int.ne_of_lt h) h
theorem ends_len (l : List Sp) (m : List Int) (h : ∀ s ∈ l, s.1 ∈ m ∧ s.2 ∈ m) : (endsL l).length ≤ m.length := by
  have hs := ends_spec l
  refine sub_len _ _ (rise_nodup hs.1) fun x hx => ?_
  obtain ⟨s, hs1, _, hs2⟩ := (hs.2.1 x).1 hx
  rcases hs2 with h2 | h2
  · rw [h2]; exact (h s hs1).1
  · rw [h2]; exact (h s hs1).2
theorem ends_mem {l : List By} {s : Sp} (h : s ∈ busySp l) : s.1 ∈ (l.flatMap fun b => [b.1, b.2.1]) ∧ s.2 ∈ (l.flatMap fun b => [b.1, b.2.1]) := by
  obtain ⟨b, hb, rfl⟩ := List.mem_map.1 h
  exact ⟨List.mem_flatMap.2 ⟨b, hb, by simp⟩, List.mem_flatMap.2 ⟨b, hb, by simp⟩⟩
theorem flat_len (l : List By) : (l.flatMap fun b => [b.1, b.2.1]).length = 2 * l.length := by
  induction l with
  | nil => rfl
  | cons b l ih => simp only [List.flatMap_cons, List.length_append, List.length_cons, List.length_nil, ih]; omega
theorem of_len {p : Int} {l : List By} {s : List Sp} (h : OfIs p 0 l s 0) : s.length ≤ 2 * l.length + 1 := by
  rcases h with ⟨_, _, e⟩ | ⟨_, _, _, e⟩ | ⟨hb, _, hr⟩
  · cases e
  · cases e
  · have hn : ∀ x ∈ turnsL 0 l, 0 ≤ freeL p l x := fun x hx => by
      have h1 := turns_ge x hx
      rw [← hr.2.2 x h1]
      exact (hr.1.val_free (by rw [hr.2.1]; exact h1)).1
    have e := (OfIs.unique (of_done hb hn) (.inr (.inr ⟨hb, rfl, hr⟩))).1
    rw [← e]
    refine Nat.le_trans (build_len _ _) ?_
    have h1 := List.length_filter_le (fun e => decide ((0 : Int) < e)) (endsL (busySp l))
    have h2 := ends_len (busySp l) _ (fun s hs => ends_mem hs)
    rw [flat_len] at h2
    show ((0 : Int) :: (endsL (busySp l)).filter fun e => decide ((0 : Int) < e)).length ≤ _
    rw [List.length_cons]
    omega
theorem add_len {s r : List Sp} {x : Sp} {n : Int} (h : AddIs s x n r) : r.length ≤ s.length + 3 := by
  rcases h with ⟨_, rfl⟩ | ⟨_, _, rfl⟩ | ⟨hb, hr⟩
  · exact Nat.zero_le _
  · exact Nat.zero_le _
  · obtain ⟨hc, hx, _, _⟩ := not_addBad hb
    have hf : ∀ e ∈ addEnds s x, 0 ≤ addF s x n e ∧ addF s x n e ≤ 256 := fun e he => by
      have h1 := ((keep_iff hc).1 (List.mem_filter.1 he).2).1
      by_cases hh : 0 ≤ addF s x n e ∧ addF s x n e ≤ 256
      · exact hh
      · exact absurd ⟨e, h1, hh⟩ (rep_fits hr)
    have e := AddIs.unique (add_done hb hf) (.inr (.inr ⟨hb, hr⟩))
    rw [← e]
    refine Nat.le_trans (build_len _ _) ?_
    have h1 := List.length_filter_le (keepB s x) (endsL (addSpans s x))
    have h2 := ends_len (addSpans s x) (x.1 :: x.2 :: 4503599627370496 :: s.map (·.1)) (fun y hy => by
      rcases List.mem_cons.1 hy with rfl | hy
      · simp
      · obtain ⟨z, hz, rfl⟩ := List.mem_map.1 hy
        exact ⟨by simp only [List.mem_cons, List.mem_map]; exact .inr (.inr (.inr ⟨z, hz, rfl⟩)), by simp⟩)
    simp only [List.length_cons, List.length_map] at h2
    show ((endsL (addSpans s x)).filter (keepB s x)).length ≤ _
    omega
/-- Unlike Ids. -/
def Unlike (l : List Jb) : Prop := ∀ i j (hi : i < l.length) (hj : j < l.length), i < j → l[i].id ≠ l[j].id
theorem find_own {l : List Jb} (hu : Unlike l) {k : Nat} (hk : k < l.length) : findL l l[k].id = k :=
  find_at hk (fun i hi hik => by simpa using hu i k hi hk hik) (by simp)
theorem find_mem {j c : Jb} {l : List Jb} (hu : Unlike (j :: l)) (hc : c ∈ l) : ∃ k : Nat, 1 ≤ k ∧ ∃ h : k < (j :: l).length, (j :: l)[k] = c ∧ findL (j :: l) c.id = k := by
  obtain ⟨i, hi, rfl⟩ := List.mem_iff_getElem.1 hc
  refine ⟨i + 1, by omega, by simpa using hi, by simp, ?_⟩
  have := find_own hu (k := i + 1) (by simpa using hi)
  simpa using this
/-- How far the jobs may be and have unlike Ids. -/
def goodTo (l : List Jb) (k : Nat) : Prop := ∀ i (hi : i < l.length), i < k → mayJ l[i] = true ∧ findL (l.take i) l[i].id < 0
theorem find_neg {l : List Jb} {id : Int} (h : findL l id < 0) : ∀ x ∈ l, x.id ≠ id := fun x hx e => by
  have hs : (l.findIdx? (fun j => j.id == id)).isSome = true := by
    rw [List.findIdx?_isSome]
    exact List.any_eq_true.2 ⟨x, hx, by simpa using e⟩
  unfold findL findTo at h
  cases hf : l.findIdx? (fun j => j.id == id) with
  | none => rw [hf] at hs; cases hs
  | some i => rw [hf] at h; have : (0 : Int) ≤ (i : Int) := Int.natCast_nonneg _; exact absurd h (by show ¬ (i : Int) < 0; omega)
theorem good_unlike {l : List Jb} (h : goodTo l l.length) : Unlike l := fun i j hi hj hij => by
  have h1 := find_neg (h j hj hj).2 l[i] (List.mem_iff_getElem.2 ⟨i, by rw [List.length_take]; omega, by rw [List.getElem_take]⟩)
  exact h1
theorem good_next {l : List Jb} {k : Nat} (h : goodTo l k) (hk : k < l.length) (h1 : mayJ l[k] = true) (h2 : findL (l.take k) l[k].id < 0) : goodTo l (k + 1) := fun i hi hik => by
  by_cases e : i = k
  · subst e; exact ⟨h1, h2⟩
  · exact h i hi (by omega)
end Go.Proofs.Ytkaepadkdohmpaa.WinPlain
