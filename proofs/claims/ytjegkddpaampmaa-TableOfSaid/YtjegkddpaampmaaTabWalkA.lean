/-
  The walks of layer 11's code: what a table is in memory, what is looked up in its map and stored there; isMade, waits, of, New. The walks of layer 11's code: those of a table that are meant, in whatever order the map gives them; Count, Live. The walks of layer 11's code: Count, Live, and what they ask those for.
-/
import Derived.Test.YtjegkddpaampmaaTabSay
import Derived.Test.YtjegkddpaampmaaTabPlain
import Derived.Test.YtjegkddpaampmaaJobWalkB
import Derived.Test.YtjegkddpaampmaaOrdWalkA
import Derived.Maps.RangeWalk
import Derived.Shelf.Abstract
namespace Go.Proofs.Ytjegkddpaampmaa.TabWalk
open Go.RowKit Go.Proofs.Ytjegkddpaampmaa.JobPlain Go.Proofs.Ytjegkddpaampmaa.OrdPlain Go.Proofs.Ytjegkddpaampmaa.TabPlain Go.Proofs.Ytjegkddpaampmaa.Mem Go.Proofs.Ytjegkddpaampmaa.JobMem Go.Proofs.Ytjegkddpaampmaa.OrdMem Go.Proofs.Ytjegkddpaampmaa.OrdRef Go.Proofs.Ytjegkddpaampmaa.TabRef
theorem intLaw : Maps.Keyed Try.prog 3 := Maps.int_keyed Try.underlying3
theorem jobZero (w : World) : (zeroValue 28).run Try.prog w = .ok (jobV noJb) w := by kernel_rfl
theorem mapType : Try.prog.underlying 42 = some (.map 3 28) := Try.underlying42
/-- A map's datum: its elements are told as they are. -/
abbrev MapD := DataW Value
def heldR (v : Value) : Option (MapD × List MemPlace) := some (.held v, [])
abbrev MapAt (w : World) (b n : Nat) (D : MapD) : Prop := w.ownsMap Try.prog 3 heldR b n D
abbrev ik (x : Int) : Lit := .int .i64 x
theorem key_lit (x : Int) : WideAt.IsKeyLit (ik x) := by unfold WideAt.IsKeyLit ik; simp
theorem same_ik (x y : Int) : (ik x).sameKey (ik y) = decide (x = y) := by simp [ik, Lit.sameKey]
/-- A map that has just these jobs. -/
structure MapJ (D : MapD) (l : List Jb) : Prop where
  tidy : Maps.Tidy D
  yes : ∀ j ∈ l, ∀ z, D.atKey (ik j.id) z = .held (jobV j)
  no : ∀ id, (∀ j ∈ l, j.id ≠ id) → Maps.has D (ik id) = false
  size : Maps.size D = l.length
theorem MapJ.has {D : MapD} {l : List Jb} (h : MapJ D l) {j : Jb} (hj : j ∈ l) : Maps.has D (ik j.id) = true := Maps.has_true_of_atKey (h.yes j hj)
theorem MapJ.empty : MapJ (.map []) [] := ⟨Maps.tidy_empty, fun _ h => by simp at h, fun _ _ => rfl, rfl⟩
theorem MapJ.put {D : MapD} {l l' : List Jb} (h : MapJ D l) (j : Jb) (hm : ∀ x, x ∈ l' ↔ x = j ∨ (x ∈ l ∧ x.id ≠ j.id)) (hs : l'.length = if Maps.has D (ik j.id) = true then l.length else l.length + 1) : MapJ (D.put (ik j.id) (.held (jobV j))) l' := by
  refine ⟨h.tidy.put (key_lit _) _, fun x hx z => ?_, fun id hid => ?_, ?_⟩
  · rcases (hm x).1 hx with rfl | ⟨h1, h2⟩
    · exact Maps.atKey_put_same h.tidy.isMap (key_lit _) _ _
    · rw [Maps.atKey_put_other (fun e => h2 (by injection e))]
      exact h.yes x h1 z
  · have h1 : id ≠ j.id := fun e => hid j ((hm j).2 (.inl rfl)) e.symm
    rw [Maps.has_put_other (fun e => h1 (by injection e))]
    refine h.no id fun x hx e => ?_
    by_cases h2 : x.id = j.id
    · exact h1 (e.symm.trans h2)
    · exact hid x ((hm x).2 (.inr ⟨hx, h2⟩)) e
  · rw [Maps.size_put h.tidy, hs, h.size]
theorem MapAt.tight {w : World} {b n : Nat} {D : MapD} (h : MapAt w b n D) : MapAt w b (Maps.size D) D := by
  obtain ⟨es, clock, hb, F, hs, rfl⟩ := h
  refine ⟨es, clock, hb, F, ?_, rfl⟩
  rw [Maps.size_eq, length_sorted]; simp
theorem wf_id {x : Int} (h : 1 ≤ x ∧ x ≤ 1073741824) : (Lit.int .i64 x).wf = true := WalkArith.wf_i64 (by omega)
theorem may_id {j : Jb} (h : mayJ j = true) : 1 ≤ j.id ∧ j.id ≤ 1073741824 := by
  have h1 := may_base h
  exact ⟨h1.id1, h1.id2⟩
theorem get_no {l : List Jb} {id : Int} (h : findL l id < 0) : getJ l id = noJb := by unfold getJ; rw [if_neg (by omega)]
theorem get_yes {l : List Jb} {id : Int} {k : Nat} (hk : k < l.length) (h : findL l id = k) : getJ l id = l[k] := by
  unfold getJ atI
  rw [if_pos (by omega), h]
  simp [List.getD, hk]
/-- What is looked up. -/
theorem look_any {w : World} {b n : Nat} {D : MapD} {l : List Jb} (h : MapAt w b n D) (M : MapJ D l) (hid : ∀ j ∈ l, 1 ≤ j.id ∧ j.id ≤ 1073741824) (id : Int) (c : Bool) :
    (Instr.lookup 42 (.map (some b)) (.int .i64 id) c).run Try.prog w = .ok (if c then .tuple #[jobV (getJ l id), .bool (decide (0 ≤ findL l id))] else jobV (getJ l id)) w := by
  obtain ⟨es, clock, hb, F, hs, rfl⟩ := h
  by_cases hf : findL l id < 0
  · rw [get_no hf, decide_eq_false (by omega)]
    have hn := M.no id (find_not hf)
    have hks : ∀ x ∈ es.toList, MapKept.IsKey (.int .i64) x.key := fun x hx => by
      obtain ⟨y, hy⟩ := F.reads x hx
      obtain ⟨q, e, _⟩ := Maps.keyOf_int_inv Try.underlying3 (WideElems.rd_key hy)
      rw [e]
      exact rfl
    rcases MapKept.findNow_spec (d := .int .i64) (k := .int .i64 id) rfl es.toList 0 hks with ⟨h1, _⟩ | ⟨j, e0, h1, h2, h3⟩
    · have h4 := MapKept.run_findKey (P := Try.prog) (w := w) Try.underlying3 h1
      have h5 : ∀ em, (Instr.checkKey em 10000 3 (.int .i64 id)).run Try.prog w = .ok () w := fun em => MapKept.run_checkKey (d := .int .i64) (k := .int .i64 id) Try.underlying3 rfl em 9999
      simp [Instr.lookup, run_underlying mapType, MapKept.run_getObj_map hb, h4, h5, jobZero, Result.andThen]
      rfl
    · exfalso
      obtain ⟨y, hy⟩ := F.reads e0 (List.mem_of_getElem? h2)
      have h4 := WideElems.rd_key hy
      rw [h3] at h4
      rcases Maps.fit_look false intLaw mapType (jobZero w) hb F h4 with ⟨_, h5, _⟩ | ⟨_, y2, _, _, _, _, h5, _⟩
      · exact h5 e0 (List.mem_of_getElem? h2) h3
      · obtain ⟨q, e, e2, _⟩ := Maps.keyOf_int_inv Try.underlying3 h4
        injection e with _ e
        subst e
        rw [e2] at h5
        rw [Maps.has_true_of_atKey h5] at hn
        cases hn
  · obtain ⟨k, hk, h1, h2⟩ := find_yes hf
    have hm : l[k] ∈ l := List.getElem_mem hk
    rw [get_yes hk h1, decide_eq_true (by omega)]
    have hy := M.yes _ hm
    rw [h2] at hy
    have hi := hid _ hm
    rw [h2] at hi
    rcases Maps.fit_look c intLaw mapType (jobZero w) hb F (Maps.keyOf_int_mk Try.underlying3 (wf_id hi)) with ⟨_, _, h5⟩ | ⟨e0, y2, _, _, h6, h7, h5, _⟩
    · have := (h5 .nil).symm.trans (hy .nil)
      cases this
    · have h8 := (h5 .nil).symm.trans (hy .nil)
      injection h7 with h7
      rw [← h7] at h8
      injection h8 with h8
      rw [h6, h8]
theorem store_any {w : World} {b n : Nat} {D : MapD} (h : MapAt w b n D) (hn : n < maxLen) {j : Jb} (hj : 1 ≤ j.id ∧ j.id ≤ 1073741824) :
    ∃ w', (Instr.mapUpdate 42 (.map (some b)) (.int .i64 j.id) (jobV j)).run Try.prog w = .ok () w' ∧ MapAt w' b (n + 1) (D.put (ik j.id) (.held (jobV j))) ∧ w.grownBy w' (some b) :=
  h.update intLaw mapType hn (Maps.keyOf_int_mk Try.underlying3 (wf_id hj)) rfl
/-- Jobs that may be, rising by Id. -/
structure Good (l : List Jb) : Prop where
  may : ∀ j ∈ l, mayJ j = true
  rise : l.Pairwise fun a b => a.id < b.id
/-- A table's own block and its map's, however many are live. -/
structure TabRow (O : List Nat) (l : List Jb) (w : World) (g b : Nat) (D : MapD) : Prop where
  ok : Good l
  gm : g ∈ O
  bm : b ∈ O
  ne : g ≠ b
  lt : ∀ i ∈ O, i < w.heap.size
  box : Boxed w g [.map (some b)]
  map : MapAt w b l.length D
  is : MapJ D l
/-- A table. -/
structure TabIs (O : List Nat) (l : List Jb) (w : World) (g b : Nat) (D : MapD) : Prop where
  row : TabRow O l w g b D
  live : liveN l ≤ 100
theorem TabIs.ok {O : List Nat} {l : List Jb} {w : World} {g b : Nat} {D : MapD} (h : TabIs O l w g b D) : TableOk l := ⟨h.row.ok.may, h.row.ok.rise, h.live⟩
theorem TabIs.gm {O : List Nat} {l : List Jb} {w : World} {g b : Nat} {D : MapD} (h : TabIs O l w g b D) : g ∈ O := h.row.gm
theorem TabIs.bm {O : List Nat} {l : List Jb} {w : World} {g b : Nat} {D : MapD} (h : TabIs O l w g b D) : b ∈ O := h.row.bm
theorem TabIs.ne {O : List Nat} {l : List Jb} {w : World} {g b : Nat} {D : MapD} (h : TabIs O l w g b D) : g ≠ b := h.row.ne
theorem TabIs.lt {O : List Nat} {l : List Jb} {w : World} {g b : Nat} {D : MapD} (h : TabIs O l w g b D) : ∀ i ∈ O, i < w.heap.size := h.row.lt
theorem TabIs.box {O : List Nat} {l : List Jb} {w : World} {g b : Nat} {D : MapD} (h : TabIs O l w g b D) : Boxed w g [.map (some b)] := h.row.box
theorem TabIs.map {O : List Nat} {l : List Jb} {w : World} {g b : Nat} {D : MapD} (h : TabIs O l w g b D) : MapAt w b l.length D := h.row.map
theorem TabIs.is {O : List Nat} {l : List Jb} {w : World} {g b : Nat} {D : MapD} (h : TabIs O l w g b D) : MapJ D l := h.row.is
theorem map_block {w w' : World} {b n : Nat} {D : MapD} (h : MapAt w b n D) (e : w'.heap[b]? = w.heap[b]?) : MapAt w' b n D := by
  obtain ⟨es, clock, hb, F, hs, hD⟩ := h
  exact ⟨es, clock, e.trans hb, F, hs, hD⟩
theorem TabRow.keep {O : List Nat} {l : List Jb} {w w' : World} {g b : Nat} {D : MapD} (h : TabRow O l w g b D) (hs : w.heap.size ≤ w'.heap.size) (e : ∀ i ∈ O, w'.heap[i]? = w.heap[i]?) : TabRow O l w' g b D :=
  ⟨h.ok, h.gm, h.bm, h.ne, fun i hi => Nat.lt_of_lt_of_le (h.lt i hi) hs, h.box.of_block (Nat.lt_of_lt_of_le h.box.lt hs) (e _ h.gm), map_block h.map (e _ h.bm), h.is⟩
theorem TabRow.below {O : List Nat} {l : List Jb} {w w' : World} {g b : Nat} {D : MapD} (h : TabRow O l w g b D) (hb : Below w.heap.size w w') : TabRow O l w' g b D := h.keep hb.size fun i hi => hb.block i (h.lt i hi)
theorem TabRow.ids {O : List Nat} {l : List Jb} {w : World} {g b : Nat} {D : MapD} (h : TabRow O l w g b D) : ∀ j ∈ l, 1 ≤ j.id ∧ j.id ≤ 1073741824 := fun j hj => may_id (h.ok.may j hj)
theorem TabIs.keep {O : List Nat} {l : List Jb} {w w' : World} {g b : Nat} {D : MapD} (h : TabIs O l w g b D) (hs : w.heap.size ≤ w'.heap.size) (e : ∀ i ∈ O, w'.heap[i]? = w.heap[i]?) : TabIs O l w' g b D := ⟨h.row.keep hs e, h.live⟩
theorem TabIs.below {O : List Nat} {l : List Jb} {w w' : World} {g b : Nat} {D : MapD} (h : TabIs O l w g b D) (hb : Below w.heap.size w w') : TabIs O l w' g b D := ⟨h.row.below hb, h.live⟩
theorem TabIs.ids {O : List Nat} {l : List Jb} {w : World} {g b : Nat} {D : MapD} (h : TabIs O l w g b D) : ∀ j ∈ l, 1 ≤ j.id ∧ j.id ≤ 1073741824 := h.row.ids
def Tab (O : List Nat) (l : List Jb) (w : World) (v : Value) : Prop := ∃ g b D, v = .pointer (some ⟨g, 0, none⟩) ∧ TabIs O l w g b D
theorem Tab.lt {O : List Nat} {l : List Jb} {w : World} {v : Value} (h : Tab O l w v) : ∀ i ∈ O, i < w.heap.size := by obtain ⟨_, _, _, _, h⟩ := h; exact h.lt
theorem Tab.keep {O : List Nat} {l : List Jb} {w w' : World} {v : Value} (h : Tab O l w v) (hs : w.heap.size ≤ w'.heap.size) (e : ∀ i ∈ O, w'.heap[i]? = w.heap[i]?) : Tab O l w' v := by
  obtain ⟨g, b, D, h1, h2⟩ := h
  exact ⟨g, b, D, h1, h2.keep hs e⟩
theorem Tab.is {O : List Nat} {l : List Jb} {w : World} {v : Value} (h : Tab O l w v) : TableOk l := by obtain ⟨_, _, _, _, h⟩ := h; exact h.ok
def NoTab (w : World) (v : Value) : Prop := v = .pointer none ∨ ∃ g, v = .pointer (some ⟨g, 0, none⟩) ∧ Boxed w g [.map none]
theorem NoTab.below {w w' : World} {v : Value} (h : NoTab w v) (hb : Below w.heap.size w w') : NoTab w' v := by
  rcases h with h | ⟨g, h1, h2⟩
  · exact .inl h
  · exact .inr ⟨g, h1, h2.below hb⟩
theorem noTab_nil (w : World) : NoTab w (.pointer none) := .inl rfl
theorem noTab_zero (w : World) : NoTab (w.alloc (.cells #[.map none] 44)) (.pointer (some ⟨w.heap.size, 0, none⟩)) := .inr ⟨_, rfl, Boxed.new w #[.map none] _⟩
theorem neq_some (b : Nat) (w : World) : (binOp .neq 42 (.map (some b)) (.map none)).run Try.prog w = .ok (.bool true) w := by kernel_rfl
theorem neq_none (w : World) : (binOp .neq 42 (.map none) (.map none)).run Try.prog w = .ok (.bool false) w := by kernel_rfl
def BoolS (b : Bool) (w : World) (e : Ending) (w' : World) : Prop := e = .returned (.bool b) ∧ w' = w
set_option maxRecDepth 100000 in
theorem isMadeS {O : List Nat} {l : List Jb} {w : World} {g b : Nat} {D : MapD} (h : TabRow O l w g b D) : Calls Try.prog 23 #[.pointer (some ⟨g, 0, none⟩)] w (BoolS true w) := by
  have c0 := h.box.c 0 _ rfl
  have q0 := neq_some
  clear h
  go_enter Try.func23, Try.ntmps23
  go_wp2_with fail
  go_ret
  exact ⟨rfl, rfl⟩
set_option maxRecDepth 100000 in
theorem noMade {w : World} {v : Value} (h : NoTab w v) : Calls Try.prog 23 #[v] w (BoolS false w) := by
  rcases h with rfl | ⟨g, rfl, h⟩
  · go_enter Try.func23, Try.ntmps23
    go_wp2_with fail
    go_ret
    exact ⟨rfl, rfl⟩
  · have c0 := h.c 0 _ rfl
    have q0 := neq_none
    clear h
    go_enter Try.func23, Try.ntmps23
    go_wp2_with fail
    go_ret
    exact ⟨rfl, rfl⟩
def waitB (j : Jb) : Bool := (j.state == 0) || (j.state == 1)
set_option maxRecDepth 100000 in
theorem waits_any (j : Jb) (w : World) : Calls Try.prog 25 #[jobV j] w (BoolB (waitB j) w) := by
  have HX := JobBox.new w j 28
  have HB := below_box w (.cells #[.int .i64 j.id, .string j.user, .int .i64 j.width, .int .i64 j.est, .int .i64 j.prio, .int .i64 j.sub, .int .i64 j.state, .int .i64 j.start, .int .i64 j.fin] 28)
  obtain ⟨_, _, _, _, _, _, _, c6, _, _, _, _, _, _, _, _, _, _, _⟩ := HX
  unfold jobV jobA waitB
  rcases or_ways (j.state == 0) (j.state == 1) with ⟨h0, hh⟩ | ⟨h0, h1, hh⟩ | ⟨h0, h1, hh⟩
  all_goals
    rw [hh]
    have HHB := Lib.hid HB
    go_enter Try.func25, Try.ntmps25
    go_wp2_with fail
    go_ret
    exact ⟨rfl, HHB.out⟩
set_option maxRecDepth 100000 in
theorem newS (w : World) : Calls Try.prog 7 #[] w (NewSays Tab w) := by
  have hmm := @run_makeMap Try.prog
  have hown := World.ownsMap_made (H := Value) w Try.prog 3 heldR
  have HOW := Lib.hid (hown.alloc (.cells #[.map (some w.heap.size)] 44))
  have HBX := Lib.hid (Boxed.new (w.alloc (.map #[] 0)) #[.map (some w.heap.size)] 44)
  have HB := Lib.hid ((below_box w (.map #[] 0)).alloc (by simp) (.cells #[.map (some w.heap.size)] 44))
  clear hown
  go_enter Try.func7, Try.ntmps7
  go_wp2_with fail
  go_ret
  refine ⟨_, [w.heap.size + 1, w.heap.size], rfl, ⟨w.heap.size + 1, w.heap.size, .map [], by simp, ⟨⟨⟨by simp, List.Pairwise.nil⟩, by simp, by simp, by omega, by simp; omega, ?_, HOW.out, MapJ.empty⟩, by decide⟩⟩, by simp, HB.out⟩
  have := HBX.out
  simpa using this
end Go.Proofs.Ytjegkddpaampmaa.TabWalk
namespace Go.Proofs.Ytjegkddpaampmaa.TabWalk
open Go.RowKit Go.Proofs.Ytjegkddpaampmaa.JobPlain Go.Proofs.Ytjegkddpaampmaa.OrdPlain Go.Proofs.Ytjegkddpaampmaa.TabPlain Go.Proofs.Ytjegkddpaampmaa.Mem Go.Proofs.Ytjegkddpaampmaa.JobMem Go.Proofs.Ytjegkddpaampmaa.OrdMem Go.Proofs.Ytjegkddpaampmaa.OrdRef Go.Proofs.Ytjegkddpaampmaa.TabRef
theorem next_jobs {ops : Array Oper} {rest : List Oper} {o : Oper} {a : Act} {Q : Exit → Act → World → Prop} (w : World) (hg : o.guard = none) (it : Operand) (hop : o.op = Op.next it false) (b r n : Nat) (D : MapD) (left : Lit → Bool) (cnt : Nat)
    (hit : a.eval it = .pointer (some ⟨r, 0, none⟩)) (h : w.ranges Try.prog 3 heldR b r n D left cnt)
    (hDone : cnt = 0 → (∀ kl, left kl = false) → wpList Try.prog ops Q rest (a.put o.dst (.tuple #[.bool false])) w)
    (hMore : ∀ (x : Int) (v : Value) (w' : World) (cnt' : Nat), left (ik x) = true → Maps.has D (ik x) = true → w'.ranges Try.prog 3 heldR b r n D (fun z => left z && !z.sameKey (ik x)) cnt' → cnt' < cnt → w.grownBy w' (some r) → w'.heap.size = w.heap.size →
      (Instr.entry (.pointer (some ⟨r, 0, none⟩))).run Try.prog w' = .ok (.tuple #[.int .i64 x, v]) w' → wpList Try.prog ops Q rest (a.put o.dst (.tuple #[.bool true, .int .i64 x, v])) w') :
    wpList Try.prog ops Q (o :: rest) a w :=
  wpList_next_ranges w hg it hop 3 intLaw heldR (Value.int .i64) (fun v => v) (fun key kl hkey => by obtain ⟨x, rfl, _⟩ := Maps.keyOf_int_inv Try.underlying3 hkey; exact ⟨x, rfl⟩) (fun v y _ => ⟨v, rfl⟩) b r n D left cnt hit h hDone (fun x c kl y w' cnt' hkey hlk hv hat hrg hlt hgr hsz hen => by
    obtain ⟨x', ex, rfl, _⟩ := Maps.keyOf_int_inv Try.underlying3 hkey
    cases ex
    exact hMore x c w' cnt' hlk (Maps.has_true_of_atKey hat) hrg hlt hgr hsz hen)
/-- The jobs met so far that are meant. -/
structure Got (l : List Jb) (p : Jb → Bool) (left : Lit → Bool) (m : List Jb) : Prop where
  once : m.Nodup
  mem : ∀ y, y ∈ m ↔ y ∈ l ∧ left (ik y.id) = false ∧ p y = true
section
variable {l m : List Jb} {p : Jb → Bool} {left : Lit → Bool}
theorem Got.start {D : MapD} (M : MapJ D l) : Got l p (Maps.has D) [] := ⟨List.nodup_nil, fun y => by
  constructor
  · intro h; simp at h
  · rintro ⟨h1, h2, _⟩; rw [M.has h1] at h2; cases h2⟩
theorem Got.yes (h : Got l p left m) (hr : l.Pairwise fun a b => a.id < b.id) {j : Jb} (hj : j ∈ l) (hl : left (ik j.id) = true) (hp : p j = true) : Got l p (fun z => left z && !z.sameKey (ik j.id)) (m ++ [j]) := by
  have hx : j ∉ m := fun hm => by have := ((h.mem j).1 hm).2.1; rw [hl] at this; cases this
  refine ⟨List.nodup_append.2 ⟨h.once, by simp, fun a ha b hb => by simp at hb; subst hb; exact fun e => hx (e ▸ ha)⟩, fun y => ?_⟩
  rw [List.mem_append, h.mem, same_ik]
  by_cases hy : y.id = j.id
  · constructor
    · rintro (⟨h1, _, h3⟩ | h1)
      · exact ⟨h1, by simp [hy], h3⟩
      · simp at h1; subst h1; exact ⟨hj, by simp, hp⟩
    · rintro ⟨h1, _, _⟩
      have := id_one hr h1 hj hy
      subst this
      exact .inr (by simp)
  · constructor
    · rintro (⟨h1, h2, h3⟩ | h1)
      · exact ⟨h1, by simp [h2], h3⟩
      · simp at h1; subst h1; exact absurd rfl hy
    · rintro ⟨h1, h2, h3⟩
      exact .inl ⟨h1, by simpa [hy] using h2, h3⟩
theorem Got.no (h : Got l p left m) (hr : l.Pairwise fun a b => a.id < b.id) {j : Jb} (hj : j ∈ l) (hl : left (ik j.id) = true) (hp : p j = false) : Got l p (fun z => left z && !z.sameKey (ik j.id)) m := by
  refine ⟨h.once, fun y => ?_⟩
  rw [h.mem, same_ik]
  by_cases hy : y.id = j.id
  · constructor
    · rintro ⟨h1, _, h3⟩
      exact ⟨h1, by simp [hy], h3⟩
    · rintro ⟨h1, _, h3⟩
      have := id_one hr h1 hj hy
      subst this
      rw [hp] at h3; cases h3
  · simp [hy]
theorem rise_once (hr : l.Pairwise fun a b => a.id < b.id) : l.Nodup := by
  rw [List.nodup_iff_pairwise_ne]
  exact hr.imp (fun {a b} h e => by subst e; omega)
theorem Got.done (h : Got l p left m) (hr : l.Pairwise fun a b => a.id < b.id) (hl : ∀ kl, left kl = false) : m.Perm (l.filter p) :=
  (List.perm_ext_iff_of_nodup h.once ((rise_once hr).filter _)).2 fun y => by rw [h.mem, List.mem_filter, hl]; simp
theorem MapJ.key {D : MapD} (M : MapJ D l) {x : Int} (h : Maps.has D (ik x) = true) : ∃ j ∈ l, j.id = x := by
  apply Classical.byContradiction
  intro hn
  rw [M.no x (fun j hj e => hn ⟨j, hj, e⟩)] at h
  cases h
theorem get_of (hr : l.Pairwise fun a b => a.id < b.id) {j : Jb} (hj : j ∈ l) : getJ l j.id = j := by
  have hf : ¬ findL l j.id < 0 := fun h => find_not h j hj rfl
  obtain ⟨k, hk, h1, h2⟩ := find_yes hf
  rw [get_yes hk h1]
  exact id_one hr (List.getElem_mem hk) hj h2
end
theorem grown_none {w w' : World} (h : Below w.heap.size w w') : w.grownBy w' none := ⟨h.os, h.tape, h.output, h.size, fun i hi _ => h.block i hi⟩
theorem own_off {e : TypeId} {k base n r : Nat} {w : World} {v : Value} {xs : List Value} (h : OwnN e k base w v n xs) (hr : r < base) : v.ownBlock ≠ some r := fun hc => by have := (h.1.lt _ hc).1; omega
theorem own_kept {e : TypeId} {k base n r : Nat} {w w' : World} {v : Value} {xs : List Value} (h : OwnN e k base w v n xs) (hg : w.grownBy w' (some r)) (hr : r < base) : OwnN e k base w' v n xs :=
  ⟨h.1.kept hg (.inr (own_off h hr)), Nat.le_trans h.2 hg.size⟩
/-- A function value's calls tell p of these jobs, in every world behind w. -/
def TellsOf (l : List Jb) (g : Nat) (cb : Array Value) (p : Jb → Bool) (w : World) : Prop := ∀ (W : World) (j : Jb), j ∈ l → Below w.heap.size w W → Calls Try.prog g (#[jobV j] ++ cb) W (BoolB (p j) W)
/-- What those answers: in new memory, in whatever order. -/
def ThoseSays (l : List Jb) (p : Jb → Bool) (w : World) (e : Ending) (w' : World) : Prop := ∃ v m, e = .returned v ∧ OwnN 28 9 w.heap.size w' v m.length (jvals m) ∧ m.Perm (l.filter p) ∧ Below w.heap.size w w'
set_option maxRecDepth 100000 in
set_option maxHeartbeats 3200000 in
theorem thoseS {O : List Nat} {l : List Jb} {w : World} {g b : Nat} {D : MapD} (h : TabRow O l w g b D) (hl : l.length ≤ 100000) (fn : Nat) (cb : Array Value) (p : Jb → Bool) (eg : ∀ args w, (callFunc fn args).run Try.prog w = .ok (.enter fn args) w) (hp : TellsOf l fn cb p w) :
    Calls Try.prog 31 #[.pointer (some ⟨g, 0, none⟩), .func (.func fn) #[] cb] w (ThoseSays l p w) := by
  have hbl := h.map.lt
  have hgl := h.box.lt
  have HM := Lib.hid h.map
  have HIS := Lib.hid h.is
  have HID := Lib.hid h.ids
  have HR := Lib.hid h.ok.rise
  have HP := Lib.hid hp
  have HC0 : Hid (∀ W, Below w.heap.size w W → W.cell? ⟨g, 0, none⟩ = some (.map (some b))) := fun W hb => (hb.cell (p := ⟨g, 0, none⟩) hgl).trans (h.box.c 0 _ rfl)
  have hsz := h.is.size
  have C1 := Lib.hid (isMadeS h)
  have c0 := HC0.out w (Below.refl _ _)
  clear h hp
  go_enter Try.func31, Try.ntmps31
  go_wp2_with fail
  refine C1.out.mono ?_
  rintro e w1 ⟨rfl, rfl⟩
  clear C1
  go_wp2_with (at_range; refine wpList_range_own _ rfl _ 42 rfl 3 28 intLaw mapType heldR b l.length D rfl HM.out ?_; intro w0 hrg0 hg0 hs0)
  go_frame
  have HB0 : Hid (Below w1.heap.size w1 w0) := ⟨hg0.os, hg0.tape, hg0.output, hg0.size, fun i hi => hg0.block i hi (by simp)⟩
  have HR0 := Lib.hid hrg0
  have hs1 : w1.heap.size + 1 ≤ w0.heap.size := by omega
  clear hrg0 hg0 hs0 c0
  go_loopw [5] (fun o wr => ∃ (left : Lit → Bool) (cnt : Nat) (m : List Jb) (v : Value), v = o ∧ wr.ranges Try.prog 3 heldR b w1.heap.size l.length D left cnt ∧ Hid (OwnN 28 9 (w1.heap.size + 1) wr v m.length (jvals m)) ∧ Hid (Got l p left m) ∧ m.length + cnt ≤ l.length ∧ Hid (Below w1.heap.size w1 wr))
    (fun _ wr => wr.rangeLeft b w1.heap.size)
  case atStart => exact ⟨_, _, [], _, rfl, HR0.out, OwnN.nil hs1, Got.start HIS.out, by simpa using Nat.le_of_eq hsz, HB0.out⟩
  case round =>
    obtain ⟨left, cnt, m, o, hov, hrg, HOW, HG, hlen, HBL⟩ := hrel
    subst hov
    go_wp2_with (at_next; refine next_jobs _ rfl _ rfl b w1.heap.size l.length _ _ _ rfl hrg ?_ ?_)
    · intro hc0 hl0
      have HD := Lib.hid (HG.out.done HR.out hl0)
      go_wp2_with fail
      go_ret
      exact ⟨_, m, rfl, HOW.out.rebase (Nat.le_succ _), HD.out, HBL.out⟩
    · intro x v w2 cnt2 hlx hhas hrg2 hlt hg2 hs2 hen
      obtain ⟨j, hj, rfl⟩ := HIS.out.key hhas
      have HB2 := Lib.hid (HBL.out.grown hg2 HBL.out.size (fun j hj => by cases hj; exact Nat.le_refl _))
      have q1 := look_any hrg2.owns HIS.out HID.out j.id false
      rw [get_of HR.out hj] at q1
      have c0 := HC0.out w2 HB2.out
      have HM0 := Lib.hid hrg.left_eq
      have HO2 := Lib.hid ((own_kept HOW.out hg2 (Nat.lt_succ_self _)).alloc (.cells #[.int .i64 j.id, .string j.user, .int .i64 j.width, .int .i64 j.est, .int .i64 j.prio, .int .i64 j.sub, .int .i64 j.state, .int .i64 j.start, .int .i64 j.fin] 28))
      have HRG2 := Lib.hid (hrg2.alloc (.cells #[.int .i64 j.id, .string j.user, .int .i64 j.width, .int .i64 j.est, .int .i64 j.prio, .int .i64 j.sub, .int .i64 j.state, .int .i64 j.start, .int .i64 j.fin] 28))
      have HB3 := Lib.hid (HB2.out.alloc HB2.out.size (.cells #[.int .i64 j.id, .string j.user, .int .i64 j.width, .int .i64 j.est, .int .i64 j.prio, .int .i64 j.sub, .int .i64 j.state, .int .i64 j.start, .int .i64 j.fin] 28))
      have HBX := Lib.hid (JobBox.new w2 j 28)
      have HC := Lib.hid (HP.out _ j hj HB3.out)
      have HY := Lib.hid (HG.out.yes HR.out hj hlx)
      have HN := Lib.hid (HG.out.no HR.out hj hlx)
      obtain ⟨A, ca, hsh⟩ := HOW.out.shape
      subst hsh
      clear hlx hhas hrg hrg2 hg2 hs2 HOW HBL HG hj
      unfold jobV jobA at HC q1
      go_upto_region 8 with fail
      generalize w2.alloc (.cells #[.int .i64 j.id, .string j.user, .int .i64 j.width, .int .i64 j.est, .int .i64 j.prio, .int .i64 j.sub, .int .i64 j.state, .int .i64 j.start, .int .i64 j.fin] 28) = W at *
      obtain ⟨y, y0, y1, y2, y3, y4, y5, y6, y7, y8, _, _, _, _, _, _, _, _, _⟩ := HBX.out
      cases hd : p j
      · rw [hd] at HC
        have HNN := Lib.hid (HN.out hd)
        clear HN HY hd q1 c0
        go_wp2_with (go_at_fn fn; refine HC.out.mono ?_; rintro e w3 ⟨rfl, hb3⟩)
        have hrg3 := HRG2.out.kept (grown_none hb3) (by simp) (by simp)
        exact ⟨⟨_, cnt2, m, _, rfl, hrg3, HO2.out.below hb3, HNN.out, by omega, HB3.out.trans (hb3.mono HB3.out.size)⟩, by rw [hrg3.left_eq, HM0.out]; exact hlt⟩
      · rw [hd] at HC
        have HYY := Lib.hid (HY.out hd)
        clear HN HY hd q1 c0
        go_upto_region 9 with (go_at_fn fn; refine HC.out.mono ?_; rintro e w3 ⟨rfl, hb3⟩)
        have hrg3 := HRG2.out.kept (grown_none hb3) (by simp) (by simp)
        have HM3 := Lib.hid hrg3.left_eq
        have HRG3 := Lib.hid (hrg3.alloc (.cells #[.int .i64 j.id, .string j.user, .int .i64 j.width, .int .i64 j.est, .int .i64 j.prio, .int .i64 j.sub, .int .i64 j.state, .int .i64 j.start, .int .i64 j.fin] 28))
        have HO3 := Lib.hid ((HO2.out.below hb3).alloc (.cells #[.int .i64 j.id, .string j.user, .int .i64 j.width, .int .i64 j.est, .int .i64 j.prio, .int .i64 j.sub, .int .i64 j.state, .int .i64 j.start, .int .i64 j.fin] 28))
        have HB4 := Lib.hid ((HB3.out.trans (hb3.mono HB3.out.size)).alloc (HB3.out.trans (hb3.mono HB3.out.size)).size (.cells #[.int .i64 j.id, .string j.user, .int .i64 j.width, .int .i64 j.est, .int .i64 j.prio, .int .i64 j.sub, .int .i64 j.state, .int .i64 j.start, .int .i64 j.fin] 28))
        have HOFF := Lib.hid (own_off HO3.out (Nat.lt_succ_self w1.heap.size))
        have HOFFB := Lib.hid (own_off HO3.out (show b < w1.heap.size + 1 by omega))
        have HBX3 := Lib.hid (HBX.out.below hb3)
        have HSRC : Hid (Src (w3.alloc (.cells #[.int .i64 j.id, .string j.user, .int .i64 j.width, .int .i64 j.est, .int .i64 j.prio, .int .i64 j.sub, .int .i64 j.state, .int .i64 j.start, .int .i64 j.fin] 28)) (.slice (some ⟨w3.heap.size, 0, none⟩) 1 1) 1 (jobC j)) := Lib.hid (raw_at rfl #[.int .i64 j.id, .string j.user, .int .i64 j.width, .int .i64 j.est, .int .i64 j.prio, .int .i64 j.sub, .int .i64 j.state, .int .i64 j.start, .int .i64 j.fin] 28)
        clear y y0 y1 y2 y3 y4 y5 y6 y7 y8 hb3 hrg3 HBX
        obtain ⟨y, y0, y1, y2, y3, y4, y5, y6, y7, y8, _, _, _, _, _, _, _, _, _⟩ := HBX3.out
        go_wp2_with (at_builtin; refine push_own jobs_t rfl (.tmp 29) (.tmp 31) rfl (w1.heap.size + 1) _ _ _ rfl HO3.out _ 1 (jobC j) rfl rfl HSRC.out (jobC_cell j) ?h1b ?_)
        case h1b => omega
        intro v5 w5 ho5 hb5 hg5
        have hrg5 := HRG3.out.kept hg5 (fun e => HOFFB.out e.symm) (fun e => HOFF.out e.symm)
        have HO5 := Lib.hid ho5
        have HB5 := Lib.hid (HB4.out.trans (hb5.mono (Nat.le_succ _)))
        have HRG5 := Lib.hid hrg5
        clear ho5 hb5 hg5 hrg5 hen
        go_wp2_with fail
        exact ⟨⟨_, cnt2, m ++ [j], _, rfl, HRG5.out, HO5.out.cast (by simp) (OrdRef.jvals_one _ _).symm, HYY.out, by rw [List.length_append, List.length_singleton]; omega, HB5.out⟩, by rw [HRG5.out.left_eq, HM0.out]; exact hlt⟩
/-- Of no table: none. -/
theorem noThose {w : World} {v : Value} (h : NoTab w v) (f : Value) : Calls Try.prog 31 #[v, f] w fun e w' => e = .returned (.slice none 0 0) ∧ w' = w := by
  have C1 := Lib.hid (noMade h)
  clear h
  go_enter Try.func31, Try.ntmps31
  go_wp2_with fail
  refine C1.out.mono ?_
  rintro e w1 ⟨rfl, rfl⟩
  go_wp2_with fail
  go_ret
  exact ⟨rfl, rfl⟩
end Go.Proofs.Ytjegkddpaampmaa.TabWalk
namespace Go.Proofs.Ytjegkddpaampmaa.TabWalk
open Go.RowKit Go.Proofs.Ytjegkddpaampmaa.JobPlain Go.Proofs.Ytjegkddpaampmaa.OrdPlain Go.Proofs.Ytjegkddpaampmaa.TabPlain Go.Proofs.Ytjegkddpaampmaa.Mem Go.Proofs.Ytjegkddpaampmaa.JobMem Go.Proofs.Ytjegkddpaampmaa.OrdMem Go.Proofs.Ytjegkddpaampmaa.OrdRef Go.Proofs.Ytjegkddpaampmaa.TabRef
theorem may_fit {j : Jb} (h : mayJ j = true) : Fit j := by
  have h1 := may_fin h
  have h2 := (may_base h).name
  unfold nameB at h2
  simp only [Bool.and_eq_true, decide_eq_true_eq] at h2
  exact ⟨by omega, by omega, by omega⟩
theorem len_perm {l m : List Jb} {p : Jb → Bool} (h : m.Perm (l.filter p)) : m.length ≤ l.length := by
  rw [h.length_eq]; exact List.length_filter_le _ _
set_option maxRecDepth 100000 in
theorem ofC (s : Int) (w : World) : Calls Try.prog 37 #[.int .i64 s] w fun e w' => e = .returned (.func (.func 51) #[] #[.pointer (some ⟨w.heap.size, 0, none⟩)]) ∧ w' = w.alloc (.cells #[.int .i64 s] 3) := by
  go_enter Try.func37, Try.ntmps37
  go_wp2_with fail
  go_ret
  exact ⟨rfl, rfl⟩
set_option maxRecDepth 100000 in
theorem isOf (s : Int) (b : Nat) (j : Jb) (W : World) (hb : b < W.heap.size) (hc : W.cell? ⟨b, 0, none⟩ = some (.int .i64 s)) : Calls Try.prog 51 #[jobV j, .pointer (some ⟨b, 0, none⟩)] W (BoolB (j.state == s) W) := by
  have HX := Lib.hid (JobBox.new W j 28)
  have HB := Lib.hid (below_box W (.cells #[.int .i64 j.id, .string j.user, .int .i64 j.width, .int .i64 j.est, .int .i64 j.prio, .int .i64 j.sub, .int .i64 j.state, .int .i64 j.start, .int .i64 j.fin] 28))
  have hc2 : (W.alloc (.cells #[.int .i64 j.id, .string j.user, .int .i64 j.width, .int .i64 j.est, .int .i64 j.prio, .int .i64 j.sub, .int .i64 j.state, .int .i64 j.start, .int .i64 j.fin] 28)).cell? ⟨b, 0, none⟩ = some (.int .i64 s) := (HB.out.cell (p := ⟨b, 0, none⟩) hb).trans hc
  clear hc
  unfold jobV jobA
  go_enter Try.func51, Try.ntmps51
  obtain ⟨y, y0, y1, y2, y3, y4, y5, y6, y7, y8, _, _, _, _, _, _, _, _, _⟩ := HX.out
  cases hd : (j.state == s)
  · go_wp2_with fail
    go_ret
    exact ⟨rfl, HB.out⟩
  · go_wp2_with fail
    go_ret
    exact ⟨rfl, HB.out⟩
theorem tells_of (l : List Jb) (s : Int) (b : Nat) (w : World) (hb : b < w.heap.size) (hc : w.cell? ⟨b, 0, none⟩ = some (.int .i64 s)) : TellsOf l 51 #[.pointer (some ⟨b, 0, none⟩)] (fun j => j.state == s) w :=
  fun W j _ hB => isOf s b j W (Nat.lt_of_lt_of_le hb hB.size) ((hB.cell (p := ⟨b, 0, none⟩) hb).trans hc)
theorem enters_of1 : ∀ args w, (callFunc 51 args).run Try.prog w = .ok (.enter 51 args) w := enters_of Try.func51 (by kernel_rfl) rfl
theorem enters_live : ∀ args w, (callFunc 38 args).run Try.prog w = .ok (.enter 38 args) w := enters_of Try.func38 (by kernel_rfl) rfl
theorem enters_all : ∀ args w, (callFunc 32 args).run Try.prog w = .ok (.enter 32 args) w := enters_of Try.func32 (by kernel_rfl) rfl
theorem tells_live {l : List Jb} (h : ∀ j ∈ l, mayJ j = true) (w : World) : TellsOf l 38 #[] liveB w := fun W j hj _ => by
  have := JobWalk.live_any j W (may_fit (h j hj))
  exact this
set_option maxRecDepth 100000 in
theorem isAll (j : Jb) (W : World) : Calls Try.prog 32 #[jobV j] W (BoolB true W) := by
  have HB := Lib.hid (below_box W (.cells #[.int .i64 j.id, .string j.user, .int .i64 j.width, .int .i64 j.est, .int .i64 j.prio, .int .i64 j.sub, .int .i64 j.state, .int .i64 j.start, .int .i64 j.fin] 28))
  unfold jobV jobA
  go_enter Try.func32, Try.ntmps32
  go_wp2_with fail
  go_ret
  exact ⟨rfl, HB.out⟩
theorem tells_all (l : List Jb) (w : World) : TellsOf l 32 #[] (fun _ => true) w := fun W j _ _ => isAll j W
/-- A table behind a call that only makes new memory. -/
theorem acts_of {O : List Nat} {l : List Jb} {v x : Value} {w w' : World} (h : Tab O l w v) (hb : Below w.heap.size w w') : ∃ O', Ending.returned x = .returned x ∧ Tab O' l w' v ∧ Owns O O' w ∧ Spare O w w' :=
  ⟨O, rfl, h.keep hb.size (fun i hi => hb.block i (h.lt i hi)), Owns.refl _ _, Spare.of_below hb⟩
set_option maxRecDepth 100000 in
theorem live_at {O : List Nat} {l : List Jb} {w : World} {g b : Nat} {D : MapD} (ht : TabRow O l w g b D) (hl : l.length ≤ 200) : Calls Try.prog 19 #[.pointer (some ⟨g, 0, none⟩)] w (IntT (liveN l) w) := by
  have C1 := Lib.hid (thoseS ht (by omega) 38 #[] liveB enters_live (tells_live ht.ok.may w))
  have HL := Lib.hid (live_filter ht.ok.may)
  clear ht
  go_enter Try.func19, Try.ntmps19
  go_wp2_with fail
  refine C1.out.mono ?_
  rintro e w1 ⟨v1, m, rfl, ho, hp, hb⟩
  have HL2 : Hid ((m.length : Int) = liveN l) := by
    have := HL.out
    rw [← hp.length_eq] at this
    exact this
  have HB := Lib.hid hb
  obtain ⟨A, c, rfl⟩ := ho.shape
  clear ho hp hb C1 HL
  generalize m.length = n at *
  go_wp2_with fail
  go_ret
  exact ⟨by rw [HL2.out]; rfl, HB.out⟩
theorem liveS {O : List Nat} {l : List Jb} {v : Value} {w : World} (h : Tab O l w v) (hl : l.length ≤ 200) : Calls Try.prog 19 #[v] w (Acts Tab O l v w (.int .i64 (liveN l))) := by
  have H0 := Lib.hid h
  obtain ⟨g, b, D, rfl, ht⟩ := h
  exact (live_at ht.row hl).mono fun e w' h => by obtain ⟨rfl, hb⟩ := h; exact acts_of (x := .int .i64 (liveN l)) H0.out hb
set_option maxRecDepth 100000 in
theorem countS {O : List Nat} {l : List Jb} {v : Value} {w : World} (h : Tab O l w v) (hl : l.length ≤ 200) (s : Int) : Calls Try.prog 18 #[v, .int .i64 s] w (Acts Tab O l v w (.int .i64 ((inT l s).length : Int))) := by
  have H0 := Lib.hid h
  obtain ⟨g, b, D, rfl, ht⟩ := h
  have C0 := Lib.hid (ofC s w)
  have HBX := Lib.hid (below_box w (.cells #[.int .i64 s] 3))
  have C1 := Lib.hid (thoseS (ht.below HBX.out).row (by omega) 51 #[.pointer (some ⟨w.heap.size, 0, none⟩)] (fun j => j.state == s) enters_of1 (tells_of l s w.heap.size _ (by simp) ((Boxed.new w #[.int .i64 s] 3).c 0 _ rfl)))
  clear ht
  go_enter Try.func18, Try.ntmps18
  go_wp2_with fail
  refine C0.out.mono ?_
  rintro e w1 ⟨rfl, rfl⟩
  go_wp2_with fail
  refine C1.out.mono ?_
  rintro e w1 ⟨v1, m, rfl, ho, hp, hb⟩
  have HL2 : Hid (m.length = (inT l s).length) := by
    rw [inT_length]
    exact hp.length_eq
  have HA := Lib.hid (acts_of (x := .int .i64 ((inT l s).length : Int)) H0.out (below_then HBX.out hb))
  obtain ⟨A, c, rfl⟩ := ho.shape
  clear ho hp hb C1 C0
  generalize m.length = n at *
  go_wp2_with fail
  go_ret
  obtain ⟨O', _, h2⟩ := HA.out
  exact ⟨O', by rw [HL2.out]; rfl, h2⟩
set_option maxRecDepth 100000 in
theorem noCount {w : World} {v : Value} (h : NoTab w v) (s : Int) : Calls Try.prog 18 #[v, .int .i64 s] w (IntT 0 w) := by
  have C0 := Lib.hid (ofC s w)
  have HBX := Lib.hid (below_box w (.cells #[.int .i64 s] 3))
  have C1 := Lib.hid (fun f => noThose (h.below HBX.out) f)
  clear h
  go_enter Try.func18, Try.ntmps18
  go_wp2_with fail
  refine C0.out.mono ?_
  rintro e w1 ⟨rfl, rfl⟩
  go_wp2_with fail
  refine (C1.out _).mono ?_
  rintro e w1 ⟨rfl, rfl⟩
  go_wp2_with fail
  go_ret
  exact ⟨rfl, HBX.out⟩
set_option maxRecDepth 100000 in
theorem noLive {w : World} {v : Value} (h : NoTab w v) : Calls Try.prog 19 #[v] w (IntT 0 w) := by
  have C1 := Lib.hid (fun f => noThose h f)
  clear h
  go_enter Try.func19, Try.ntmps19
  go_wp2_with fail
  refine (C1.out _).mono ?_
  rintro e w1 ⟨rfl, rfl⟩
  go_wp2_with fail
  go_ret
  exact ⟨rfl, Below.refl _ _⟩
end Go.Proofs.Ytjegkddpaampmaa.TabWalk
