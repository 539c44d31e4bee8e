/-
  The walks of the document's answers for layer 11: put; a job stored whole into a row of one's own.
-/
import Derived.Test.YtjegkddpaampmaaTabRefA
namespace Go.Proofs.Ytjegkddpaampmaa.TabRef
open Go.RowKit Go.Proofs.Ytjegkddpaampmaa.JobPlain Go.Proofs.Ytjegkddpaampmaa.OrdPlain Go.Proofs.Ytjegkddpaampmaa.TabPlain Go.Proofs.Ytjegkddpaampmaa.Mem Go.Proofs.Ytjegkddpaampmaa.JobMem Go.Proofs.Ytjegkddpaampmaa.OrdMem Go.Proofs.Ytjegkddpaampmaa.OrdRef
/-- A job stored whole from a cell on. -/
def storedAt (w : World) (g o : Nat) (x : Jb) : World := (((((((((w.setCell ⟨g, o, none⟩ (.int .i64 x.id)).setCell ⟨g, o + 1, none⟩ (.string x.user)).setCell ⟨g, o + 2, none⟩ (.int .i64 x.width)).setCell ⟨g, o + 3, none⟩ (.int .i64 x.est)).setCell ⟨g, o + 4, none⟩ (.int .i64 x.prio)).setCell ⟨g, o + 5, none⟩ (.int .i64 x.sub)).setCell ⟨g, o + 6, none⟩ (.int .i64 x.state)).setCell ⟨g, o + 7, none⟩ (.int .i64 x.start)).setCell ⟨g, o + 8, none⟩ (.int .i64 x.fin))
theorem jvals_set (l : List Jb) : ∀ (k : Nat) (x : Jb), k < l.length → (((((((((jvals l).set (k * 9) (.int .i64 x.id)).set (k * 9 + 1) (.string x.user)).set (k * 9 + 2) (.int .i64 x.width)).set (k * 9 + 3) (.int .i64 x.est)).set (k * 9 + 4) (.int .i64 x.prio)).set (k * 9 + 5) (.int .i64 x.sub)).set (k * 9 + 6) (.int .i64 x.state)).set (k * 9 + 7) (.int .i64 x.start)).set (k * 9 + 8) (.int .i64 x.fin) = jvals (l.set k x) := by
  induction l with
  | nil => intro k x h; simp at h
  | cons s l ih =>
    intro k x h
    have e : jvals (s :: l) = jobC s ++ jvals l := rfl
    cases k with
    | zero => rfl
    | succ k =>
      have e2 : jvals ((s :: l).set (k + 1) x) = jobC s ++ jvals (l.set k x) := rfl
      have hc : (jobC s).length = 9 := rfl
      have hset : ∀ (ys : List Value) (i : Nat) (u : Value), (jobC s ++ ys).set ((k + 1) * 9 + i) u = jobC s ++ ys.set (k * 9 + i) u := fun ys i u => by
        rw [List.set_append_right _ _ (by rw [hc]; omega), hc, show (k + 1) * 9 + i - 9 = k * 9 + i by omega]
      have h0 : ∀ (ys : List Value) (u : Value), (jobC s ++ ys).set ((k + 1) * 9) u = jobC s ++ ys.set (k * 9) u := fun ys u => hset ys 0 u
      rw [e, e2, h0, hset, hset, hset, hset, hset, hset, hset, hset, ih k x (by simpa using h)]
theorem RowJ.base {W wr : World} {g c : Nat} {m : List Jb} (h : RowJ W wr (.slice (some ⟨g, 0, none⟩) m.length c) m) : W.heap.size ≤ g := by
  obtain ⟨g', c', hv, h1, _⟩ := h.own.form
  injection hv with hv
  injection hv with hv
  injection hv with hv
  subst hv
  exact h1
set_option maxHeartbeats 1600000 in
theorem RowJ.stored {W wr : World} {g c k : Nat} {m : List Jb} (h : RowJ W wr (.slice (some ⟨g, 0, none⟩) m.length c) m) (hk : k < m.length) (x : Jb) : RowJ W (storedAt wr g (k * 9) x) (.slice (some ⟨g, 0, none⟩) m.length c) (m.set k x) := by
  have h1 := h.base
  have s0 := h.own.set (k * 9) (.int .i64 x.id)
  have s1 := s0.set (k * 9 + 1) (.string x.user)
  have s2 := s1.set (k * 9 + 2) (.int .i64 x.width)
  have s3 := s2.set (k * 9 + 3) (.int .i64 x.est)
  have s4 := s3.set (k * 9 + 4) (.int .i64 x.prio)
  have s5 := s4.set (k * 9 + 5) (.int .i64 x.sub)
  have s6 := s5.set (k * 9 + 6) (.int .i64 x.state)
  have s7 := s6.set (k * 9 + 7) (.int .i64 x.start)
  have s8 := s7.set (k * 9 + 8) (.int .i64 x.fin)
  have b0 := h.below.setCell (p := ⟨g, k * 9, none⟩) h1 (.int .i64 x.id)
  have b1 := b0.setCell (p := ⟨g, k * 9 + 1, none⟩) h1 (.string x.user)
  have b2 := b1.setCell (p := ⟨g, k * 9 + 2, none⟩) h1 (.int .i64 x.width)
  have b3 := b2.setCell (p := ⟨g, k * 9 + 3, none⟩) h1 (.int .i64 x.est)
  have b4 := b3.setCell (p := ⟨g, k * 9 + 4, none⟩) h1 (.int .i64 x.prio)
  have b5 := b4.setCell (p := ⟨g, k * 9 + 5, none⟩) h1 (.int .i64 x.sub)
  have b6 := b5.setCell (p := ⟨g, k * 9 + 6, none⟩) h1 (.int .i64 x.state)
  have b7 := b6.setCell (p := ⟨g, k * 9 + 7, none⟩) h1 (.int .i64 x.start)
  have b8 := b7.setCell (p := ⟨g, k * 9 + 8, none⟩) h1 (.int .i64 x.fin)
  unfold storedAt
  have hl : m.length = (m.set k x).length := by simp
  exact ⟨s8.cast hl (jvals_set m k x hk), b8⟩
/-- A job's cells in a row of one's own. -/
theorem RowJ.cells {W wr : World} {g c k : Nat} {m : List Jb} (h : RowJ W wr (.slice (some ⟨g, 0, none⟩) m.length c) m) (hk : k < m.length) : ∀ f u, f < 9 → (jobC m[k])[f]? = some u → wr.cell? ⟨g, k * 9 + f, none⟩ = some u := fun f u hf hu => by
  obtain ⟨g', c', hv, _, _, _, _, hr, _⟩ := h.own.form
  injection hv with hv
  injection hv with hv
  injection hv with hv
  subst hv
  have e := (hr _ _ ((jvals_at m k hk f hf).trans hu)).2
  rwa [add_flat] at e
theorem RowJ.free {W wr : World} {g c : Nat} {m : List Jb} (h : RowJ W wr (.slice (some ⟨g, 0, none⟩) m.length c) m) (i : Nat) : wr.frozen? ⟨g, i, none⟩ = false := by
  obtain ⟨g', c', hv, _, _, _, _, _, hf⟩ := h.own.form
  injection hv with hv
  injection hv with hv
  injection hv with hv
  subst hv
  exact hf i
set_option maxRecDepth 100000 in
set_option maxHeartbeats 3200000 in
theorem put11 (l : List Jb) (k : Nat) (x : Jb) (v : Value) (w : World) (hv : JobsIs l w v) (hk : k < l.length) (hl : l.length ≤ 100000) : Calls Try.prog 29 #[v, .int .i64 k, jobV x] w (JobsNew (l.set k x) w) := by
  have HX := Lib.hid (JobBox.new w x 28)
  have HB0 := Lib.hid (below_box w (.cells #[.int .i64 x.id, .string x.user, .int .i64 x.width, .int .i64 x.est, .int .i64 x.prio, .int .i64 x.sub, .int .i64 x.state, .int .i64 x.start, .int .i64 x.fin] 28))
  have HV := Lib.hid (hv.below HB0.out)
  obtain ⟨A, c, rfl, hn, _⟩ := hv.open_
  clear hv
  unfold jobV jobA
  go_enter Try.func29, Try.ntmps29
  go_upto_region 1 with fail
  generalize w.alloc (.cells #[.int .i64 x.id, .string x.user, .int .i64 x.width, .int .i64 x.est, .int .i64 x.prio, .int .i64 x.sub, .int .i64 x.state, .int .i64 x.start, .int .i64 x.fin] 28) = w0 at *
  have HO0 := Lib.hid (OwnR.new w0 28 9)
  go_wp2_with (at_builtin; refine push_src jobs_t rfl (.tmp 8) (.tmp 9) rfl w0.heap.size _ _ _ rfl HO0.out _ l.length (jvals l) rfl (jvals_len l) ?ha1 (jvals_cell l) ?ha2 ?_)
  case ha1 => exact (HV.out.below (below_box _ _)).src
  case ha2 => omega
  intro v7 w7 ho7 hb7
  have HR : Hid (RowJ w0 w7 v7 l) := ⟨ho7.cast (by simp) (by simp), (below_box w0 _).trans (hb7.mono (Nat.le_refl _))⟩
  clear ho7 hb7
  obtain ⟨g, cg, rfl, hg, _⟩ := HR.out.own.form
  obtain ⟨y, y0, y1, y2, y3, y4, y5, y6, y7, y8, _, _, _, _, _, _, _, _, _⟩ := HX.out.below HR.out.below
  have i0 : (0 : Int) ≤ (k : Int) := Int.natCast_nonneg _
  have i1 : (k : Int) < (l.length : Int) := by omega
  have p0 := HR.out.cells hk 0 _ (by decide) rfl
  have p1 := HR.out.cells hk 1 _ (by decide) rfl
  have p2 := HR.out.cells hk 2 _ (by decide) rfl
  have p3 := HR.out.cells hk 3 _ (by decide) rfl
  have p4 := HR.out.cells hk 4 _ (by decide) rfl
  have p5 := HR.out.cells hk 5 _ (by decide) rfl
  have p6 := HR.out.cells hk 6 _ (by decide) rfl
  have p7 := HR.out.cells hk 7 _ (by decide) rfl
  have p8 := HR.out.cells hk 8 _ (by decide) rfl
  simp only [Nat.add_zero] at p0
  have f0 := HR.out.free (k * 9)
  have f1 := HR.out.free (k * 9 + 1)
  have f2 := HR.out.free (k * 9 + 2)
  have f3 := HR.out.free (k * 9 + 3)
  have f4 := HR.out.free (k * 9 + 4)
  have f5 := HR.out.free (k * 9 + 5)
  have f6 := HR.out.free (k * 9 + 6)
  have f7 := HR.out.free (k * 9 + 7)
  have f8 := HR.out.free (k * 9 + 8)
  have HS := Lib.hid (HR.out.stored hk x)
  generalize l[k] = z at *
  go_wp2_with fail
  go_ret
  have hset : (l.set k x).length = l.length := by simp
  exact ⟨_, rfl, by have h := HS.out.is; exact h, FreshJ.own HS.out.own (by have := HB0.out.size; omega), HB0.out.trans (HS.out.below.mono HB0.out.size)⟩
end Go.Proofs.Ytjegkddpaampmaa.TabRef
