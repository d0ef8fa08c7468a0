/- RndG: the walk of package rounds' Counts. -/
import Derived.Test.YthloffgebebijaaGreatRndF
namespace Go.Proofs.YthloffgebebijaaGreat
open Go.RowKit

/-- Counts, as the program's value. -/
def countsV (x : Exs) : Value := .agg #[.int .i64 x.clock, .int .i64 x.ct.jobs, .int .i64 x.ct.done, .int .i64 x.jobs.length, .int .i64 x.ct.lost, .int .i64 x.ct.unknown, .int .i64 x.ct.bad, .int .i64 x.ct.spilled, .int .i64 (held x.lines)]

theorem held_take_le {ls : List (List Fd)} (h : ∀ l ∈ ls, l.length ≤ 32) (k : Nat) : held (ls.take k) ≤ 32 * ls.length := by
  have : ∀ q : List (List Fd), (∀ l ∈ q, l.length ≤ 32) → held q ≤ 32 * q.length := by
    intro q
    induction q with
    | nil => intro _; simp [held]
    | cons a b ih => intro hq; have := hq a (by simp); have := ih (fun l hl => hq l (by simp [hl])); rw [held_cons]; simp; omega
  have h1 := this (ls.take k) (fun l hl => h l (List.mem_of_mem_take hl))
  have h2 : (ls.take k).length ≤ ls.length := by rw [List.length_take]; omega
  omega

set_option maxRecDepth 100000 in
set_option maxHeartbeats 3200000 in
theorem sCounts_any (S : Nat → Prop) (base X L : Nat) (mu N : Int) (x : Exs) (dv qv : Value) (vs : List Value) (hs : List Jb) (w : World)
    (h : ExecP w S base X mu x dv qv L vs hs) (hi : ExIn x N) :
    Calls Tryz.prog 75 #[.pointer (some ⟨X, 2, none⟩)] w fun e w' => e = .returned (countsV x) ∧ Below w.heap.size w w' := by
  have HX := hide h
  have HI := hide hi
  have hX := h.core.q.blk.lt
  have hnl := hi.nl
  obtain ⟨⟨c1, c2⟩, -⟩ := cfgNum hi.cfg
  have hnl4 : x.lines.length ≤ 4 := by omega
  have d10 : w.cell? ⟨X, 10, none⟩ = some (.int .i64 x.clock) := h.core.q.blk.cell 10
  have d11 : w.cell? ⟨X, 11, none⟩ = some (.int .i64 x.ct.jobs) := h.core.q.blk.cell 11
  have d12 : w.cell? ⟨X, 12, none⟩ = some (.int .i64 x.ct.done) := h.core.q.blk.cell 12
  have d13 : w.cell? ⟨X, 13, none⟩ = some (.int .i64 0) := h.core.q.blk.cell 13
  have d14 : w.cell? ⟨X, 14, none⟩ = some (.int .i64 x.ct.lost) := h.core.q.blk.cell 14
  have d15 : w.cell? ⟨X, 15, none⟩ = some (.int .i64 x.ct.unknown) := h.core.q.blk.cell 15
  have d16 : w.cell? ⟨X, 16, none⟩ = some (.int .i64 x.ct.bad) := h.core.q.blk.cell 16
  have d17 : w.cell? ⟨X, 17, none⟩ = some (.int .i64 x.ct.spilled) := h.core.q.blk.cell 17
  have d18 : w.cell? ⟨X, 18, none⟩ = some (.int .i64 0) := h.core.q.blk.cell 18
  have hpl : hs.length = x.jobs.length := h.perm.length_eq
  have HPL := hide hpl
  have HHT := hide (fun k => held_take_le (ls := x.lines) (fun l hl => (hi.ln l hl).len) k)
  generalize hNL : x.lines.length = nl at *
  have HNL := hide hNL
  clear h hi hnl hNL hpl
  go_enter Tryz.func75, Tryz.ntmps75
  go_wp2_with fail
  have hB0 : Below w.heap.size w ((w.alloc (.cells #[.int .i64 0, .int .i64 0, .int .i64 0, .int .i64 0, .int .i64 0, .int .i64 0, .int .i64 0, .int .i64 0, .int .i64 0] 95)).alloc (.cells #[.int .i64 x.clock, .int .i64 x.ct.jobs, .int .i64 x.ct.done, .int .i64 0, .int .i64 x.ct.lost, .int .i64 x.ct.unknown, .int .i64 x.ct.bad, .int .i64 x.ct.spilled, .int .i64 0] 95)) := ((Below.refl _ _).alloc (Nat.le_refl _) _).alloc (by simp) _
  have hZ0 : Blk ((w.alloc (.cells #[.int .i64 0, .int .i64 0, .int .i64 0, .int .i64 0, .int .i64 0, .int .i64 0, .int .i64 0, .int .i64 0, .int .i64 0] 95)).alloc (.cells #[.int .i64 x.clock, .int .i64 x.ct.jobs, .int .i64 x.ct.done, .int .i64 0, .int .i64 x.ct.lost, .int .i64 x.ct.unknown, .int .i64 x.ct.bad, .int .i64 x.ct.spilled, .int .i64 0] 95)) w.heap.size #[.int .i64 0, .int .i64 0, .int .i64 0, .int .i64 0, .int .i64 0, .int .i64 0, .int .i64 0, .int .i64 0, .int .i64 0] 95 := (Blk.new w #[.int .i64 0, .int .i64 0, .int .i64 0, .int .i64 0, .int .i64 0, .int .i64 0, .int .i64 0, .int .i64 0, .int .i64 0] 95).alloc _
  have hC0 : Blk ((w.alloc (.cells #[.int .i64 0, .int .i64 0, .int .i64 0, .int .i64 0, .int .i64 0, .int .i64 0, .int .i64 0, .int .i64 0, .int .i64 0] 95)).alloc (.cells #[.int .i64 x.clock, .int .i64 x.ct.jobs, .int .i64 x.ct.done, .int .i64 0, .int .i64 x.ct.lost, .int .i64 x.ct.unknown, .int .i64 x.ct.bad, .int .i64 x.ct.spilled, .int .i64 0] 95)) (w.heap.size + 1) #[.int .i64 x.clock, .int .i64 x.ct.jobs, .int .i64 x.ct.done, .int .i64 0, .int .i64 x.ct.lost, .int .i64 x.ct.unknown, .int .i64 x.ct.bad, .int .i64 x.ct.spilled, .int .i64 0] 95 := by
    have := Blk.new (w.alloc (.cells #[.int .i64 0, .int .i64 0, .int .i64 0, .int .i64 0, .int .i64 0, .int .i64 0, .int .i64 0, .int .i64 0, .int .i64 0] 95)) #[.int .i64 x.clock, .int .i64 x.ct.jobs, .int .i64 x.ct.done, .int .i64 0, .int .i64 x.ct.lost, .int .i64 x.ct.unknown, .int .i64 x.ct.bad, .int .i64 x.ct.spilled, .int .i64 0] 95
    simpa using this
  refine (qLen_any base X 8 _ _ qv hs _ ((HX.out.core.later hB0).q)).mono ?_
  rintro e w1 ⟨rfl, hw1⟩
  have HB1 : Hid (Below w.heap.size w w1) := by rw [hw1]; exact hB0
  have HZ1 : Hid (Blk w1 w.heap.size #[.int .i64 0, .int .i64 0, .int .i64 0, .int .i64 0, .int .i64 0, .int .i64 0, .int .i64 0, .int .i64 0, .int .i64 0] 95) := by rw [hw1]; exact hZ0
  have HC1 : Hid (Blk w1 (w.heap.size + 1) #[.int .i64 x.clock, .int .i64 x.ct.jobs, .int .i64 x.ct.done, .int .i64 0, .int .i64 x.ct.lost, .int .i64 x.ct.unknown, .int .i64 x.ct.bad, .int .i64 x.ct.spilled, .int .i64 0] 95) := by rw [hw1]; exact hC0
  clear hw1 hB0 hZ0 hC0 d10 d11 d12 d13 d14 d15 d16 d17 d18
  rw [HPL.out]
  have d7 : w1.cell? ⟨X, 7, none⟩ = some (.slice (some ⟨L, 0, none⟩) nl nl) := by
    have := (HX.out.core.q.blk.later HB1.out hX).cell 7
    rw [← HNL.out]
    exact this
  have g3 : w1.cell? ⟨w.heap.size + 1, 3, none⟩ = some (.int .i64 0) := HC1.out.cell 3
  have g3f := HC1.out.free 3
  have hwX : w.heap.size + 1 ≠ X := by omega
  have hXw : X ≠ w.heap.size + 1 := by omega
  have hz1 := HB1.out.size
  have hc1 := HC1.out.lt
  go_wp2_with fail
  go_loopw [19] (fun iv wr => ∃ q : Nat, iv = .int .i64 q ∧ q ≤ nl ∧ Below w.heap.size w wr ∧ Blk wr w.heap.size #[.int .i64 0, .int .i64 0, .int .i64 0, .int .i64 0, .int .i64 0, .int .i64 0, .int .i64 0, .int .i64 0, .int .i64 0] 95 ∧ Blk wr (w.heap.size + 1) #[.int .i64 x.clock, .int .i64 x.ct.jobs, .int .i64 x.ct.done, .int .i64 x.jobs.length, .int .i64 x.ct.lost, .int .i64 x.ct.unknown, .int .i64 x.ct.bad, .int .i64 x.ct.spilled, .int .i64 (held (x.lines.take q))] 95) (fun iv _ => nl - (intOf iv).toNat)
  case atStart =>
    refine ⟨0, rfl, Nat.zero_le _, HB1.out.setCell (by simp) _, HZ1.out.other (by simp) _, ?_⟩
    have := HC1.out.set 3 (.int .i64 x.jobs.length)
    simpa [held] using this
  case round =>
    obtain ⟨q, rfl, hq, hbe, hzb, hcb⟩ := hrel
    have HZB := hide hzb
    have HBE := hide hbe
    have HCB := hide hcb
    have hsz := hbe.size
    have hcl := hcb.lt
    have e7 : wr.cell? ⟨X, 7, none⟩ = some (.slice (some ⟨L, 0, none⟩) nl nl) := by
      have := (HX.out.core.q.blk.later hbe hX).cell 7
      rw [← HNL.out]
      exact this
    have hXr : X < wr.heap.size := by omega
    by_cases hlt : q < nl
    · have hqi : (q : Int) < (nl : Int) := by omega
      obtain ⟨l, hl⟩ := get_of_lt (l := x.lines) (k := q) (by rw [HNL.out]; exact hlt)
      have hvl : q < vs.length := by rw [HX.out.lines.len, HNL.out]; exact hlt
      obtain ⟨v, hv⟩ := get_of_lt hvl
      have hLb := HX.out.lines.blk.later hbe HX.out.lines.blk.lt
      have hLl := hLb.lt
      obtain ⟨va, vc, hva⟩ := ownsRow_slice (HX.out.lines.row q v l hv hl)
      have eL : wr.drew.cell? ⟨L, q, none⟩ = some (.slice va l.length vc) := by
        have := hLb.cell q
        rw [← hva]
        exact this.trans (by simpa using hv)
      have HH := hide (held_any L q va l.length vc wr.drew eL)
      have HTK : Hid (held (x.lines.take (q + 1)) = held (x.lines.take q) + l.length) := by rw [Hid, take_snoc hl, held_append, held_cons, held_nil]; omega
      have hh1 := HHT.out q
      have hh2 := HHT.out (q + 1)
      rw [HTK.out] at hh2
      have hh0 := held_nonneg (x.lines.take q)
      generalize held (x.lines.take q) = H at *
      have g8 : wr.cell? ⟨w.heap.size + 1, 8, none⟩ = some (.int .i64 H) := HCB.out.cell 8
      have g8f := HCB.out.free 8
      have hwr : IntKind.i64.wrap (H + l.length) = H + l.length := IntWalk.i64_in _ ⟨by omega, by omega⟩
      clear hbe hzb hcb eL hLb hl hv hva
      go_wp2_with fail
      apply wp_once
      case h =>
        go_region_with (first
          | (go_at_call 93; refine HH.out.mono ?_; rintro e w2 ⟨rfl, hw2⟩; have hw3 := hw2.symm; subst hw3; clear hw2))
        all_goals exact ⟨rfl, rfl⟩
      go_wp2
      go_roundw
      case rel =>
        refine ⟨q + 1, by go_num, by omega, Below.setCell HBE.out.drew (by simp) _, Blk.other HZB.out.drew (by simp) _, ?_⟩
        rw [HTK.out]
        have := Blk.drew (HCB.out.set 8 (.int .i64 (H + l.length)))
        simpa using this
      case measure => simp [intOf]; omega
    · have hqi : ¬ (q : Int) < (nl : Int) := by omega
      have hfin : x.lines.take q = x.lines := List.take_of_length_le (by rw [HNL.out]; omega)
      rw [hfin] at HCB
      have r0 : wr.cell? ⟨w.heap.size + 1, 0, none⟩ = some (.int .i64 x.clock) := HCB.out.cell 0
      have r1 : wr.cell? ⟨w.heap.size + 1, 1, none⟩ = some (.int .i64 x.ct.jobs) := HCB.out.cell 1
      have r2 : wr.cell? ⟨w.heap.size + 1, 2, none⟩ = some (.int .i64 x.ct.done) := HCB.out.cell 2
      have r3 : wr.cell? ⟨w.heap.size + 1, 3, none⟩ = some (.int .i64 x.jobs.length) := HCB.out.cell 3
      have r4 : wr.cell? ⟨w.heap.size + 1, 4, none⟩ = some (.int .i64 x.ct.lost) := HCB.out.cell 4
      have r5 : wr.cell? ⟨w.heap.size + 1, 5, none⟩ = some (.int .i64 x.ct.unknown) := HCB.out.cell 5
      have r6 : wr.cell? ⟨w.heap.size + 1, 6, none⟩ = some (.int .i64 x.ct.bad) := HCB.out.cell 6
      have r7 : wr.cell? ⟨w.heap.size + 1, 7, none⟩ = some (.int .i64 x.ct.spilled) := HCB.out.cell 7
      have r8 : wr.cell? ⟨w.heap.size + 1, 8, none⟩ = some (.int .i64 (held x.lines)) := HCB.out.cell 8
      generalize hHd : held x.lines = Hd at *
      have y0 : wr.cell? ⟨w.heap.size, 0, none⟩ = some (.int .i64 0) := HZB.out.cell 0
      have yf0 := HZB.out.free 0
      have y1 : wr.cell? ⟨w.heap.size, 1, none⟩ = some (.int .i64 0) := HZB.out.cell 1
      have yf1 := HZB.out.free 1
      have y2 : wr.cell? ⟨w.heap.size, 2, none⟩ = some (.int .i64 0) := HZB.out.cell 2
      have yf2 := HZB.out.free 2
      have y3 : wr.cell? ⟨w.heap.size, 3, none⟩ = some (.int .i64 0) := HZB.out.cell 3
      have yf3 := HZB.out.free 3
      have y4 : wr.cell? ⟨w.heap.size, 4, none⟩ = some (.int .i64 0) := HZB.out.cell 4
      have yf4 := HZB.out.free 4
      have y5 : wr.cell? ⟨w.heap.size, 5, none⟩ = some (.int .i64 0) := HZB.out.cell 5
      have yf5 := HZB.out.free 5
      have y6 : wr.cell? ⟨w.heap.size, 6, none⟩ = some (.int .i64 0) := HZB.out.cell 6
      have yf6 := HZB.out.free 6
      have y7 : wr.cell? ⟨w.heap.size, 7, none⟩ = some (.int .i64 0) := HZB.out.cell 7
      have yf7 := HZB.out.free 7
      have y8 : wr.cell? ⟨w.heap.size, 8, none⟩ = some (.int .i64 0) := HZB.out.cell 8
      have yf8 := HZB.out.free 8
      clear hbe hzb hcb
      repeat (first | go_values | go_skip | go_guarded | go_step | go_upon)
      have HF := (((((((((HZB.out.set 0 (.int .i64 x.clock)).set 1 (.int .i64 x.ct.jobs)).set 2 (.int .i64 x.ct.done)).set 3 (.int .i64 x.jobs.length)).set 4 (.int .i64 x.ct.lost)).set 5 (.int .i64 x.ct.unknown)).set 6 (.int .i64 x.ct.bad)).set 7 (.int .i64 x.ct.spilled)).set 8 (.int .i64 Hd))
      have HF0 := HF.cell 0
      have HF1 := HF.cell 1
      have HF2 := HF.cell 2
      have HF3 := HF.cell 3
      have HF4 := HF.cell 4
      have HF5 := HF.cell 5
      have HF6 := HF.cell 6
      have HF7 := HF.cell 7
      have HF8 := HF.cell 8
      simp at HF0 HF1 HF2 HF3 HF4 HF5 HF6 HF7 HF8
      have hbl := HBE.out
      exact bodyPost_ret (v := .agg #[.int .i64 x.clock, .int .i64 x.ct.jobs, .int .i64 x.ct.done, .int .i64 x.jobs.length, .int .i64 x.ct.lost, .int .i64 x.ct.unknown, .int .i64 x.ct.bad, .int .i64 x.ct.spilled, .int .i64 Hd]) (by simp [results, Tryz.results75, go_sem, HF0, HF1, HF2, HF3, HF4, HF5, HF6, HF7, HF8]) rfl ⟨by simp [countsV, hHd], (((((((((hbl.setCell (by simp) _).setCell (by simp) _).setCell (by simp) _).setCell (by simp) _).setCell (by simp) _).setCell (by simp) _).setCell (by simp) _).setCell (by simp) _).setCell (by simp) _)⟩

end Go.Proofs.YthloffgebebijaaGreat
