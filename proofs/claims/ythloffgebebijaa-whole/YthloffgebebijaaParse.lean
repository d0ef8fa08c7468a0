/- Parse: the walks of package config's Parse and of Decode. -/
import Derived.Test.YthloffgebebijaaReadK
namespace Go.Proofs.Ythloffgebebijaa
open Go.RowKit

theorem OwnLims.kept {w w' : World} {base : Nat} {v : Value} {ls : List (Int × Int)} (h : OwnLims w base v ls) (hf : ∀ k, base ≤ k → k < w.heap.size → w'.heap[k]? = w.heap[k]?) : OwnLims w' base v ls := by
  obtain ⟨g, hv, hg, hb⟩ := h
  exact ⟨g, hv, hg, (hf g hg hb.lt).trans hb⟩
theorem OwnTasks.kept {w w' : World} {base : Nat} {v : Value} {ts : List Tk} (h : OwnTasks w base v ts) (hf : ∀ k, base ≤ k → k < w.heap.size → w'.heap[k]? = w.heap[k]?) : OwnTasks w' base v ts := by
  obtain ⟨g, es, hv, hg, hb, hl, hr, ha⟩ := h
  exact ⟨g, es, hv, hg, (hf g hg hb.lt).trans hb, hl, fun i e t h1 h2 => ⟨(hr i e t h1 h2).1, (hr i e t h1 h2).2.1, (hr i e t h1 h2).2.2.kept hf⟩, ha⟩
theorem OwnTasks.lower {w : World} {base base' : Nat} {v : Value} {ts : List Tk} (h : OwnTasks w base v ts) (hb : base' ≤ base) : OwnTasks w base' v ts := by
  obtain ⟨g, es, hv, hg, hb', hl, hr, ha⟩ := h
  exact ⟨g, es, hv, by omega, hb', hl, fun i e t h1 h2 => ⟨(hr i e t h1 h2).1, (hr i e t h1 h2).2.1, (hr i e t h1 h2).2.2.lower hb⟩, ha⟩
theorem OwnLims.lims {w : World} {base : Nat} {v : Value} {ls : List (Int × Int)} (h : OwnLims w base v ls) : Lims w w.heap.size v ls := by
  obtain ⟨g, rfl, hg, hb⟩ := h
  refine ⟨_, _, rfl, .inr ⟨g, 0, rfl, hb.lt, fun i l hi => ?_⟩⟩
  have := flat2_get ls i l hi
  rw [Nat.mul_comm] at this
  exact ⟨by rw [hb.cell]; simpa using this.1, by rw [hb.cell]; simpa using this.2⟩
theorem OwnTasks.tasks {w : World} {base : Nat} {v : Value} {ts : List Tk} (h : OwnTasks w base v ts) : Tasks w w.heap.size v ts := by
  obtain ⟨g, es, rfl, hg, hb, hl, hr, _⟩ := h
  refine ⟨_, _, rfl, .inr ⟨g, 0, rfl, hb.lt, fun i t hi => ?_⟩⟩
  obtain ⟨e, he⟩ := get_of_lt (l := es) (k := i) (by have := lt_of_get hi; omega)
  have hrel := hr i e t he hi
  have := flat3_get es i e he
  refine ⟨?_, ?_, e.2.2, ?_, hrel.2.2.lims⟩
  · rw [hb.cell, ← hrel.1]; simpa using this.1
  · rw [hb.cell, ← hrel.2.1]; simpa using this.2.1
  · rw [hb.cell]; simpa using this.2.2
theorem OwnTasks.slice {w : World} {base : Nat} {v : Value} {ts : List Tk} (h : OwnTasks w base v ts) : ∃ g, v = .slice (some ⟨g, 0, none⟩) ts.length ts.length := by
  obtain ⟨g, _, hv, _⟩ := h
  exact ⟨g, hv⟩

/-- What stands between the head and the sum. -/
def inner (bs : List Int) : List Int := (bs.drop 1).take (bs.length - 2)
/-- What some bytes are decoded as. -/
def dec (bs : List Int) : Option Cfg :=
  if bs.length < 2 ∨ bs.head? ≠ some 84 ∨ bsum bs ≠ 0 then none
  else if (cfgRd (inner bs, false)).2.2 = true ∨ (cfgRd (inner bs, false)).2.1 ≠ [] ∨ cfgOk (cfgRd (inner bs, false)).1 = false then none
  else some (cfgRd (inner bs, false)).1

def zeroCfg : Value := .agg #[.int .i64 0, .int .i64 0, .int .i64 0, .int .i64 0, .int .i64 0, .slice none 0 0]

/-- What Parse and Decode answer, with their second result. -/
def DecPost (no yes : Value) (w w' : World) (e : Ending) : Option Cfg → Prop
  | none => e = .returned (.tuple #[zeroCfg, no]) ∧ Below w.heap.size w w'
  | some c => ∃ v, e = .returned (.tuple #[.agg #[.int .i64 c.lines, .int .i64 c.room, .int .i64 c.poll, .int .i64 c.idle, .int .i64 c.sw, v], yes]) ∧ OwnTasks w' w.heap.size v c.tasks ∧ Below w.heap.size w w'

set_option maxRecDepth 100000 in
set_option maxHeartbeats 1600000 in
theorem parse_any (B : Nat) (v : Value) (bs : List Int) (w : World) (h : Rd8 w B v bs) (hB : B ≤ w.heap.size) (hb : AllB bs) (hlen : bs.length ≤ 140737488355328) :
    Calls Try.prog 22 #[v] w fun e w' => DecPost (.bool false) (.bool true) w w' e (dec bs) := by
  have HH := hide h
  have HB := hide hb
  obtain ⟨a, cap, rfl, hcap, hv⟩ := h
  by_cases h1 : bs.length < 2
  · have hd : Hid (dec bs = none) := by simp [Hid, dec, h1]
    generalize hn : bs.length = n at *
    clear hv hn hb
    go_enter Try.func22, Try.ntmps22
    go_wp2
    refine bodyPost_ret (v := .tuple #[zeroCfg, .bool false]) (by simp [results, Try.results22, go_sem, zeroCfg]) rfl ?_
    rw [hd.out]
    exact ⟨rfl, (Below.refl _ _).alloc (Nat.le_refl _) _⟩
  rcases hv with hv | ⟨b, o, rfl, hlt, hc⟩
  · simp [hv] at h1
  have hbw : b < w.heap.size := by omega
  obtain ⟨x, hx⟩ := get_of_lt (l := bs) (k := 0) (by omega)
  have d0 := hc 0 x hx
  rw [Nat.add_zero] at d0
  have hx' := hb x (List.mem_of_getElem? hx)
  by_cases h2 : x = 84
  case neg =>
    have hd : Hid (dec bs = none) := by
      have : bs.head? ≠ some 84 := by rw [List.head?_eq_getElem?, hx]; simpa using h2
      simp [Hid, dec, this]
    have hne : (x != 84) = true := by simpa using h2
    generalize hn : bs.length = n at *
    clear hc hn hb hx
    have h1' : 2 ≤ n := by omega
    obtain ⟨hx0, hx1⟩ := hx'
    go_enter Try.func22, Try.ntmps22
    go_wp2
    refine bodyPost_ret (v := .tuple #[zeroCfg, .bool false]) (by simp [results, Try.results22, go_sem, zeroCfg]) rfl ?_
    rw [hd.out]
    exact ⟨rfl, (Below.refl _ _).alloc (Nat.le_refl _) _⟩
  case pos =>
  subst h2
  have HC := hide hc
  have HX := hide hx
  have hb0 : ∀ o, Below w.heap.size w (w.alloc o) := fun o => (Below.refl _ _).alloc (Nat.le_refl _) _
  have HS := hide (fun w' h' => sum_any B (.slice (some ⟨b, o, none⟩) bs.length cap) bs w' h' hb hlen)
  have hs0 : 0 ≤ bsum bs ∧ bsum bs < 256 := by unfold bsum; omega
  by_cases h3 : bsum bs = 0
  case neg =>
    have hd : Hid (dec bs = none) := by simp [Hid, dec, h3]
    have hne : (bsum bs != 0) = true := by simpa using h3
    have h1' : 2 ≤ bs.length := by omega
    generalize hn : bs.length = n at *
    generalize hS : bsum bs = S at *
    clear hc hn hb hx hx' hS
    go_enter Try.func22, Try.ntmps22
    go_wp2_with fail
    refine (HS.out _ (HH.out.later (hb0 _) hB)).mono ?_
    rintro e w1 ⟨rfl, rfl⟩
    go_wp2
    refine bodyPost_ret (v := .tuple #[zeroCfg, .bool false]) (by simp [results, Try.results22, go_sem, zeroCfg]) rfl ?_
    rw [hd.out]
    exact ⟨rfl, (Below.refl _ _).alloc (Nat.le_refl _) _⟩
  case pos =>
  have HD : Hid (dec bs = if (cfgRd (inner bs, false)).2.2 = true ∨ (cfgRd (inner bs, false)).2.1 ≠ [] ∨ cfgOk (cfgRd (inner bs, false)).1 = false then none else some (cfgRd (inner bs, false)).1) := by
    have : ¬ (bs.length < 2 ∨ bs.head? ≠ some 84 ∨ bsum bs ≠ 0) := by
      rw [List.head?_eq_getElem?, hx, h3]; simp; omega
    simp only [Hid, dec, if_neg this]
  have HIB : Hid (AllB (inner bs)) := fun x hx => hb x (List.mem_of_mem_drop (List.mem_of_mem_take hx))
  have hil : (inner bs).length = bs.length - 2 := by unfold inner; rw [List.length_take, List.length_drop]; omega
  have HIL := hide hil
  have HIC : Hid (∀ i y, (inner bs)[i]? = some y → w.cell? ⟨b, o + 1 + i, none⟩ = some (.int .u8 y)) := by
    intro i y hy
    have : bs[1 + i]? = some y := by
      unfold inner at hy
      rw [List.getElem?_take] at hy
      split at hy
      · rw [List.getElem?_drop] at hy; exact hy
      · simp at hy
    have := hc _ _ this
    rw [Nat.add_assoc]; exact this
  have HCF := hide (fun R w' (h' : Rdr w' R B (inner bs, false)) hR => config_any R B (inner bs, false) w' h' hR HIB.out (by simp only; omega))
  generalize hin : inner bs = ib at *
  generalize hp : cfgRd (ib, false) = p at *
  rw [h3] at HS
  have h1' : 2 ≤ bs.length := by omega
  generalize hn : bs.length = n at *
  clear hc hn hb hx hx' h3 hs0 hin hp hil
  have hcp : (cap == 1) = false := by simp; omega
  go_enter Try.func22, Try.ntmps22
  go_wp2_with fail
  refine (HS.out _ (HH.out.later (hb0 _) hB)).mono ?_
  rintro e w1 ⟨rfl, rfl⟩
  clear HS
  go_wp2_with fail
  have hbel2 : Below w.heap.size w ((w.alloc (.cells #[.int .i64 0, .int .i64 0, .int .i64 0, .int .i64 0, .int .i64 0, .slice none 0 0] 26)).alloc (.cells #[.slice (some ⟨b, o + 1, none⟩) (n - 1 - 1) (cap - 1), .bool false] 105)) := (hb0 _).alloc (by simp) _
  have hrd : Rdr ((w.alloc (.cells #[.int .i64 0, .int .i64 0, .int .i64 0, .int .i64 0, .int .i64 0, .slice none 0 0] 26)).alloc (.cells #[.slice (some ⟨b, o + 1, none⟩) (n - 1 - 1) (cap - 1), .bool false] 105)) (w.heap.size + 1) B (ib, false) := by
    refine ⟨.slice (some ⟨b, o + 1, none⟩) (n - 1 - 1) (cap - 1), ?_, some ⟨b, o + 1, none⟩, cap - 1, ?_, ?_, .inr ⟨b, o + 1, rfl, hlt, fun i x hi => ?_⟩⟩
    · have := Blk.new (w.alloc (.cells #[.int .i64 0, .int .i64 0, .int .i64 0, .int .i64 0, .int .i64 0, .slice none 0 0] 26)) #[.slice (some ⟨b, o + 1, none⟩) (n - 1 - 1) (cap - 1), .bool false] 105
      simpa using this
    · simp only [HIL.out]; congr 1
    · simp only [HIL.out]; omega
    · exact (hbel2.cell (p := ⟨b, o + 1 + i, none⟩) hbw).trans (HIC.out i x hi)
  have HBE2 := hide hbel2
  have HCF2 := hide (HCF.out _ _ hrd (by omega))
  clear hrd hbel2 d0 HIC HIL HCF HIB
  refine HCF2.out.mono ?_
  rintro e w3 ⟨v3, rfl, o3, r3, g3⟩
  have HO3 := hide o3
  have A3 : Blk w3 w.heap.size #[.int .i64 0, .int .i64 0, .int .i64 0, .int .i64 0, .int .i64 0, .slice none 0 0] 26 := ((Blk.new w _ _).alloc _).grown g3 (by omega)
  have HA3 := hide A3
  have HB3 := hide (HBE2.out.trans (grown_below g3 (B := w.heap.size) (by omega) (by simp; omega)))
  have hz3 := g3.size
  simp at hz3
  obtain ⟨g, rfl⟩ := o3.slice
  obtain ⟨vr, hblk, hrd⟩ := r3
  obtain ⟨ra, rcap, rfl, -, -⟩ := hrd
  have HBL := hide hblk
  have rc0 : w3.cell? ⟨w.heap.size + 1, 0, none⟩ = some (.slice ra p.2.1.length rcap) := hblk.cell 0
  have rc1 : w3.cell? ⟨w.heap.size + 1, 1, none⟩ = some (.bool p.2.2) := hblk.cell 1
  have hz3' := hblk.lt
  clear o3 g3 hblk A3 HCF2 HBE2
  obtain ⟨⟨x1, x2, x3, x4, x5, ts⟩, rest, bad⟩ := p
  simp only at HO3 HBL rc0 rc1 HD ⊢
  clear hb0 hcp h1 hbw hlt
  have ac0 : w3.cell? ⟨w.heap.size, 0, none⟩ = some (.int .i64 0) := HA3.out.cell 0
  have ac1 : w3.cell? ⟨w.heap.size, 1, none⟩ = some (.int .i64 0) := HA3.out.cell 1
  have ac2 : w3.cell? ⟨w.heap.size, 2, none⟩ = some (.int .i64 0) := HA3.out.cell 2
  have ac3 : w3.cell? ⟨w.heap.size, 3, none⟩ = some (.int .i64 0) := HA3.out.cell 3
  have ac4 : w3.cell? ⟨w.heap.size, 4, none⟩ = some (.int .i64 0) := HA3.out.cell 4
  have ac5 : w3.cell? ⟨w.heap.size, 5, none⟩ = some (.slice none 0 0) := HA3.out.cell 5
  have af0 := HA3.out.free 0
  have af1 := HA3.out.free 1
  have af2 := HA3.out.free 2
  have af3 := HA3.out.free 3
  have af4 := HA3.out.free 4
  have af5 := HA3.out.free 5
  have hz4 : w.heap.size < w3.heap.size := by omega
  have HCB := hide (Blk.new w3 #[.int .i64 x1, .int .i64 x2, .int .i64 x3, .int .i64 x4, .int .i64 x5, .slice (some ⟨g, 0, none⟩) ts.length ts.length] 26)
  by_cases hbad : bad = true
  case pos =>
    subst hbad
    have HN : Hid (dec bs = none) := by rw [HD.out]; simp [Hid]
    clear HD
    repeat (first | go_values | go_skip | go_guarded | go_step | go_upon)
    have HF := ((((((HA3.out.set 0 (.int .i64 0)).set 1 (.int .i64 0)).set 2 (.int .i64 0)).set 3 (.int .i64 0)).set 4 (.int .i64 0)).set 5 (.slice none 0 0)).alloc (.cells #[.int .i64 x1, .int .i64 x2, .int .i64 x3, .int .i64 x4, .int .i64 x5, .slice (some ⟨g, 0, none⟩) ts.length ts.length] 26)
    have HF0 := HF.cell 0
    have HF1 := HF.cell 1
    have HF2 := HF.cell 2
    have HF3 := HF.cell 3
    have HF4 := HF.cell 4
    have HF5 := HF.cell 5
    simp at HF0 HF1 HF2 HF3 HF4 HF5
    refine bodyPost_ret (v := .tuple #[zeroCfg, .bool false]) (by simp [results, Try.results22, go_sem, zeroCfg, HF0, HF1, HF2, HF3, HF4, HF5]) rfl ?_
    rw [HN.out]
    refine ⟨rfl, ?_⟩
    exact ((((((HB3.out.setCell (Nat.le_refl _) _).setCell (Nat.le_refl _) _).setCell (Nat.le_refl _) _).setCell (Nat.le_refl _) _).setCell (Nat.le_refl _) _).setCell (Nat.le_refl _) _).alloc (by simp; omega) _
  case neg =>
  have hbad' : bad = false := by simpa using hbad
  subst hbad'
  clear hbad
  by_cases hrest : rest = []
  case neg =>
    have HN : Hid (dec bs = none) := by rw [HD.out]; simp [Hid, hrest]
    have hrl : 0 < rest.length := List.length_pos_iff.2 hrest
    generalize rest.length = rl at *
    clear HD hrest
    repeat (first | go_values | go_skip | go_guarded | go_step | go_upon)
    have HF := ((((((HA3.out.set 0 (.int .i64 0)).set 1 (.int .i64 0)).set 2 (.int .i64 0)).set 3 (.int .i64 0)).set 4 (.int .i64 0)).set 5 (.slice none 0 0)).alloc (.cells #[.int .i64 x1, .int .i64 x2, .int .i64 x3, .int .i64 x4, .int .i64 x5, .slice (some ⟨g, 0, none⟩) ts.length ts.length] 26)
    have HF0 := HF.cell 0
    have HF1 := HF.cell 1
    have HF2 := HF.cell 2
    have HF3 := HF.cell 3
    have HF4 := HF.cell 4
    have HF5 := HF.cell 5
    simp at HF0 HF1 HF2 HF3 HF4 HF5
    refine bodyPost_ret (v := .tuple #[zeroCfg, .bool false]) (by simp [results, Try.results22, go_sem, zeroCfg, HF0, HF1, HF2, HF3, HF4, HF5]) rfl ?_
    rw [HN.out]
    refine ⟨rfl, ?_⟩
    exact ((((((HB3.out.setCell (Nat.le_refl _) _).setCell (Nat.le_refl _) _).setCell (Nat.le_refl _) _).setCell (Nat.le_refl _) _).setCell (Nat.le_refl _) _).setCell (Nat.le_refl _) _).alloc (by simp; omega) _
  case pos =>
  subst hrest
  have HV := hide (valid_any (.agg #[.int .i64 x1, .int .i64 x2, .int .i64 x3, .int .i64 x4, .int .i64 x5, .slice (some ⟨g, 0, none⟩) ts.length ts.length]) w3.heap.size ⟨x1, x2, x3, x4, x5, ts⟩ (w3.alloc (.cells #[.int .i64 x1, .int .i64 x2, .int .i64 x3, .int .i64 x4, .int .i64 x5, .slice (some ⟨g, 0, none⟩) ts.length ts.length] 26)) ⟨_, rfl, HO3.out.tasks.later ((Below.refl _ _).alloc (Nat.le_refl _) _) (Nat.le_refl _)⟩ (by simp))
  go_wp2_with fail
  refine HV.out.mono ?_
  rintro e w5 ⟨rfl, q5⟩
  have HCB5 := hide (HCB.out.later q5 (by simp))
  have HA5 := hide ((HA3.out.alloc (.cells #[.int .i64 x1, .int .i64 x2, .int .i64 x3, .int .i64 x4, .int .i64 x5, .slice (some ⟨g, 0, none⟩) ts.length ts.length] 26)).later q5 (by simp; omega))
  have HO5 : Hid (OwnTasks w5 _ _ _) := HO3.out.kept fun k hk hk' => (q5.block k (by simp; omega)).trans (Below.heap_alloc w3 _ k hk')
  have HB5 := hide ((HB3.out.alloc (by omega) (.cells #[.int .i64 x1, .int .i64 x2, .int .i64 x3, .int .i64 x4, .int .i64 x5, .slice (some ⟨g, 0, none⟩) ts.length ts.length] 26)).trans (q5.mono (by simp; omega)))
  have hz5 := q5.size
  simp at hz5
  clear q5 HV HCB HA3 HO3 HB3 ac0 ac1 ac2 ac3 ac4 ac5 af0 af1 af2 af3 af4 af5 rc0 rc1
  have ac0 : w5.cell? ⟨w.heap.size, 0, none⟩ = some (.int .i64 0) := HA5.out.cell 0
  have af0 := HA5.out.free 0
  have ac1 : w5.cell? ⟨w.heap.size, 1, none⟩ = some (.int .i64 0) := HA5.out.cell 1
  have af1 := HA5.out.free 1
  have ac2 : w5.cell? ⟨w.heap.size, 2, none⟩ = some (.int .i64 0) := HA5.out.cell 2
  have af2 := HA5.out.free 2
  have ac3 : w5.cell? ⟨w.heap.size, 3, none⟩ = some (.int .i64 0) := HA5.out.cell 3
  have af3 := HA5.out.free 3
  have ac4 : w5.cell? ⟨w.heap.size, 4, none⟩ = some (.int .i64 0) := HA5.out.cell 4
  have af4 := HA5.out.free 4
  have ac5 : w5.cell? ⟨w.heap.size, 5, none⟩ = some (.slice none 0 0) := HA5.out.cell 5
  have af5 := HA5.out.free 5
  cases hok : cfgOk ⟨x1, x2, x3, x4, x5, ts⟩
  · have HN : Hid (dec bs = none) := by rw [HD.out]; simp [Hid, hok]
    clear HD
    simp only []
    repeat (first | go_values | go_skip | go_guarded | go_step | go_upon)
    have HF := ((((((HA5.out.set 0 (.int .i64 0)).set 1 (.int .i64 0)).set 2 (.int .i64 0)).set 3 (.int .i64 0)).set 4 (.int .i64 0)).set 5 (.slice none 0 0))
    have HF0 := HF.cell 0
    have HF1 := HF.cell 1
    have HF2 := HF.cell 2
    have HF3 := HF.cell 3
    have HF4 := HF.cell 4
    have HF5 := HF.cell 5
    simp at HF0 HF1 HF2 HF3 HF4 HF5
    refine bodyPost_ret (v := .tuple #[zeroCfg, .bool false]) (by simp [results, Try.results22, go_sem, zeroCfg, HF0, HF1, HF2, HF3, HF4, HF5]) rfl ?_
    rw [HN.out]
    refine ⟨rfl, ?_⟩
    exact ((((((HB5.out.setCell (Nat.le_refl _) _).setCell (Nat.le_refl _) _).setCell (Nat.le_refl _) _).setCell (Nat.le_refl _) _).setCell (Nat.le_refl _) _).setCell (Nat.le_refl _) _)
  · have HN : Hid (dec bs = some ⟨x1, x2, x3, x4, x5, ts⟩) := by rw [HD.out]; simp [Hid, hok]
    clear HD
    have cc0 : w5.cell? ⟨w3.heap.size, 0, none⟩ = some (.int .i64 x1) := HCB5.out.cell 0
    have cc1 : w5.cell? ⟨w3.heap.size, 1, none⟩ = some (.int .i64 x2) := HCB5.out.cell 1
    have cc2 : w5.cell? ⟨w3.heap.size, 2, none⟩ = some (.int .i64 x3) := HCB5.out.cell 2
    have cc3 : w5.cell? ⟨w3.heap.size, 3, none⟩ = some (.int .i64 x4) := HCB5.out.cell 3
    have cc4 : w5.cell? ⟨w3.heap.size, 4, none⟩ = some (.int .i64 x5) := HCB5.out.cell 4
    have cc5 : w5.cell? ⟨w3.heap.size, 5, none⟩ = some (.slice (some ⟨g, 0, none⟩) ts.length ts.length) := HCB5.out.cell 5
    simp only []
    repeat (first | go_values | go_skip | go_guarded | go_step | go_upon)
    have HF := ((((((HA5.out.set 0 (.int .i64 x1)).set 1 (.int .i64 x2)).set 2 (.int .i64 x3)).set 3 (.int .i64 x4)).set 4 (.int .i64 x5)).set 5 (.slice (some ⟨g, 0, none⟩) ts.length ts.length))
    have HF0 := HF.cell 0
    have HF1 := HF.cell 1
    have HF2 := HF.cell 2
    have HF3 := HF.cell 3
    have HF4 := HF.cell 4
    have HF5 := HF.cell 5
    simp at HF0 HF1 HF2 HF3 HF4 HF5
    refine bodyPost_ret (v := .tuple #[.agg #[.int .i64 x1, .int .i64 x2, .int .i64 x3, .int .i64 x4, .int .i64 x5, .slice (some ⟨g, 0, none⟩) ts.length ts.length], .bool true]) (by simp [results, Try.results22, go_sem, HF0, HF1, HF2, HF3, HF4, HF5]) rfl ?_
    rw [HN.out]
    refine ⟨_, rfl, ?_, ?_⟩
    · refine (OwnTasks.kept HO5.out fun k hk hk' => ?_).lower (by simp; omega)
      simp only [World.size_alloc] at hk
      rw [heap_setCell_other _ _ _ _ (by simp; omega), heap_setCell_other _ _ _ _ (by simp; omega), heap_setCell_other _ _ _ _ (by simp; omega), heap_setCell_other _ _ _ _ (by simp; omega), heap_setCell_other _ _ _ _ (by simp; omega), heap_setCell_other _ _ _ _ (by simp; omega)]
    · exact ((((((HB5.out.setCell (Nat.le_refl _) _).setCell (Nat.le_refl _) _).setCell (Nat.le_refl _) _).setCell (Nat.le_refl _) _).setCell (Nat.le_refl _) _).setCell (Nat.le_refl _) _)

end Go.Proofs.Ythloffgebebijaa
