/- CheckA: the walk of tiller's Check. -/
import Derived.Test.YthloffgebebijaaGreatAheadG
namespace Go.Proofs.YthloffgebebijaaGreat
open Go.RowKit

/-- What Check answers: the verdict, the bounds, the need, the error. -/
def ckWhat (c : Cfg) : Int := if cfgOk c = true then whatI c else 0
def ckBounds (c : Cfg) : List Int := if cfgOk c = true then c.tasks.map (boundI c) else []
def ckNeed (c : Cfg) : Int := if cfgOk c = true then needI c else 0
def ckErr (c : Cfg) : Int := if cfgOk c = true then 0 else 1

set_option maxRecDepth 100000 in
set_option maxHeartbeats 800000 in
theorem check_yes (B : Nat) (v : Value) (c : Cfg) (w : World) (hv : CfC w B v c) (hB : B ≤ w.heap.size) (hok : cfgOk c = true) :
    Calls Tryz.prog 33 #[v] w fun e w' => ∃ g, e = .returned (.tuple #[.agg #[.int .i64 (whatI c), .slice (some ⟨g, 0, none⟩) c.tasks.length c.tasks.length, .int .i64 (needI c)], .int .i64 0]) ∧ w.heap.size ≤ g ∧ Blk w' g (intsV (c.tasks.map (boundI c))).toArray 3 ∧ Below w.heap.size w w' := by
  have HV := hide hv
  have hv' := hv
  obtain ⟨s, rfl, sa, scap, rfl, hs⟩ := hv'
  clear hs
  have HB0 : Hid (Below w.heap.size w ((w.alloc (.cells #[.int .i64 c.lines, .int .i64 c.room, .int .i64 c.poll, .int .i64 c.idle, .int .i64 c.sw, .slice sa c.tasks.length scap] 40)).alloc (.cells #[.int .i64 0, .slice none 0 0, .int .i64 0] 86))) := ((Below.refl _ _).alloc (Nat.le_refl _) _).alloc (by simp) _
  have HK0 : Hid (Blk ((w.alloc (.cells #[.int .i64 c.lines, .int .i64 c.room, .int .i64 c.poll, .int .i64 c.idle, .int .i64 c.sw, .slice sa c.tasks.length scap] 40)).alloc (.cells #[.int .i64 0, .slice none 0 0, .int .i64 0] 86)) w.heap.size #[.int .i64 c.lines, .int .i64 c.room, .int .i64 c.poll, .int .i64 c.idle, .int .i64 c.sw, .slice sa c.tasks.length scap] 40) := (Blk.new _ _ _).alloc _
  have HR0 : Hid (Blk ((w.alloc (.cells #[.int .i64 c.lines, .int .i64 c.room, .int .i64 c.poll, .int .i64 c.idle, .int .i64 c.sw, .slice sa c.tasks.length scap] 40)).alloc (.cells #[.int .i64 0, .slice none 0 0, .int .i64 0] 86)) (w.heap.size + 1) #[.int .i64 0, .slice none 0 0, .int .i64 0] 86) := by
    have := Blk.new (w.alloc (.cells #[.int .i64 c.lines, .int .i64 c.room, .int .i64 c.poll, .int .i64 c.idle, .int .i64 c.sw, .slice sa c.tasks.length scap] 40)) #[.int .i64 0, .slice none 0 0, .int .i64 0] 86
    simpa [Hid] using this
  clear hv
  go_enter Tryz.func33, Tryz.ntmps33
  go_wp2_with fail
  refine (valid_any _ B c _ ((HV.out.later HB0.out hB).cf) (by simp; omega)).mono ?_
  rintro e w1 ⟨rfl, q1⟩
  have hz1 := q1.size
  simp only [World.size_alloc] at hz1
  have HB1 : Hid (Below w.heap.size w w1) := HB0.out.trans (q1.mono (by simp; omega))
  have HK1 := hide (HK0.out.later q1 (by simp; omega))
  have HR1 := hide (HR0.out.later q1 (by simp))
  clear q1
  rw [hok]
  have k0 : w1.cell? ⟨w.heap.size, 0, none⟩ = some (.int .i64 c.lines) := HK1.out.cell 0
  have k1 : w1.cell? ⟨w.heap.size, 1, none⟩ = some (.int .i64 c.room) := HK1.out.cell 1
  have k2 : w1.cell? ⟨w.heap.size, 2, none⟩ = some (.int .i64 c.poll) := HK1.out.cell 2
  have k3 : w1.cell? ⟨w.heap.size, 3, none⟩ = some (.int .i64 c.idle) := HK1.out.cell 3
  have k4 : w1.cell? ⟨w.heap.size, 4, none⟩ = some (.int .i64 c.sw) := HK1.out.cell 4
  have k5 : w1.cell? ⟨w.heap.size, 5, none⟩ = some (.slice sa c.tasks.length scap) := HK1.out.cell 5
  go_wp2_with fail
  refine (report_any B _ c w1 (HV.out.later HB1.out hB) (by omega) (CfIn.of hok)).mono ?_
  rintro e w2 ⟨g, rfl, hg, hb, q2⟩
  have HR2 := hide (HR1.out.later q2 (by omega))
  have HG2 := hide hb
  have HB2 := hide (HB1.out.trans (q2.mono (by omega)))
  have a0 : w2.cell? ⟨w.heap.size + 1, 0, none⟩ = some (.int .i64 0) := HR2.out.cell 0
  have a0f := HR2.out.free 0
  have a1 : w2.cell? ⟨w.heap.size + 1, 1, none⟩ = some (.slice none 0 0) := HR2.out.cell 1
  have a1f := HR2.out.free 1
  have a2 : w2.cell? ⟨w.heap.size + 1, 2, none⟩ = some (.int .i64 0) := HR2.out.cell 2
  have a2f := HR2.out.free 2
  clear q2 hb k0 k1 k2 k3 k4 k5
  simp only []
  repeat (first | go_values | go_skip | go_guarded | go_step | go_upon)
  have HF := ((HR2.out.set 0 (.int .i64 (whatI c))).set 1 (.slice (some ⟨g, 0, none⟩) c.tasks.length c.tasks.length)).set 2 (.int .i64 (needI c))
  have HF0 := HF.cell 0
  have HF1 := HF.cell 1
  have HF2 := HF.cell 2
  simp at HF0 HF1 HF2
  exact bodyPost_ret (v := .tuple #[.agg #[.int .i64 (whatI c), .slice (some ⟨g, 0, none⟩) c.tasks.length c.tasks.length, .int .i64 (needI c)], .int .i64 0]) (by simp [results, Tryz.results33, go_sem, HF0, HF1, HF2]) rfl ⟨g, rfl, by omega, ((HG2.out.other (by simp; omega) _).other (by simp; omega) _).other (by simp; omega) _, ((HB2.out.setCell (by simp) _).setCell (by simp) _).setCell (by simp) _⟩

set_option maxRecDepth 100000 in
set_option maxHeartbeats 800000 in
theorem check_no (B : Nat) (v : Value) (c : Cfg) (w : World) (hv : CfC w B v c) (hB : B ≤ w.heap.size) (hok : cfgOk c = false) :
    Calls Tryz.prog 33 #[v] w fun e w' => e = .returned (.tuple #[.agg #[.int .i64 0, .slice none 0 0, .int .i64 0], .int .i64 1]) ∧ Below w.heap.size w w' := by
  have HV := hide hv
  have hv' := hv
  obtain ⟨s, rfl, sa, scap, rfl, hs⟩ := hv'
  clear hs
  have HB0 : Hid (Below w.heap.size w ((w.alloc (.cells #[.int .i64 c.lines, .int .i64 c.room, .int .i64 c.poll, .int .i64 c.idle, .int .i64 c.sw, .slice sa c.tasks.length scap] 40)).alloc (.cells #[.int .i64 0, .slice none 0 0, .int .i64 0] 86))) := ((Below.refl _ _).alloc (Nat.le_refl _) _).alloc (by simp) _
  have HK0 : Hid (Blk ((w.alloc (.cells #[.int .i64 c.lines, .int .i64 c.room, .int .i64 c.poll, .int .i64 c.idle, .int .i64 c.sw, .slice sa c.tasks.length scap] 40)).alloc (.cells #[.int .i64 0, .slice none 0 0, .int .i64 0] 86)) w.heap.size #[.int .i64 c.lines, .int .i64 c.room, .int .i64 c.poll, .int .i64 c.idle, .int .i64 c.sw, .slice sa c.tasks.length scap] 40) := (Blk.new _ _ _).alloc _
  have HR0 : Hid (Blk ((w.alloc (.cells #[.int .i64 c.lines, .int .i64 c.room, .int .i64 c.poll, .int .i64 c.idle, .int .i64 c.sw, .slice sa c.tasks.length scap] 40)).alloc (.cells #[.int .i64 0, .slice none 0 0, .int .i64 0] 86)) (w.heap.size + 1) #[.int .i64 0, .slice none 0 0, .int .i64 0] 86) := by
    have := Blk.new (w.alloc (.cells #[.int .i64 c.lines, .int .i64 c.room, .int .i64 c.poll, .int .i64 c.idle, .int .i64 c.sw, .slice sa c.tasks.length scap] 40)) #[.int .i64 0, .slice none 0 0, .int .i64 0] 86
    simpa [Hid] using this
  clear hv
  go_enter Tryz.func33, Tryz.ntmps33
  go_wp2_with fail
  refine (valid_any _ B c _ ((HV.out.later HB0.out hB).cf) (by simp; omega)).mono ?_
  rintro e w1 ⟨rfl, q1⟩
  have hz1 := q1.size
  simp only [World.size_alloc] at hz1
  have HB1 : Hid (Below w.heap.size w w1) := HB0.out.trans (q1.mono (by simp; omega))
  have HK1 := hide (HK0.out.later q1 (by simp; omega))
  have HR1 := hide (HR0.out.later q1 (by simp))
  clear q1
  rw [hok]
  have a0 : w1.cell? ⟨w.heap.size + 1, 0, none⟩ = some (.int .i64 0) := HR1.out.cell 0
  have a0f := HR1.out.free 0
  have a1 : w1.cell? ⟨w.heap.size + 1, 1, none⟩ = some (.slice none 0 0) := HR1.out.cell 1
  have a1f := HR1.out.free 1
  have a2 : w1.cell? ⟨w.heap.size + 1, 2, none⟩ = some (.int .i64 0) := HR1.out.cell 2
  have a2f := HR1.out.free 2
  simp only []
  repeat (first | go_values | go_skip | go_guarded | go_step | go_upon)
  have HF := ((HR1.out.set 0 (.int .i64 0)).set 1 (.slice none 0 0)).set 2 (.int .i64 0)
  have HF0 := HF.cell 0
  have HF1 := HF.cell 1
  have HF2 := HF.cell 2
  simp at HF0 HF1 HF2
  exact bodyPost_ret (v := .tuple #[.agg #[.int .i64 0, .slice none 0 0, .int .i64 0], .int .i64 1]) (by simp [results, Tryz.results33, go_sem, HF0, HF1, HF2]) rfl ⟨rfl, ((HB1.out.setCell (by simp) _).setCell (by simp) _).setCell (by simp) _⟩

theorem check_any (B : Nat) (v : Value) (c : Cfg) (w : World) (hv : CfC w B v c) (hB : B ≤ w.heap.size) :
    Calls Tryz.prog 33 #[v] w fun e w' => ∃ a cap, e = .returned (.tuple #[.agg #[.int .i64 (ckWhat c), .slice a (ckBounds c).length cap, .int .i64 (ckNeed c)], .int .i64 (ckErr c)]) ∧ w'.ownsRow w.heap.size 3 1 (.slice a (ckBounds c).length cap) (ckBounds c).length (intsV (ckBounds c)) ∧ Below w.heap.size w w' := by
  cases hok : cfgOk c with
  | true =>
    refine (check_yes B v c w hv hB hok).mono ?_
    rintro e w' ⟨g, rfl, hg, hb, hq⟩
    have hn := (CfIn.of hok).n2
    refine ⟨some ⟨g, 0, none⟩, c.tasks.length, by simp [ckWhat, ckBounds, ckNeed, ckErr, hok], ?_, hq⟩
    simp only [ckBounds, hok, if_true, List.length_map]
    refine ⟨by simp [intsV], .inr ⟨g, c.tasks.length, _, rfl, hg, hb, Nat.le_refl _, by unfold maxLen; omega, by simp [intsV], ?_⟩⟩
    simp only []
    rw [List.take_of_length_le (by simp [intsV])]
  | false =>
    refine (check_no B v c w hv hB hok).mono ?_
    rintro e w' ⟨rfl, hq⟩
    refine ⟨none, 0, by simp [ckWhat, ckBounds, ckNeed, ckErr, hok], ?_, hq⟩
    simpa [ckBounds, hok, intsV] using World.ownsRow_nil w' w.heap.size 3 1

end Go.Proofs.YthloffgebebijaaGreat
