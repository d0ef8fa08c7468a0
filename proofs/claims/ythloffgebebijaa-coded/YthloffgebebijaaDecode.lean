/- Decode: the walk of Decode. -/
import Derived.Test.YthloffgebebijaaParse
namespace Go.Proofs.Ythloffgebebijaa
open Go.RowKit

set_option maxRecDepth 100000 in
set_option maxHeartbeats 1600000 in
theorem decode_any (B : Nat) (v : Value) (bs : List Int) (w : World) (h : Rd8 w B v bs) (hB : B ≤ w.heap.size) (hb : AllB bs) (hlen : bs.length ≤ 140737488355328) :
    Calls Try.prog 10 #[v] w fun e w' => DecPost (.int .i64 2) (.int .i64 0) w w' e (dec bs) := by
  have hb0 : ∀ o, Below w.heap.size w (w.alloc o) := fun o => (Below.refl _ _).alloc (Nat.le_refl _) _
  have HP := hide (parse_any B v bs (w.alloc (.cells #[.int .i64 0, .int .i64 0, .int .i64 0, .int .i64 0, .int .i64 0, .slice none 0 0] 26)) (h.later (hb0 _) hB) (by simp; omega) hb hlen)
  obtain ⟨a, cap, rfl, -, -⟩ := h
  have HA0 := hide (Blk.new w #[.int .i64 0, .int .i64 0, .int .i64 0, .int .i64 0, .int .i64 0, .slice none 0 0] 26)
  generalize hd : dec bs = d at *
  generalize bs.length = n at *
  clear hd hb
  cases d with
  | none =>
    go_enter Try.func10, Try.ntmps10
    go_wp2_with fail
    refine HP.out.mono ?_
    rintro e w1 ⟨rfl, q1⟩
    have HA := hide (HA0.out.later q1 (by simp))
    have HB := hide ((hb0 (.cells #[.int .i64 0, .int .i64 0, .int .i64 0, .int .i64 0, .int .i64 0, .slice none 0 0] 26)).trans (q1.mono (by simp)))
    have hz : w.heap.size < w1.heap.size := HA.out.lt
    clear q1 HP HA0 hb0
    unfold zeroCfg
    have ac0 : w1.cell? ⟨w.heap.size, 0, none⟩ = some (.int .i64 0) := HA.out.cell 0
    have af0 := HA.out.free 0
    have ac1 : w1.cell? ⟨w.heap.size, 1, none⟩ = some (.int .i64 0) := HA.out.cell 1
    have af1 := HA.out.free 1
    have ac2 : w1.cell? ⟨w.heap.size, 2, none⟩ = some (.int .i64 0) := HA.out.cell 2
    have af2 := HA.out.free 2
    have ac3 : w1.cell? ⟨w.heap.size, 3, none⟩ = some (.int .i64 0) := HA.out.cell 3
    have af3 := HA.out.free 3
    have ac4 : w1.cell? ⟨w.heap.size, 4, none⟩ = some (.int .i64 0) := HA.out.cell 4
    have af4 := HA.out.free 4
    have ac5 : w1.cell? ⟨w.heap.size, 5, none⟩ = some (.slice none 0 0) := HA.out.cell 5
    have af5 := HA.out.free 5
    simp only []
    repeat (first | go_values | go_skip | go_guarded | go_step | go_upon)
    have HF := ((((((HA.out.set 0 (.int .i64 0)).set 1 (.int .i64 0)).set 2 (.int .i64 0)).set 3 (.int .i64 0)).set 4 (.int .i64 0)).set 5 (.slice none 0 0)).alloc (.cells #[.int .i64 0, .int .i64 0, .int .i64 0, .int .i64 0, .int .i64 0, .slice none 0 0] 26)
    have HF0 := HF.cell 0
    have HF1 := HF.cell 1
    have HF2 := HF.cell 2
    have HF3 := HF.cell 3
    have HF4 := HF.cell 4
    have HF5 := HF.cell 5
    simp at HF0 HF1 HF2 HF3 HF4 HF5
    refine bodyPost_ret (v := .tuple #[zeroCfg, .int .i64 2]) (by simp [results, Try.results10, go_sem, zeroCfg, HF0, HF1, HF2, HF3, HF4, HF5]) rfl ⟨rfl, ?_⟩
    exact ((((((HB.out.setCell (Nat.le_refl _) _).setCell (Nat.le_refl _) _).setCell (Nat.le_refl _) _).setCell (Nat.le_refl _) _).setCell (Nat.le_refl _) _).setCell (Nat.le_refl _) _).alloc (by simp; omega) _
  | some c =>
    go_enter Try.func10, Try.ntmps10
    go_wp2_with fail
    refine HP.out.mono ?_
    rintro e w1 ⟨v1, rfl, o1, q1⟩
    have HA := hide (HA0.out.later q1 (by simp))
    have HB := hide ((hb0 (.cells #[.int .i64 0, .int .i64 0, .int .i64 0, .int .i64 0, .int .i64 0, .slice none 0 0] 26)).trans (q1.mono (by simp)))
    have hz : w.heap.size < w1.heap.size := HA.out.lt
    have HO := hide o1
    obtain ⟨g, rfl⟩ := o1.slice
    obtain ⟨x1, x2, x3, x4, x5, ts⟩ := c
    simp only at HO
    clear q1 HP HA0 hb0 o1
    have ac0 : w1.cell? ⟨w.heap.size, 0, none⟩ = some (.int .i64 0) := HA.out.cell 0
    have af0 := HA.out.free 0
    have ac1 : w1.cell? ⟨w.heap.size, 1, none⟩ = some (.int .i64 0) := HA.out.cell 1
    have af1 := HA.out.free 1
    have ac2 : w1.cell? ⟨w.heap.size, 2, none⟩ = some (.int .i64 0) := HA.out.cell 2
    have af2 := HA.out.free 2
    have ac3 : w1.cell? ⟨w.heap.size, 3, none⟩ = some (.int .i64 0) := HA.out.cell 3
    have af3 := HA.out.free 3
    have ac4 : w1.cell? ⟨w.heap.size, 4, none⟩ = some (.int .i64 0) := HA.out.cell 4
    have af4 := HA.out.free 4
    have ac5 : w1.cell? ⟨w.heap.size, 5, none⟩ = some (.slice none 0 0) := HA.out.cell 5
    have af5 := HA.out.free 5
    simp only []
    repeat (first | go_values | go_skip | go_guarded | go_step | go_upon)
    have HF := ((((((HA.out.set 0 (.int .i64 x1)).set 1 (.int .i64 x2)).set 2 (.int .i64 x3)).set 3 (.int .i64 x4)).set 4 (.int .i64 x5)).set 5 (.slice (some ⟨g, 0, none⟩) ts.length ts.length)).alloc (.cells #[.int .i64 x1, .int .i64 x2, .int .i64 x3, .int .i64 x4, .int .i64 x5, .slice (some ⟨g, 0, none⟩) ts.length ts.length] 26)
    have HF0 := HF.cell 0
    have HF1 := HF.cell 1
    have HF2 := HF.cell 2
    have HF3 := HF.cell 3
    have HF4 := HF.cell 4
    have HF5 := HF.cell 5
    simp at HF0 HF1 HF2 HF3 HF4 HF5
    refine bodyPost_ret (v := .tuple #[.agg #[.int .i64 x1, .int .i64 x2, .int .i64 x3, .int .i64 x4, .int .i64 x5, .slice (some ⟨g, 0, none⟩) ts.length ts.length], .int .i64 0]) (by simp [results, Try.results10, go_sem, HF0, HF1, HF2, HF3, HF4, HF5]) rfl ⟨_, rfl, ?_, ?_⟩
    · refine (OwnTasks.kept HO.out fun k hk hk' => ?_).lower (by simp)
      simp only [World.size_alloc] at hk
      rw [Below.heap_alloc _ _ _ (by simp; omega), heap_setCell_other _ _ _ _ (by simp; omega), heap_setCell_other _ _ _ _ (by simp; omega), heap_setCell_other _ _ _ _ (by simp; omega), heap_setCell_other _ _ _ _ (by simp; omega), heap_setCell_other _ _ _ _ (by simp; omega), heap_setCell_other _ _ _ _ (by simp; omega)]
    · exact ((((((HB.out.setCell (Nat.le_refl _) _).setCell (Nat.le_refl _) _).setCell (Nat.le_refl _) _).setCell (Nat.le_refl _) _).setCell (Nat.le_refl _) _).setCell (Nat.le_refl _) _).alloc (by simp; omega) _

end Go.Proofs.Ythloffgebebijaa
