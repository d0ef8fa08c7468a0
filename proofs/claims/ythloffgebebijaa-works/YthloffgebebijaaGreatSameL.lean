/- SameL: the walks of tillerlaw's sameLimit, sameTask, sameConfig on what reads alike. -/
import Derived.Test.YthloffgebebijaaGreatRows
import Derived.Test.YthloffgebebijaaGreatData
import Derived.Test.YthloffgebebijaaGreatDrewN
import Derived.Deep.RegionHeld3
namespace Go.Proofs.YthloffgebebijaaGreat
open Go.RowKit

set_option maxHeartbeats 400000 in
theorem sameLimit_true (a b : Int) (w : World) :
    Calls Tryz.prog 54 #[.agg #[.int .i64 a, .int .i64 b], .agg #[.int .i64 a, .int .i64 b]] w fun e w' => e = .returned (.bool true) ∧ Below w.heap.size w w' := by
  go_enter Tryz.func54, Tryz.ntmps54
  go_wp2
  go_ret
  exact ⟨rfl, ((Below.refl _ _).alloc (Nat.le_refl _) _).alloc (by simp) _⟩

set_option maxRecDepth 100000 in
set_option maxHeartbeats 1600000 in
theorem sameTask_true (B : Nat) (va vb : Value) (t : Tk) (w : World) (ha : Task1 w B va t) (hb : Task1 w B vb t) (hB : B ≤ w.heap.size) (hl : t.lims.length ≤ 140737488355328) :
    Calls Tryz.prog 59 #[va, vb] w fun e w' => e = .returned (.bool true) ∧ Below w.heap.size w w' := by
  obtain ⟨sa, rfl, ha⟩ := ha
  obtain ⟨sb, rfl, hb⟩ := hb
  obtain ⟨cost, due, ls⟩ := t
  simp only at ha hb hl ⊢
  obtain ⟨aa, acap, rfl, ha⟩ := ha
  obtain ⟨ba, bcap, rfl, hb⟩ := hb
  generalize hn : ls.length = n at *
  have HN := hide hn
  have HA := hide ha
  have HB := hide hb
  clear hn ha hb
  go_enter Tryz.func59, Tryz.ntmps59
  go_wp2_with fail
  go_loopw [5] (fun i wr => ∃ k : Nat, i = .int .i64 k ∧ k ≤ n ∧ Below w.heap.size w wr ∧ Blk wr w.heap.size #[.int .i64 cost, .int .i64 due, .slice aa n acap] 55 ∧ Blk wr (w.heap.size + 1) #[.int .i64 cost, .int .i64 due, .slice ba n bcap] 55) (fun i _ => n - (intOf i).toNat)
  case atStart =>
    refine ⟨0, rfl, Nat.zero_le _, ((Below.refl _ _).alloc (Nat.le_refl _) _).alloc (by simp) _, (Blk.new _ _ _).alloc _, ?_⟩
    have := Blk.new (w.alloc (.cells #[.int .i64 cost, .int .i64 due, .slice aa n acap] 55)) #[.int .i64 cost, .int .i64 due, .slice ba n bcap] 55
    simpa using this
  case round =>
    obtain ⟨k, rfl, hk, hbel, hX, hY⟩ := hrel
    have x2 : wr.cell? ⟨w.heap.size, 2, none⟩ = some (.slice aa n acap) := hX.cell 2
    have y2 : wr.cell? ⟨w.heap.size + 1, 2, none⟩ = some (.slice ba n bcap) := hY.cell 2
    have hz1 := hX.lt
    have hz2 := hY.lt
    have HBE := hide hbel
    have HX := hide hX
    have HY := hide hY
    clear hX hY hbel
    by_cases hlt : k < n
    · obtain ⟨⟨l1, l2⟩, hg⟩ := get_of_lt (l := ls) (k := k) (by rw [HN.out]; exact hlt)
      rcases HA.out with he | ⟨ub, uo, rfl, hub, huc⟩
      · rw [he] at hg; simp at hg
      rcases HB.out with he | ⟨vb, vo, rfl, hvb, hvc⟩
      · rw [he] at hg; simp at hg
      obtain ⟨u0, u1⟩ := (huc k _ hg).later HBE.out (by omega)
      obtain ⟨v0, v1⟩ := (hvc k _ hg).later HBE.out (by omega)
      simp only at u0 u1 v0 v1
      clear hg huc hvc HA HB
      have HSL := hide (fun w' => sameLimit_true l1 l2 w')
      go_wp2_with fail
      go_region_held3 (fun w' => w'.cell? ⟨w.heap.size, 2, none⟩ = some (.slice (some ⟨ub, uo, none⟩) n acap) ∧ w'.cell? ⟨w.heap.size + 1, 2, none⟩ = some (.slice (some ⟨vb, vo, none⟩) n bcap) ∧ w'.cell? ⟨ub, uo + k * 2, none⟩ = some (.int .i64 l1) ∧ w'.cell? ⟨ub, uo + k * 2 + 1, none⟩ = some (.int .i64 l2) ∧ w'.cell? ⟨vb, vo + k * 2, none⟩ = some (.int .i64 l1) ∧ w'.cell? ⟨vb, vo + k * 2 + 1, none⟩ = some (.int .i64 l2)) (first | exact ⟨x2, y2, u0, u1, v0, v1⟩ | exact ⟨z2, zz2, z3, z4, z5, z6⟩)
        (first | (go_at_call 54; refine (HSL.out wr.drew).mono ?_; rintro e w5 ⟨rfl, b5⟩; have z2 := (b5.cell (p := ⟨w.heap.size, 2, none⟩) (by simp; omega)).trans x2; have zz2 := (b5.cell (p := ⟨w.heap.size + 1, 2, none⟩) (by simp; omega)).trans y2; have z3 := (b5.cell (p := ⟨ub, uo + k * 2, none⟩) (by simp; omega)).trans u0; have z4 := (b5.cell (p := ⟨ub, uo + k * 2 + 1, none⟩) (by simp; omega)).trans u1; have z5 := (b5.cell (p := ⟨vb, vo + k * 2, none⟩) (by simp; omega)).trans v0; have z6 := (b5.cell (p := ⟨vb, vo + k * 2 + 1, none⟩) (by simp; omega)).trans v1; have HB5 := hide b5; clear b5))
      go_wp2
      go_roundw
      case rel => exact ⟨k + 1, by go_num, by omega, (HBE.out.drew.trans (HB5.out.mono (by simp; omega))), HX.out.drew.later HB5.out (by simp; omega), HY.out.drew.later HB5.out (by simp; omega)⟩
      case measure => simp [intOf]; omega
    · go_wp2
      go_ret
      exact ⟨rfl, HBE.out⟩

set_option maxRecDepth 100000 in
set_option maxHeartbeats 1600000 in
theorem sameConfig_true (B : Nat) (va vb : Value) (c : Cfg) (w : World) (ha : Cf w B va c) (hb : Cf w B vb c) (hB : B ≤ w.heap.size) (hl : c.tasks.length ≤ 140737488355328) (hl2 : ∀ t ∈ c.tasks, t.lims.length ≤ 140737488355328) :
    Calls Tryz.prog 31 #[va, vb] w fun e w' => e = .returned (.bool true) ∧ Below w.heap.size w w' := by
  obtain ⟨sa, rfl, ha⟩ := ha
  obtain ⟨sb, rfl, hb⟩ := hb
  obtain ⟨x1, x2, x3, x4, x5, ts⟩ := c
  simp only at ha hb hl hl2 ⊢
  obtain ⟨aa, acap, rfl, ha⟩ := ha
  obtain ⟨ba, bcap, rfl, hb⟩ := hb
  generalize hn : ts.length = n at *
  have HN := hide hn
  have HA := hide ha
  have HB := hide hb
  have HL2 := hide hl2
  clear hn ha hb hl2
  go_enter Tryz.func31, Tryz.ntmps31
  go_wp2_with fail
  go_loopw [5] (fun i wr => ∃ k : Nat, i = .int .i64 k ∧ k ≤ n ∧ Below w.heap.size w wr ∧ Blk wr w.heap.size #[.int .i64 x1, .int .i64 x2, .int .i64 x3, .int .i64 x4, .int .i64 x5, .slice aa n acap] 40 ∧ Blk wr (w.heap.size + 1) #[.int .i64 x1, .int .i64 x2, .int .i64 x3, .int .i64 x4, .int .i64 x5, .slice ba n bcap] 40) (fun i _ => n - (intOf i).toNat)
  case atStart =>
    refine ⟨0, rfl, Nat.zero_le _, ((Below.refl _ _).alloc (Nat.le_refl _) _).alloc (by simp) _, (Blk.new _ _ _).alloc _, ?_⟩
    have := Blk.new (w.alloc (.cells #[.int .i64 x1, .int .i64 x2, .int .i64 x3, .int .i64 x4, .int .i64 x5, .slice aa n acap] 40)) #[.int .i64 x1, .int .i64 x2, .int .i64 x3, .int .i64 x4, .int .i64 x5, .slice ba n bcap] 40
    simpa using this
  case round =>
    obtain ⟨k, rfl, hk, hbel, hX, hY⟩ := hrel
    have p5 : wr.cell? ⟨w.heap.size, 5, none⟩ = some (.slice aa n acap) := hX.cell 5
    have q5 : wr.cell? ⟨w.heap.size + 1, 5, none⟩ = some (.slice ba n bcap) := hY.cell 5
    have hz1 := hX.lt
    have hz2 := hY.lt
    have HBE := hide hbel
    have HX := hide hX
    have HY := hide hY
    clear hX hY hbel
    by_cases hlt : k < n
    · obtain ⟨t, hg⟩ := get_of_lt (l := ts) (k := k) (by rw [HN.out]; exact hlt)
      rcases HA.out with he | ⟨ub, uo, rfl, hub, huc⟩
      · rw [he] at hg; simp at hg
      rcases HB.out with he | ⟨vb, vo, rfl, hvb, hvc⟩
      · rw [he] at hg; simp at hg
      obtain ⟨u0, u1, s, u2, hs⟩ := (huc k _ hg).later HBE.out hB (by omega)
      obtain ⟨v0, v1, s', v2, hs'⟩ := (hvc k _ hg).later HBE.out hB (by omega)
      have HTL := hide (HL2.out t (List.mem_of_getElem? hg))
      obtain ⟨ea, ecap, rfl⟩ := hs.slice
      obtain ⟨fa, fcap, rfl⟩ := hs'.slice
      have HS := hide hs
      have HS' := hide hs'
      have HST := hide (sameTask_true B (.agg #[.int .i64 t.cost, .int .i64 t.due, .slice ea t.lims.length ecap]) (.agg #[.int .i64 t.cost, .int .i64 t.due, .slice fa t.lims.length fcap]) t wr.drew ⟨_, rfl, HS.out.later (Below.refl _ _).drew (Nat.le_refl _)⟩ ⟨_, rfl, HS'.out.later (Below.refl _ _).drew (Nat.le_refl _)⟩ (by simp; omega) HTL.out)
      clear hg huc hvc HA HB hs hs'
      go_wp2_with fail
      go_region_held3 (fun w' => w'.cell? ⟨w.heap.size, 5, none⟩ = some (.slice (some ⟨ub, uo, none⟩) n acap) ∧ w'.cell? ⟨w.heap.size + 1, 5, none⟩ = some (.slice (some ⟨vb, vo, none⟩) n bcap) ∧ w'.cell? ⟨ub, uo + k * 3, none⟩ = some (.int .i64 t.cost) ∧ w'.cell? ⟨ub, uo + k * 3 + 1, none⟩ = some (.int .i64 t.due) ∧ w'.cell? ⟨ub, uo + k * 3 + 2, none⟩ = some (.slice ea t.lims.length ecap) ∧ w'.cell? ⟨vb, vo + k * 3, none⟩ = some (.int .i64 t.cost) ∧ w'.cell? ⟨vb, vo + k * 3 + 1, none⟩ = some (.int .i64 t.due) ∧ w'.cell? ⟨vb, vo + k * 3 + 2, none⟩ = some (.slice fa t.lims.length fcap)) (first | exact ⟨p5, q5, u0, u1, u2, v0, v1, v2⟩ | exact ⟨z1, z2, z3, z4, z5, z6, z7, z8⟩)
        (first | (go_at_call 59; refine HST.out.mono ?_; rintro e w5 ⟨rfl, b5⟩; have z1 := (b5.cell (p := ⟨w.heap.size, 5, none⟩) (by simp; omega)).trans p5; have z2 := (b5.cell (p := ⟨w.heap.size + 1, 5, none⟩) (by simp; omega)).trans q5; have z3 := (b5.cell (p := ⟨ub, uo + k * 3, none⟩) (by simp; omega)).trans u0; have z4 := (b5.cell (p := ⟨ub, uo + k * 3 + 1, none⟩) (by simp; omega)).trans u1; have z5 := (b5.cell (p := ⟨ub, uo + k * 3 + 2, none⟩) (by simp; omega)).trans u2; have z6 := (b5.cell (p := ⟨vb, vo + k * 3, none⟩) (by simp; omega)).trans v0; have z7 := (b5.cell (p := ⟨vb, vo + k * 3 + 1, none⟩) (by simp; omega)).trans v1; have z8 := (b5.cell (p := ⟨vb, vo + k * 3 + 2, none⟩) (by simp; omega)).trans v2; have HB5 := hide b5; clear b5))
      go_wp2
      go_roundw
      case rel => exact ⟨k + 1, by go_num, by omega, (HBE.out.drew.trans (HB5.out.mono (by simp; omega))), HX.out.drew.later HB5.out (by simp; omega), HY.out.drew.later HB5.out (by simp; omega)⟩
      case measure => simp [intOf]; omega
    · go_wp2
      go_ret
      exact ⟨rfl, HBE.out⟩

end Go.Proofs.YthloffgebebijaaGreat
