/- Same: the walk of tillerkeep.same on two configurations that read alike. -/
import Derived.Test.YthloffgebebijaaRows
import Derived.Test.YthloffgebebijaaData
import Derived.Deep.QuietTactic
import Derived.BigQuiet
import Derived.Test.YthloffgebebijaaDrewN
namespace Go.Proofs.Ythloffgebebijaa
open Go.RowKit


set_option maxRecDepth 100000 in
set_option maxHeartbeats 1600000 in
theorem same_true (B : Nat) (va vb : Value) (c : Cfg) (w : World) (ha : Cf w B va c) (hb : Cf w B vb c) (hB : B ≤ w.heap.size) (hl : c.tasks.length ≤ 1000) (hl2 : ∀ t ∈ c.tasks, t.lims.length ≤ 1000) :
    Calls Try.prog 11 #[va, vb] w fun e w' => e = .returned (.bool true) ∧ Below w.heap.size w w' := by
  obtain ⟨sa, rfl, ha⟩ := ha
  obtain ⟨sb, rfl, hb⟩ := hb
  obtain ⟨x1, x2, x3, x4, x5, ts⟩ := c
  simp only at ha hb hl hl2 ⊢
  obtain ⟨aa, acap, rfl, ha⟩ := ha
  obtain ⟨ba, bcap, rfl, hb⟩ := hb
  generalize hn : ts.length = n at *
  have HN := hide hn
  have HA := hide ha
  have HB := hide hb
  have HL2 := hide hl2
  clear hn ha hb hl2
  have hb0 : Hid (∀ o o', Below w.heap.size w ((w.alloc o).alloc o')) := fun o o' => ((Below.refl _ _).alloc (Nat.le_refl _) _).alloc (by simp) _
  go_enter Try.func11, Try.ntmps11
  go_wp2_with fail
  go_loopw [5] (fun i wr => ∃ k : Nat, i = .int .i64 k ∧ k ≤ n ∧ Below w.heap.size w wr ∧ Blk wr w.heap.size #[.int .i64 x1, .int .i64 x2, .int .i64 x3, .int .i64 x4, .int .i64 x5, .slice aa n acap] 26 ∧ Blk wr (w.heap.size + 1) #[.int .i64 x1, .int .i64 x2, .int .i64 x3, .int .i64 x4, .int .i64 x5, .slice ba n bcap] 26) (fun i _ => n - (intOf i).toNat)
  case atStart =>
    refine ⟨0, rfl, Nat.zero_le _, hb0.out _ _, (Blk.new _ _ _).alloc _, ?_⟩
    have := Blk.new (w.alloc (.cells #[.int .i64 x1, .int .i64 x2, .int .i64 x3, .int .i64 x4, .int .i64 x5, .slice aa n acap] 26)) #[.int .i64 x1, .int .i64 x2, .int .i64 x3, .int .i64 x4, .int .i64 x5, .slice ba n bcap] 26
    simpa using this
  case round =>
    obtain ⟨k, rfl, hk, hbel, hA, hBb⟩ := hrel
    have ac5 : wr.cell? ⟨w.heap.size, 5, none⟩ = some (.slice aa n acap) := hA.cell 5
    have bc5 : wr.cell? ⟨w.heap.size + 1, 5, none⟩ = some (.slice ba n bcap) := hBb.cell 5
    have hz1 := hA.lt
    have hz2 := hBb.lt
    have HBE := hide hbel
    have HBA := hide hA
    have HBB := hide hBb
    clear hbel hA hBb
    by_cases hlt : k < n
    · obtain ⟨t, hl⟩ := get_of_lt (l := ts) (k := k) (by rw [HN.out]; exact hlt)
      rcases HA.out with he | ⟨pb, po, rfl, hpb, hpc⟩
      · rw [he] at hl; simp at hl
      rcases HB.out with he | ⟨qb, qo, rfl, hqb, hqc⟩
      · rw [he] at hl; simp at hl
      obtain ⟨a0, a1, s, a2, hs⟩ := (hpc k t hl).later HBE.out hB (by omega)
      obtain ⟨b0, b1, s', b2, hs'⟩ := (hqc k t hl).later HBE.out hB (by omega)
      have hlm := HL2.out t (List.mem_of_getElem? hl)
      clear hpc hqc HA HB hl
      obtain ⟨cost, due, ls⟩ := t
      simp only at a0 a1 hs b0 b1 hs' hlm
      obtain ⟨sa, scap, rfl, hs⟩ := hs
      obtain ⟨ta, tcap, rfl, hs'⟩ := hs'
      generalize hm : ls.length = m at *
      have HM := hide hm
      have HS := hide hs
      have HS' := hide hs'
      clear hm hs hs'
      have hpw : pb < wr.heap.size := by omega
      have hqw : qb < wr.heap.size := by omega
      obtain ⟨W0, hW0⟩ : ∃ W, W = wr := ⟨_, rfl⟩
      subst hW0
      go_wp2_with fail
      go_loopw [8] (fun j wr => ∃ q : Nat, j = .int .i64 q ∧ q ≤ m ∧ Below W0.heap.size W0 wr ∧ Blk wr W0.heap.size #[.int .i64 cost, .int .i64 due, .slice sa m scap] 61 ∧ Blk wr (W0.heap.size + 1) #[.int .i64 cost, .int .i64 due, .slice ta m tcap] 61) (fun j _ => m - (intOf j).toNat)
      case atStart =>
        refine ⟨0, rfl, Nat.zero_le _, ((Below.refl _ _).alloc (Nat.le_refl _) _).alloc (by simp) _, (Blk.new _ _ _).alloc _, ?_⟩
        have := Blk.new (W0.alloc (.cells #[.int .i64 cost, .int .i64 due, .slice sa m scap] 61)) #[.int .i64 cost, .int .i64 due, .slice ta m tcap] 61
        simpa using this
      case round =>
        obtain ⟨q, rfl, hq, hbel, hX, hY⟩ := hrel
        have xc2 : wr.cell? ⟨W0.heap.size, 2, none⟩ = some (.slice sa m scap) := hX.cell 2
        have yc2 : wr.cell? ⟨W0.heap.size + 1, 2, none⟩ = some (.slice ta m tcap) := hY.cell 2
        have hz3 := hX.lt
        have hz4 := hY.lt
        by_cases hlt2 : q < m
        · obtain ⟨⟨l1, l2⟩, hl⟩ := get_of_lt (l := ls) (k := q) (by rw [HM.out]; exact hlt2)
          rcases HS.out with he | ⟨ub, uo, rfl, hub, huc⟩
          · rw [he] at hl; simp at hl
          rcases HS'.out with he | ⟨vb, vo, rfl, hvb, hvc⟩
          · rw [he] at hl; simp at hl
          obtain ⟨u0, u1⟩ := (huc q _ hl).later hbel (by omega)
          obtain ⟨v0, v1⟩ := (hvc q _ hl).later hbel (by omega)
          simp only at u0 u1 v0 v1
          have HBL := hide hbel
          have HX := hide hX
          have HY := hide hY
          clear hl huc hvc HS HS' hbel hX hY
          go_wp2_with fail
          go_quiet ((fail))
          go_wp2
          go_roundw
          case rel => exact ⟨q + 1, by go_num, by omega, Below.drewN HBL.out _, HX.out, HY.out⟩
          case measure => simp [intOf]; omega
        · have HBL := hide hbel
          clear hbel hX hY
          go_wp2
          go_roundw
          case rel => exact ⟨k + 1, by go_num, by omega, HBE.out.trans (HBL.out.mono (by omega)), HBA.out.later HBL.out (by omega), HBB.out.later HBL.out (by omega)⟩
          case measure => simp [intOf]; omega
    · go_wp2
      go_ret
      exact ⟨rfl, HBE.out⟩

end Go.Proofs.Ythloffgebebijaa
