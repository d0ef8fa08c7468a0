/- Looks: the walk of tillerlaw's (*Book).looks: nothing but its own mark stands in each list. -/
import Derived.Test.YthloffgebebijaaGreatBookK
import Derived.Test.YthloffgebebijaaGreatPlays
namespace Go.Proofs.YthloffgebebijaaGreat
open Go.RowKit

set_option maxRecDepth 100000 in
set_option maxHeartbeats 3200000 in
theorem looks_true (S : Nat → Prop) (B W : Nat) (ps : Value) (nb ni ne nl nt : Nat) (w : World) (h : BookAt w S B W ps nb ni ne nl nt) (hnb : nb ≤ 1300000000000) (hni : ni ≤ 1300000000000) (hne : ne ≤ 1300000000000) (hnl : nl ≤ 1300000000000) (hnt : nt ≤ 1300000000000) :
    Calls Tryz.prog 10 #[.pointer (some ⟨W, 1, none⟩)] w fun e w' => e = .returned (.bool true) ∧ Below w.heap.size w w' := by
  obtain ⟨hS, hSW, vb, vi, ve, vl, vt, hW, eb, ei, ee, el, et⟩ := h
  have HS := hide hS
  have HW := hide hW
  have hwlt := hW.lt
  have HEb := hide eb; have HEi := hide ei; have HEe := hide ee; have HEl := hide el; have HEt := hide et
  obtain ⟨ab, cb, rfl⟩ := eb.slice
  obtain ⟨ai, ci, rfl⟩ := ei.slice
  obtain ⟨ae, ce, rfl⟩ := ee.slice
  obtain ⟨al, cl, rfl⟩ := el.slice
  obtain ⟨a', c', rfl⟩ := et.slice
  clear eb ei ee el et hS hW hSW
  go_enter Tryz.func10, Tryz.ntmps10
  have c1 : w.cell? ⟨W, 1, none⟩ = some (.slice ab nb cb) := HW.out.cell 1
  go_wp2_with fail
  go_loopw [3, 4] (fun ok i wr => ∃ k : Nat, ok = .bool true ∧ i = .int .i64 k ∧ k ≤ nb ∧ Below w.heap.size w wr) (fun _ i _ => nb - (intOf i).toNat)
  case atStart => exact ⟨0, rfl, rfl, Nat.zero_le _, Below.refl _ _⟩
  case round =>
    obtain ⟨k, rfl, rfl, hk, hb⟩ := hrel
    have HB0 := hide hb
    have hz0 := hb.size
    have d1 : wr.cell? ⟨W, 1, none⟩ = some (.slice ab nb cb) := (hb.cell (p := ⟨W, 1, none⟩) hwlt).trans (HW.out.cell 1)
    clear hb c1
    by_cases hlt : k < nb
    · obtain ⟨b, cap, l0, l1, l2, l3, he, hbb, x0, x1, x2, x3, x4, hbear⟩ := (HEb.out.same (fun k hk => HB0.out.block k (HS.out k hk).2) (fun _ => id)).get hlt
      obtain ⟨rfl, rfl⟩ : ab = some ⟨b, 0, none⟩ ∧ cb = cap := by simpa using he
      have HST := hide (fun w' hb => stillB_true (.agg #[l0, l1, l2, l3, .int .i64 k]) k w' (hbear.stillB.later hb) (by omega))
      clear hbear he
      go_wp2_with fail
      refine (HST.out _ (Below.refl _ _)).mono ?_
      rintro e w1 ⟨rfl, b1⟩
      have HB1 := hide (HB0.out.trans (b1.mono hz0))
      clear b1 x0 x1 x2 x3 x4 d1
      go_wp2
      go_roundw
      case rel => exact ⟨k + 1, rfl, by go_num, by omega, HB1.out⟩
      case measure => simp [intOf]; omega
    · have c1 : wr.cell? ⟨W, 2, none⟩ = some (.slice ai ni ci) := (HB0.out.cell (p := ⟨W, 2, none⟩) hwlt).trans (HW.out.cell 2)
      obtain ⟨W0, hW0⟩ : ∃ W, W = wr := ⟨_, rfl⟩
      subst hW0
      go_wp2_with fail
      clear d1
      go_loopw [3, 6] (fun ok i wr => ∃ k : Nat, ok = .bool true ∧ i = .int .i64 k ∧ k ≤ ni ∧ Below w.heap.size w wr) (fun _ i _ => ni - (intOf i).toNat)
      case atStart => exact ⟨0, rfl, rfl, Nat.zero_le _, HB0.out⟩
      case round =>
        obtain ⟨k, rfl, rfl, hk, hb⟩ := hrel
        have HB1 := hide hb
        have hz1 := hb.size
        have d1 : wr.cell? ⟨W, 2, none⟩ = some (.slice ai ni ci) := (hb.cell (p := ⟨W, 2, none⟩) hwlt).trans (HW.out.cell 2)
        clear hb c1
        by_cases hlt : k < ni
        · obtain ⟨b, cap, l0, l1, l2, l3, he, hbb, x0, x1, x2, x3, x4, hbear⟩ := (HEi.out.same (fun k hk => HB1.out.block k (HS.out k hk).2) (fun _ => id)).get hlt
          obtain ⟨rfl, rfl⟩ : ai = some ⟨b, 0, none⟩ ∧ ci = cap := by simpa using he
          have HST := hide (fun w' hb => stillI_true (.agg #[l0, l1, l2, l3, .int .i64 k]) k w' (hbear.stillI.later hb) (by omega))
          clear hbear he
          go_wp2_with fail
          refine (HST.out _ (Below.refl _ _)).mono ?_
          rintro e w1 ⟨rfl, b1⟩
          have HB1 := hide (HB1.out.trans (b1.mono hz1))
          clear b1 x0 x1 x2 x3 x4 d1
          go_wp2
          go_roundw
          case rel => exact ⟨k + 1, rfl, by go_num, by omega, HB1.out⟩
          case measure => simp [intOf]; omega
        · have c1 : wr.cell? ⟨W, 3, none⟩ = some (.slice ae ne ce) := (HB1.out.cell (p := ⟨W, 3, none⟩) hwlt).trans (HW.out.cell 3)
          obtain ⟨W1, hW1⟩ : ∃ W, W = wr := ⟨_, rfl⟩
          subst hW1
          go_wp2_with fail
          clear d1
          go_loopw [3, 8] (fun ok i wr => ∃ k : Nat, ok = .bool true ∧ i = .int .i64 k ∧ k ≤ ne ∧ Below w.heap.size w wr) (fun _ i _ => ne - (intOf i).toNat)
          case atStart => exact ⟨0, rfl, rfl, Nat.zero_le _, HB1.out⟩
          case round =>
            obtain ⟨k, rfl, rfl, hk, hb⟩ := hrel
            have HB2 := hide hb
            have hz2 := hb.size
            have d1 : wr.cell? ⟨W, 3, none⟩ = some (.slice ae ne ce) := (hb.cell (p := ⟨W, 3, none⟩) hwlt).trans (HW.out.cell 3)
            clear hb c1
            by_cases hlt : k < ne
            · obtain ⟨b, cap, l0, l1, l2, l3, he, hbb, x0, x1, x2, x3, x4, hbear⟩ := (HEe.out.same (fun k hk => HB2.out.block k (HS.out k hk).2) (fun _ => id)).get hlt
              obtain ⟨rfl, rfl⟩ : ae = some ⟨b, 0, none⟩ ∧ ce = cap := by simpa using he
              have HST := hide (fun w' hb => stillE_true (.agg #[l0, l1, l2, l3, .int .i64 k]) k w' (hbear.stillE.later hb) (by omega))
              clear hbear he
              go_wp2_with fail
              refine (HST.out _ (Below.refl _ _)).mono ?_
              rintro e w1 ⟨rfl, b1⟩
              have HB1 := hide (HB2.out.trans (b1.mono hz2))
              clear b1 x0 x1 x2 x3 x4 d1
              go_wp2
              go_roundw
              case rel => exact ⟨k + 1, rfl, by go_num, by omega, HB1.out⟩
              case measure => simp [intOf]; omega
            · have c1 : wr.cell? ⟨W, 4, none⟩ = some (.slice al nl cl) := (HB2.out.cell (p := ⟨W, 4, none⟩) hwlt).trans (HW.out.cell 4)
              obtain ⟨W2, hW2⟩ : ∃ W, W = wr := ⟨_, rfl⟩
              subst hW2
              go_wp2_with fail
              clear d1
              go_loopw [3, 10] (fun ok i wr => ∃ k : Nat, ok = .bool true ∧ i = .int .i64 k ∧ k ≤ nl ∧ Below w.heap.size w wr) (fun _ i _ => nl - (intOf i).toNat)
              case atStart => exact ⟨0, rfl, rfl, Nat.zero_le _, HB2.out⟩
              case round =>
                obtain ⟨k, rfl, rfl, hk, hb⟩ := hrel
                have HB3 := hide hb
                have hz3 := hb.size
                have d1 : wr.cell? ⟨W, 4, none⟩ = some (.slice al nl cl) := (hb.cell (p := ⟨W, 4, none⟩) hwlt).trans (HW.out.cell 4)
                clear hb c1
                by_cases hlt : k < nl
                · obtain ⟨b, cap, l0, l1, l2, l3, he, hbb, x0, x1, x2, x3, x4, hbear⟩ := (HEl.out.same (fun k hk => HB3.out.block k (HS.out k hk).2) (fun _ => id)).get hlt
                  obtain ⟨rfl, rfl⟩ : al = some ⟨b, 0, none⟩ ∧ cl = cap := by simpa using he
                  have HST := hide (fun w' hb => stillL_true (.agg #[l0, l1, l2, l3, .int .i64 k]) k w' (hbear.stillL.later hb) (by omega))
                  clear hbear he
                  go_wp2_with fail
                  refine (HST.out _ (Below.refl _ _)).mono ?_
                  rintro e w1 ⟨rfl, b1⟩
                  have HB1 := hide (HB3.out.trans (b1.mono hz3))
                  clear b1 x0 x1 x2 x3 x4 d1
                  go_wp2
                  go_roundw
                  case rel => exact ⟨k + 1, rfl, by go_num, by omega, HB1.out⟩
                  case measure => simp [intOf]; omega
                · have c1 : wr.cell? ⟨W, 5, none⟩ = some (.slice a' nt c') := (HB3.out.cell (p := ⟨W, 5, none⟩) hwlt).trans (HW.out.cell 5)
                  obtain ⟨W3, hW3⟩ : ∃ W, W = wr := ⟨_, rfl⟩
                  subst hW3
                  go_wp2_with fail
                  clear d1
                  go_loopw [3, 12] (fun ok i wr => ∃ k : Nat, ok = .bool true ∧ i = .int .i64 k ∧ k ≤ nt ∧ Below w.heap.size w wr) (fun _ i _ => nt - (intOf i).toNat)
                  case atStart => exact ⟨0, rfl, rfl, Nat.zero_le _, HB3.out⟩
                  case round =>
                    obtain ⟨k, rfl, rfl, hk, hb⟩ := hrel
                    have HB4 := hide hb
                    have hz4 := hb.size
                    have d1 : wr.cell? ⟨W, 5, none⟩ = some (.slice a' nt c') := (hb.cell (p := ⟨W, 5, none⟩) hwlt).trans (HW.out.cell 5)
                    clear hb c1
                    by_cases hlt : k < nt
                    · obtain ⟨b, cap, l0, l1, l2, l3, he, hbb, x0, x1, x2, x3, x4, hbear⟩ := (HEt.out.same (fun k hk => HB4.out.block k (HS.out k hk).2) (fun _ => id)).get hlt
                      obtain ⟨rfl, rfl⟩ : a' = some ⟨b, 0, none⟩ ∧ c' = cap := by simpa using he
                      have HST := hide (fun w' hb => stillT_true (.agg #[l0, l1, l2, l3, .int .i64 k]) k w' (hbear.stillT.later hb) (by omega))
                      clear hbear he
                      go_wp2_with fail
                      refine (HST.out _ (Below.refl _ _)).mono ?_
                      rintro e w1 ⟨rfl, b1⟩
                      have HB1 := hide (HB4.out.trans (b1.mono hz4))
                      clear b1 x0 x1 x2 x3 x4 d1
                      go_wp2
                      go_roundw
                      case rel => exact ⟨k + 1, rfl, by go_num, by omega, HB1.out⟩
                      case measure => simp [intOf]; omega
                    · go_wp2
                      go_ret
                      exact ⟨rfl, HB4.out⟩

end Go.Proofs.YthloffgebebijaaGreat

/- StepB: what stands behind the steps of a script: the book holds what came out. -/
namespace Go.Proofs.YthloffgebebijaaGreat
open Go.RowKit

/-- Behind n steps: the book holds what came out. -/
def StB (B : Nat) (w : World) (n : Nat) : Prop := ∃ S nb ni ne nl nt, BookAt w S B B (.slice none 0 0) nb ni ne nl nt ∧ nb ≤ n ∧ ni ≤ 2 * n ∧ ne ≤ n ∧ nl ≤ 12 * n ∧ nt ≤ 2 * n

theorem StB.init (w : World) : StB w.heap.size (w.alloc (.cells #[.slice none 0 0, .slice none 0 0, .slice none 0 0, .slice none 0 0, .slice none 0 0, .slice none 0 0] 36)) 0 :=
  ⟨fun k => k = w.heap.size, 0, 0, 0, 0, 0, ⟨fun k hk => ⟨by omega, by simp; omega⟩, rfl, _, _, _, _, _, Blk.new _ _ _, Ents.nil _ _ _ _ _ _ _, Ents.nil _ _ _ _ _ _ _, Ents.nil _ _ _ _ _ _ _, Ents.nil _ _ _ _ _ _ _, Ents.nil _ _ _ _ _ _ _⟩, by omega, by omega, by omega, by omega, by omega⟩
theorem StB.later (B : Nat) (w w' : World) (n : Nat) (h : StB B w n) (hb : Below w.heap.size w w') : StB B w' n := by
  obtain ⟨S, nb, ni, ne, nl, nt, hk, r⟩ := h
  exact ⟨S, nb, ni, ne, nl, nt, hk.later hb, r⟩
theorem StB.looks (B : Nat) (w : World) (n : Nat) (h : StB B w n) (hn : n ≤ 2000001) : Calls Tryz.prog 10 #[.pointer (some ⟨B, 1, none⟩)] w fun e w' => e = .returned (.bool true) ∧ Below w.heap.size w w' := by
  obtain ⟨S, nb, ni, ne, nl, nt, hk, r⟩ := h
  exact looks_true S B B _ nb ni ne nl nt w hk (by omega) (by omega) (by omega) (by omega) (by omega)

end Go.Proofs.YthloffgebebijaaGreat
