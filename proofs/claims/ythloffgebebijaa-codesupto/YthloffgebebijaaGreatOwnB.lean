/- OwnB: the walk of tillerlaw.ownBytes: all that it begins bears the mark. -/
import Derived.Test.YthloffgebebijaaGreatMark
import Derived.Test.YthloffgebebijaaGreatBookA
import Derived.Test.YthloffgebebijaaGreatBytesA
namespace Go.Proofs.YthloffgebebijaaGreat
open Go.RowKit

theorem fill_B {cur : Array Value} {cap k m : Nat} (hs : cur.size = cap * 1) (hk : k < cap) (h : ∀ j, j < k * 1 → cur[j]? = (markB m)[j % 1]?) :
    ∀ j, j < (k + 1) * 1 → (cur.setIfInBounds (k) (.int .u8 ((m : Int) % 251)))[j]? = (markB m)[j % 1]? := by
  intro j hj
  simp only [Array.getElem?_setIfInBounds]
  by_cases h0 : j < k * 1
  · rw [if_neg (by omega)]
    exact h j h0
  · obtain rfl : j = k := by omega
    rw [if_pos rfl, if_pos (by omega)]
    simp [markB, Nat.mod_one]

set_option maxRecDepth 100000 in
set_option maxHeartbeats 1600000 in
theorem ownBytes_any (v : Value) (n m : Nat) (xs : List Value) (w : World) (h : w.ownsRow 0 5 1 v n xs) (hn : n ≤ 1000000) (hm : m ≤ 1000000000) :
    Calls Tryz.prog 56 #[v, .int .i64 m] w fun e w' => ∃ r, e = .returned r ∧ Bears w' (fun k => some k = v.ownBlock ∨ w.heap.size ≤ k) 5 1 (markB m) r m ∧ w.grownBy w' v.ownBlock := by
  obtain ⟨i0, hi, hz0, hzs, hzb⟩ := info_parts info_u8
  have HI := hide (And.intro hi (And.intro hz0 (And.intro hzs hzb))); clear hi hz0 hzs hzb
  have hown := World.ownsRow.lt h
  have HF := hide (Fill.of_owns (cs := markB m) h)
  obtain ⟨a, cap, hv⟩ : ∃ a cap, v = .slice a n cap := by
    rcases h.2 with ⟨rfl, rfl⟩ | ⟨g, cap, cur, rfl, _⟩
    · exact ⟨_, _, rfl⟩
    · exact ⟨_, _, rfl⟩
  subst hv
  have HLT : Hid (∀ k, (Value.slice a n cap).ownBlock = some k → k < w.heap.size) := fun k hk => (hown k hk).2
  have HN0 : Hid (∀ k, w.heap.size ≤ k → (Value.slice a n cap).ownBlock ≠ some k) := fun k hk e => by have := HLT.out k e; omega
  clear h hown
  have HONE : Hid (∀ u ∈ markB m, u.oneCell' = true) := by simp [Hid, markB, Value.oneCell']
  go_enter Tryz.func56, Tryz.ntmps56
  go_wp2_with fail
  go_loopw [6] (fun i wr => ∃ k : Nat, i = .int .i64 k ∧ k ≤ n ∧ Fill wr 5 1 (markB m) (.slice a n cap) n k ∧ w.grownBy wr (Value.slice a n cap).ownBlock ∧ Blk wr w.heap.size #[.slice none 0 0, .slice none 0 0, .slice none 0 0, .slice none 0 0, .int .i64 0] 59) (fun i _ => n - (intOf i).toNat)
  case atStart =>
    have hb : w.grownBy (w.alloc (.cells #[.slice none 0 0, .slice none 0 0, .slice none 0 0, .slice none 0 0, .int .i64 0] 59)) none := grownBy_below ((Below.refl _ _).alloc (Nat.le_refl _) _) _
    exact ⟨0, rfl, Nat.zero_le _, HF.out.kept hb (by cases (Value.slice a n cap).ownBlock <;> simp), ⟨hb.os, hb.tape, hb.output, hb.size, fun k hk _ => hb.block k hk (by simp)⟩, Blk.new _ _ _⟩
  case round =>
    obtain ⟨k, rfl, hk, hf, hg, hR⟩ := hrel
    have hz1 := hR.lt
    have HR := hide hR
    have HG := hide hg
    have HFI := hide hf
    clear hR hg hf
    by_cases hlt : k < n
    · rcases HFI.out with ⟨_, h0⟩ | ⟨g, cap2, cur, he, hb, hnc, hcm, hcs, hmk⟩
      · omega
      obtain ⟨rfl, rfl⟩ : a = some ⟨g, 0, none⟩ ∧ cap = cap2 := by simpa using he
      have hgs := HLT.out g rfl
      have HB := hide hb
      have HMK := hide hmk
      have HCS := hide hcs
      obtain ⟨y0, f0⟩ : ∃ y, wr.cell? ⟨g, k, none⟩ = some y := by rw [hb.cell]; exact ⟨_, Array.getElem?_eq_getElem (by omega)⟩
      have g0 : wr.frozen? ⟨g, k, none⟩ = false := hb.free _
      clear hb hmk hcs he
      go_wp2
      go_roundw
      case rel =>
        refine ⟨k + 1, by go_num, by omega, .inr ⟨g, cap, _, rfl, HB.out.set _ _, hnc, hcm, by simp [HCS.out], fill_B HCS.out (by omega) HMK.out⟩, ?_, ?_⟩
        · exact (grownBy_trans HG.out (grownBy_set _ _ _ _) (.inr (.inl rfl)))
        · exact (HR.out.other (by simp; omega) _)
      case measure => simp [intOf]; omega
    · obtain rfl : k = n := by omega
      have HM := hide (HFI.out.mk rfl)
      clear HFI hlt
      go_wp2_with (at_builtin; go_must (refine wpList_mark _ rfl _ _ 57 rfl 5 i0 (.int .u8 0) 1 1 Tryz.underlying57 HI.out.1 HI.out.2.1 HI.out.2.2.1 HI.out.2.2.2 rfl (by decide) (markB m) rfl HONE.out _ (k) rfl (HM.out.alloc _) _ 1 _ (by decide) rfl (new_cells _ _ _ _ (by simp)) ?_ ?_ ?_))
      · unfold maxLen; omega
      · omega
      intro v1 w1 m1 g1 a1 p1
      have HM1 := hide m1
      have HA1 := hide (Away.next (B := w.heap.size + 1) (r := (Value.slice a k cap).ownBlock) (.inl rfl) a1 (by first | omega | (simp; omega)))
      have HG1 := hide (grownBy_trans (grownBy_trans HG.out (World.grownBy_alloc _ _ none) (.inl rfl)) g1 (.inr (.inl rfl)))
      have HR1 := hide ((HR.out.alloc _).grownRow g1 (HN0.out _ (Nat.le_refl _)))
      have HM0 := hide (p1 _ _ (HM.out.alloc _))
      clear m1 g1 a1 p1 HM HR HG 
      have hz2 := HR1.out.lt
      go_wp2_with (at_builtin; go_must (refine wpList_mark _ rfl _ _ 57 rfl 5 i0 (.int .u8 0) 1 1 Tryz.underlying57 HI.out.1 HI.out.2.1 HI.out.2.2.1 HI.out.2.2.2 rfl (by decide) (markB m) rfl HONE.out _ (k) rfl (HM0.out.alloc _) _ 2 _ (by decide) rfl (new_cells _ _ _ _ (by simp)) ?_ ?_ ?_))
      · unfold maxLen; omega
      · omega
      intro v2 w2 m2 g2 a2 p2
      have HM2 := hide m2
      have HA2 := hide (Away.next (B := w.heap.size + 1) (r := (Value.slice a k cap).ownBlock) (.inl rfl) a2 (by first | omega | (simp; omega)))
      have HG2 := hide (grownBy_trans (grownBy_trans HG1.out (World.grownBy_alloc _ _ none) (.inl rfl)) g2 (.inr (.inl rfl)))
      have HR2 := hide ((HR1.out.alloc _).grownRow g2 (HN0.out _ (Nat.le_refl _)))
      have HM02 := hide (p2 _ _ (HM0.out.alloc _))
      have HM12 := hide (p2 _ _ (HM1.out.alloc _))
      clear m2 g2 a2 p2 HM0 HM1 HR1 HG1 
      obtain ⟨q1, c1, hv1⟩ := HM12.out.slice
      obtain ⟨q2, c2, hv2⟩ := HM2.out.slice
      subst hv1
      subst hv2
      go_wp2_with fail
      go_loopw [9, 10] (fun v3 i wr => ∃ j : Nat, i = .int .i64 j ∧ j ≤ 64 ∧ Mk wr 5 1 (markB m) v3 (k + j) ∧ Away v3 (Value.slice a k cap).ownBlock (w.heap.size + 1) ∧ Mk wr 5 1 (markB m) (.slice a k cap) k ∧ Mk wr 5 1 (markB m) (.slice q1 (k + 1) c1) (k + 1) ∧ Mk wr 5 1 (markB m) (.slice q2 (k + 2) c2) (k + 2) ∧ w.grownBy wr (Value.slice a k cap).ownBlock ∧ Blk wr w.heap.size #[.slice none 0 0, .slice none 0 0, .slice none 0 0, .slice none 0 0, .int .i64 0] 59) (fun _ i _ => 64 - (intOf i).toNat)
      case atStart => exact ⟨0, rfl, by omega, HM02.out, .inl rfl, HM02.out, HM12.out, HM2.out, HG2.out, HR2.out⟩
      case round =>
        obtain ⟨j, rfl, hj, h3, hA3, h0, h1, h2, hg, hR⟩ := hrel
        have hz3 := hR.lt
        have H3 := hide h3; have HA3 := hide hA3; have H0 := hide h0; have H1 := hide h1; have H2 := hide h2; have HG := hide hg; have HR := hide hR
        clear h3 hA3 h0 h1 h2 hg hR  HM02 HM12 HM2 HG2 HR2 
        by_cases hlt : j < 64
        · go_wp2_with (at_builtin; go_must (refine wpList_mark _ rfl _ _ 57 rfl 5 i0 (.int .u8 0) 1 1 Tryz.underlying57 HI.out.1 HI.out.2.1 HI.out.2.2.1 HI.out.2.2.2 rfl (by decide) (markB m) rfl HONE.out _ (k + j) rfl (H3.out.alloc _) _ 1 _ (by decide) rfl (new_cells _ _ _ _ (by simp)) ?_ ?_ ?_))
          · unfold maxLen; omega
          · omega
          intro v4 w4 m4 g4 a4 p4
          have hne : ∀ b, w.heap.size ≤ b → b < w.heap.size + 1 → _root_.Ne (Value.ownBlock _) (some b) := fun b hb1 hb2 => HA3.out.ne (HN0.out b hb1) hb2
          have HM4 := hide m4
          have HA4 := hide (Away.next HA3.out a4 (by first | omega | (simp; omega)))
          have HG4 := hide (Away.frame (grownBy_trans HG.out (World.grownBy_alloc _ _ none) (.inl rfl)) g4 HA3.out (by omega))
          have HR4 := hide ((HR.out.alloc _).grownRow g4 (hne _ (Nat.le_refl _) (by omega)))
          have HP4 := hide p4
          clear m4 g4 a4 p4 hne
          go_wp2
          go_roundw
          case rel => exact ⟨j + 1, by go_num, by omega, HM4.out, HA4.out, HP4.out _ _ (H0.out.alloc _), HP4.out _ _ (H1.out.alloc _), HP4.out _ _ (H2.out.alloc _), HG4.out, HR4.out⟩
          case measure => simp [intOf]; omega
        · obtain rfl : j = 64 := by omega
          obtain ⟨q3, c3, hv3⟩ := H3.out.slice
          subst hv3
          have r0 : wr.cell? ⟨w.heap.size, 0, none⟩ = some (.slice none 0 0) := HR.out.cell 0
          have s0 := HR.out.free 0
          have r1 : wr.cell? ⟨w.heap.size, 1, none⟩ = some (.slice none 0 0) := HR.out.cell 1
          have s1 := HR.out.free 1
          have r2 : wr.cell? ⟨w.heap.size, 2, none⟩ = some (.slice none 0 0) := HR.out.cell 2
          have s2 := HR.out.free 2
          have r3 : wr.cell? ⟨w.heap.size, 3, none⟩ = some (.slice none 0 0) := HR.out.cell 3
          have s3 := HR.out.free 3
          have r4 : wr.cell? ⟨w.heap.size, 4, none⟩ = some (.int .i64 0) := HR.out.cell 4
          have s4 := HR.out.free 4
          repeat (first | go_values | go_skip | go_guarded | go_step | go_upon)
          have HF := (((((HR.out.set 0 (.slice a k cap)).set 1 (.slice q1 (k + 1) c1)).set 2 (.slice q2 (k + 2) c2)).set 3 (.slice q3 (k + 64) c3)).set 4 (.int .i64 m))
          have HF0 := HF.cell 0
          have HF1 := HF.cell 1
          have HF2 := HF.cell 2
          have HF3 := HF.cell 3
          have HF4 := HF.cell 4
          simp at HF0 HF1 HF2 HF3 HF4
          have HK : wr.grownBy (((((wr.setCell ⟨w.heap.size, 0, none⟩ (.slice a k cap)).setCell ⟨w.heap.size, 1, none⟩ (.slice q1 (k + 1) c1)).setCell ⟨w.heap.size, 2, none⟩ (.slice q2 (k + 2) c2)).setCell ⟨w.heap.size, 3, none⟩ (.slice q3 (k + 64) c3)).setCell ⟨w.heap.size, 4, none⟩ (.int .i64 m)) (some w.heap.size) := (grownBy_trans (grownBy_trans (grownBy_trans (grownBy_trans (grownBy_trans (grownBy_refl wr (some w.heap.size)) (grownBy_set _ _ _ _) (.inr (.inl rfl))) (grownBy_set _ _ _ _) (.inr (.inl rfl))) (grownBy_set _ _ _ _) (.inr (.inl rfl))) (grownBy_set _ _ _ _) (.inr (.inl rfl))) (grownBy_set _ _ _ _) (.inr (.inl rfl)))
          have e0 := (H0.out.kept HK (.inr (HN0.out _ (Nat.le_refl _))))
          have e1 := (H1.out.kept HK (.inr (HA1.out.ne (HN0.out _ (Nat.le_refl _)) (by omega))))
          have e2 := (H2.out.kept HK (.inr (HA2.out.ne (HN0.out _ (Nat.le_refl _)) (by omega))))
          have e3 := (H3.out.kept HK (.inr (HA3.out.ne (HN0.out _ (Nat.le_refl _)) (by omega))))
          have hS : ∀ q, ((Value.slice a k cap).ownBlock = some q ∨ (Value.slice q1 (k + 1) c1).ownBlock = some q ∨ (Value.slice q2 (k + 2) c2).ownBlock = some q ∨ (Value.slice q3 (k + 64) c3).ownBlock = some q) → (some q = (Value.slice a k cap).ownBlock ∨ w.heap.size ≤ q) := by
            rintro q (h | h | h | h)
            · exact .inl h.symm
            · rcases HA1.out with h' | ⟨g, h', hg⟩
              · exact .inl (h.symm.trans h')
              · rw [h'] at h; simp only [Option.some.injEq] at h; exact .inr (by omega)
            · rcases HA2.out with h' | ⟨g, h', hg⟩
              · exact .inl (h.symm.trans h')
              · rw [h'] at h; simp only [Option.some.injEq] at h; exact .inr (by omega)
            · rcases HA3.out with h' | ⟨g, h', hg⟩
              · exact .inl (h.symm.trans h')
              · rw [h'] at h; simp only [Option.some.injEq] at h; exact .inr (by omega)
          exact bodyPost_ret (v := .agg #[.slice a k cap, .slice q1 (k + 1) c1, .slice q2 (k + 2) c2, .slice q3 (k + 64) c3, .int .i64 m]) (by simp [results, Tryz.results56, go_sem, HF0, HF1, HF2, HF3, HF4]) rfl ⟨_, rfl, ⟨_, _, _, _, _, _, _, _, rfl, ⟨e0, e1, e2, e3⟩, ⟨by omega, by omega, by omega, by omega⟩, hS⟩, grownBy_trans HG.out HK (.inr (.inr ⟨_, rfl, Nat.le_refl _⟩))⟩

end Go.Proofs.YthloffgebebijaaGreat
