/- OwnE: the walk of tillerlaw.ownEvents: all that it begins bears the mark. -/
import Derived.Test.YthloffgebebijaaGreatMark
import Derived.Test.YthloffgebebijaaGreatBookK
import Derived.Deep.RegionLaw
import Derived.Deep.DeepMust
namespace Go.Proofs.YthloffgebebijaaGreat
open Go.RowKit

theorem fill_E {cur : Array Value} {cap k m : Nat} (hs : cur.size = cap * 5) (hk : k < cap) (h : ∀ j, j < k * 5 → cur[j]? = (markE m)[j % 5]?) :
    ∀ j, j < (k + 1) * 5 → (((((cur.setIfInBounds (k * 5) (.int .i64 (-1000 - (m : Int)))).setIfInBounds (k * 5 + 1) (.int .i64 0)).setIfInBounds (k * 5 + 2) (.int .i64 0)).setIfInBounds (k * 5 + 3) (.int .i64 0)).setIfInBounds (k * 5 + 4) (.int .i64 0))[j]? = (markE m)[j % 5]? := by
  intro j hj
  simp only [Array.getElem?_setIfInBounds]
  by_cases h0 : j < k * 5
  · rw [if_neg (by omega), if_neg (by omega), if_neg (by omega), if_neg (by omega), if_neg (by omega)]
    exact h j h0
  · obtain ⟨q, hq, rfl⟩ : ∃ q, q < 5 ∧ j = k * 5 + q := ⟨j - k * 5, by omega, by omega⟩
    have hm : (k * 5 + q) % 5 = q := by rw [Nat.mul_comm, Nat.mul_add_mod, Nat.mod_eq_of_lt hq]
    rw [hm]
    match q, hq with
    | 0, _ => simp [markE]; omega
    | 1, _ => simp [markE]; omega
    | 2, _ => simp [markE]; omega
    | 3, _ => simp [markE]; omega
    | 4, _ => simp [markE]; omega

set_option maxRecDepth 100000 in
set_option maxHeartbeats 1600000 in
theorem ownEvents_any (v : Value) (n m : Nat) (xs : List Value) (w : World) (h : w.ownsRow 0 149 5 v n xs) (hn : n ≤ 1000000) (hm : m ≤ 1300000000000) :
    Calls Tryz.prog 74 #[v, .int .i64 m] w fun e w' => ∃ r, e = .returned r ∧ Bears w' (fun k => some k = v.ownBlock ∨ w.heap.size ≤ k) 149 5 (markE m) r m ∧ w.grownBy w' v.ownBlock := by
  obtain ⟨i0, hi, hz0, hzs, hzb⟩ := info_parts info_event
  have HI := hide (And.intro hi (And.intro hz0 (And.intro hzs hzb))); clear hi hz0 hzs hzb
  have hown := World.ownsRow.lt h
  have HF := hide (Fill.of_owns (cs := markE m) h)
  obtain ⟨a, cap, hv⟩ : ∃ a cap, v = .slice a n cap := by
    rcases h.2 with ⟨rfl, rfl⟩ | ⟨g, cap, cur, rfl, _⟩
    · exact ⟨_, _, rfl⟩
    · exact ⟨_, _, rfl⟩
  subst hv
  have HLT : Hid (∀ k, (Value.slice a n cap).ownBlock = some k → k < w.heap.size) := fun k hk => (hown k hk).2
  have HN0 : Hid (∀ k, w.heap.size ≤ k → (Value.slice a n cap).ownBlock ≠ some k) := fun k hk e => by have := HLT.out k e; omega
  clear h hown
  have HONE : Hid (∀ u ∈ markE m, u.oneCell' = true) := by simp [Hid, markE, Value.oneCell']
  go_enter Tryz.func74, Tryz.ntmps74
  go_wp2_with fail
  go_loopw [6] (fun i wr => ∃ k : Nat, i = .int .i64 k ∧ k ≤ n ∧ Fill wr 149 5 (markE m) (.slice a n cap) n k ∧ w.grownBy wr (Value.slice a n cap).ownBlock ∧ Blk wr w.heap.size #[.slice none 0 0, .slice none 0 0, .slice none 0 0, .slice none 0 0, .int .i64 0] 64 ∧ Blk wr (w.heap.size + 1) #[.int .i64 (-1000 - (m : Int)), .int .i64 0, .int .i64 0, .int .i64 0, .int .i64 0] 149) (fun i _ => n - (intOf i).toNat)
  case atStart =>
    have hb : w.grownBy ((w.alloc (.cells #[.slice none 0 0, .slice none 0 0, .slice none 0 0, .slice none 0 0, .int .i64 0] 64)).alloc (.cells #[.int .i64 (-1000 - (m : Int)), .int .i64 0, .int .i64 0, .int .i64 0, .int .i64 0] 149)) none := grownBy_below (((Below.refl _ _).alloc (Nat.le_refl _) _).alloc (by simp) _) _
    refine ⟨0, rfl, Nat.zero_le _, HF.out.kept hb (by cases (Value.slice a n cap).ownBlock <;> simp), ⟨hb.os, hb.tape, hb.output, hb.size, fun k hk _ => hb.block k hk (by simp)⟩, (Blk.new _ _ _).alloc _, ?_⟩
    have := Blk.new (w.alloc (.cells #[.slice none 0 0, .slice none 0 0, .slice none 0 0, .slice none 0 0, .int .i64 0] 64)) #[.int .i64 (-1000 - (m : Int)), .int .i64 0, .int .i64 0, .int .i64 0, .int .i64 0] 149
    simpa using this
  case round =>
    obtain ⟨k, rfl, hk, hf, hg, hR, hX⟩ := hrel
    have x0 : wr.cell? ⟨w.heap.size + 1, 0, none⟩ = some (.int .i64 (-1000 - (m : Int))) := hX.cell 0
    have x1 : wr.cell? ⟨w.heap.size + 1, 1, none⟩ = some (.int .i64 0) := hX.cell 1
    have x2 : wr.cell? ⟨w.heap.size + 1, 2, none⟩ = some (.int .i64 0) := hX.cell 2
    have x3 : wr.cell? ⟨w.heap.size + 1, 3, none⟩ = some (.int .i64 0) := hX.cell 3
    have x4 : wr.cell? ⟨w.heap.size + 1, 4, none⟩ = some (.int .i64 0) := hX.cell 4
    have hz1 := hX.lt
    have HR := hide hR
    have HX := hide hX
    have HG := hide hg
    have HFI := hide hf
    clear hR hX hg hf
    by_cases hlt : k < n
    · rcases HFI.out with ⟨_, h0⟩ | ⟨g, cap2, cur, he, hb, hnc, hcm, hcs, hmk⟩
      · omega
      obtain ⟨rfl, rfl⟩ : a = some ⟨g, 0, none⟩ ∧ cap = cap2 := by simpa using he
      have hgs := HLT.out g rfl
      have HB := hide hb
      have HMK := hide hmk
      have HCS := hide hcs
      obtain ⟨y0, f0⟩ : ∃ y, wr.cell? ⟨g, k * 5, none⟩ = some y := by rw [hb.cell]; exact ⟨_, Array.getElem?_eq_getElem (by omega)⟩
      have g0 : wr.frozen? ⟨g, k * 5, none⟩ = false := hb.free _
      obtain ⟨y1, f1⟩ : ∃ y, wr.cell? ⟨g, k * 5 + 1, none⟩ = some y := by rw [hb.cell]; exact ⟨_, Array.getElem?_eq_getElem (by omega)⟩
      have g1 : wr.frozen? ⟨g, k * 5 + 1, none⟩ = false := hb.free _
      obtain ⟨y2, f2⟩ : ∃ y, wr.cell? ⟨g, k * 5 + 2, none⟩ = some y := by rw [hb.cell]; exact ⟨_, Array.getElem?_eq_getElem (by omega)⟩
      have g2 : wr.frozen? ⟨g, k * 5 + 2, none⟩ = false := hb.free _
      obtain ⟨y3, f3⟩ : ∃ y, wr.cell? ⟨g, k * 5 + 3, none⟩ = some y := by rw [hb.cell]; exact ⟨_, Array.getElem?_eq_getElem (by omega)⟩
      have g3 : wr.frozen? ⟨g, k * 5 + 3, none⟩ = false := hb.free _
      obtain ⟨y4, f4⟩ : ∃ y, wr.cell? ⟨g, k * 5 + 4, none⟩ = some y := by rw [hb.cell]; exact ⟨_, Array.getElem?_eq_getElem (by omega)⟩
      have g4 : wr.frozen? ⟨g, k * 5 + 4, none⟩ = false := hb.free _
      clear hb hmk hcs he
      go_wp2
      go_roundw
      case rel =>
        refine ⟨k + 1, by go_num, by omega, .inr ⟨g, cap, _, rfl, ((((HB.out.set _ _).set _ _).set _ _).set _ _).set _ _, hnc, hcm, by simp [HCS.out], fill_E HCS.out (by omega) HMK.out⟩, ?_, ?_, ?_⟩
        · exact (grownBy_trans (grownBy_trans (grownBy_trans (grownBy_trans (grownBy_trans HG.out (grownBy_set _ _ _ _) (.inr (.inl rfl))) (grownBy_set _ _ _ _) (.inr (.inl rfl))) (grownBy_set _ _ _ _) (.inr (.inl rfl))) (grownBy_set _ _ _ _) (.inr (.inl rfl))) (grownBy_set _ _ _ _) (.inr (.inl rfl)))
        · exact (((((HR.out.other (by simp; omega) _).other (by simp; omega) _).other (by simp; omega) _).other (by simp; omega) _).other (by simp; omega) _)
        · exact (((((HX.out.other (by simp; omega) _).other (by simp; omega) _).other (by simp; omega) _).other (by simp; omega) _).other (by simp; omega) _)
      case measure => simp [intOf]; omega
    · obtain rfl : k = n := by omega
      have HM := hide (HFI.out.mk rfl)
      clear HFI hlt
      go_wp2_with (at_builtin; go_must (refine wpList_mark _ rfl _ _ 62 rfl 149 i0 (.agg #[.int .i64 0, .int .i64 0, .int .i64 0, .int .i64 0, .int .i64 0]) 5 40 Tryz.underlying62 HI.out.1 HI.out.2.1 HI.out.2.2.1 HI.out.2.2.2 rfl (by decide) (markE m) rfl HONE.out _ (k) rfl (HM.out.alloc _) _ 1 _ (by decide) rfl (new_cells _ _ _ _ (by simp)) ?_ ?_ ?_))
      · unfold maxLen; omega
      · omega
      intro v1 w1 m1 g1 a1 p1
      have HM1 := hide m1
      have HA1 := hide (Away.next (B := w.heap.size + 2) (r := (Value.slice a k cap).ownBlock) (.inl rfl) a1 (by first | omega | (simp; omega)))
      have HG1 := hide (grownBy_trans (grownBy_trans HG.out (World.grownBy_alloc _ _ none) (.inl rfl)) g1 (.inr (.inl rfl)))
      have HR1 := hide ((HR.out.alloc _).grownRow g1 (HN0.out _ (Nat.le_refl _)))
      have HX1 := hide ((HX.out.alloc _).grownRow g1 (HN0.out _ (by omega)))
      have HM0 := hide (p1 _ _ (HM.out.alloc _))
      clear m1 g1 a1 p1 HM HR HG HX
      clear x0
      clear x1
      clear x2
      clear x3
      clear x4
      have x0 : w1.cell? ⟨w.heap.size + 1, 0, none⟩ = some (.int .i64 (-1000 - (m : Int))) := HX1.out.cell 0
      have x1 : w1.cell? ⟨w.heap.size + 1, 1, none⟩ = some (.int .i64 0) := HX1.out.cell 1
      have x2 : w1.cell? ⟨w.heap.size + 1, 2, none⟩ = some (.int .i64 0) := HX1.out.cell 2
      have x3 : w1.cell? ⟨w.heap.size + 1, 3, none⟩ = some (.int .i64 0) := HX1.out.cell 3
      have x4 : w1.cell? ⟨w.heap.size + 1, 4, none⟩ = some (.int .i64 0) := HX1.out.cell 4
      have hz2 := HX1.out.lt
      go_wp2_with (at_builtin; go_must (refine wpList_mark _ rfl _ _ 62 rfl 149 i0 (.agg #[.int .i64 0, .int .i64 0, .int .i64 0, .int .i64 0, .int .i64 0]) 5 40 Tryz.underlying62 HI.out.1 HI.out.2.1 HI.out.2.2.1 HI.out.2.2.2 rfl (by decide) (markE m) rfl HONE.out _ (k) rfl (HM0.out.alloc _) _ 2 _ (by decide) rfl (new_cells _ _ _ _ (by simp)) ?_ ?_ ?_))
      · unfold maxLen; omega
      · omega
      intro v2 w2 m2 g2 a2 p2
      have HM2 := hide m2
      have HA2 := hide (Away.next (B := w.heap.size + 2) (r := (Value.slice a k cap).ownBlock) (.inl rfl) a2 (by first | omega | (simp; omega)))
      have HG2 := hide (grownBy_trans (grownBy_trans HG1.out (World.grownBy_alloc _ _ none) (.inl rfl)) g2 (.inr (.inl rfl)))
      have HR2 := hide ((HR1.out.alloc _).grownRow g2 (HN0.out _ (Nat.le_refl _)))
      have HX2 := hide ((HX1.out.alloc _).grownRow g2 (HN0.out _ (by omega)))
      have HM02 := hide (p2 _ _ (HM0.out.alloc _))
      have HM12 := hide (p2 _ _ (HM1.out.alloc _))
      clear m2 g2 a2 p2 HM0 HM1 HR1 HG1 HX1
      clear x0
      clear x1
      clear x2
      clear x3
      clear x4
      obtain ⟨q1, c1, hv1⟩ := HM12.out.slice
      obtain ⟨q2, c2, hv2⟩ := HM2.out.slice
      subst hv1
      subst hv2
      go_wp2_with fail
      go_loopw [9, 10] (fun v3 i wr => ∃ j : Nat, i = .int .i64 j ∧ j ≤ 64 ∧ Mk wr 149 5 (markE m) v3 (k + j) ∧ Away v3 (Value.slice a k cap).ownBlock (w.heap.size + 2) ∧ Mk wr 149 5 (markE m) (.slice a k cap) k ∧ Mk wr 149 5 (markE m) (.slice q1 (k + 1) c1) (k + 1) ∧ Mk wr 149 5 (markE m) (.slice q2 (k + 2) c2) (k + 2) ∧ w.grownBy wr (Value.slice a k cap).ownBlock ∧ Blk wr w.heap.size #[.slice none 0 0, .slice none 0 0, .slice none 0 0, .slice none 0 0, .int .i64 0] 64 ∧ Blk wr (w.heap.size + 1) #[.int .i64 (-1000 - (m : Int)), .int .i64 0, .int .i64 0, .int .i64 0, .int .i64 0] 149) (fun _ i _ => 64 - (intOf i).toNat)
      case atStart => exact ⟨0, rfl, by omega, HM02.out, .inl rfl, HM02.out, HM12.out, HM2.out, HG2.out, HR2.out, HX2.out⟩
      case round =>
        obtain ⟨j, rfl, hj, h3, hA3, h0, h1, h2, hg, hR, hX⟩ := hrel
        have x0 : wr.cell? ⟨w.heap.size + 1, 0, none⟩ = some (.int .i64 (-1000 - (m : Int))) := hX.cell 0
        have x1 : wr.cell? ⟨w.heap.size + 1, 1, none⟩ = some (.int .i64 0) := hX.cell 1
        have x2 : wr.cell? ⟨w.heap.size + 1, 2, none⟩ = some (.int .i64 0) := hX.cell 2
        have x3 : wr.cell? ⟨w.heap.size + 1, 3, none⟩ = some (.int .i64 0) := hX.cell 3
        have x4 : wr.cell? ⟨w.heap.size + 1, 4, none⟩ = some (.int .i64 0) := hX.cell 4
        have hz3 := hX.lt
        have H3 := hide h3; have HA3 := hide hA3; have H0 := hide h0; have H1 := hide h1; have H2 := hide h2; have HG := hide hg; have HR := hide hR
        have HX := hide hX
        clear h3 hA3 h0 h1 h2 hg hR hX HM02 HM12 HM2 HG2 HR2 HX2
        by_cases hlt : j < 64
        · go_wp2_with (at_builtin; go_must (refine wpList_mark _ rfl _ _ 62 rfl 149 i0 (.agg #[.int .i64 0, .int .i64 0, .int .i64 0, .int .i64 0, .int .i64 0]) 5 40 Tryz.underlying62 HI.out.1 HI.out.2.1 HI.out.2.2.1 HI.out.2.2.2 rfl (by decide) (markE m) rfl HONE.out _ (k + j) rfl (H3.out.alloc _) _ 1 _ (by decide) rfl (new_cells _ _ _ _ (by simp)) ?_ ?_ ?_))
          · unfold maxLen; omega
          · omega
          intro v4 w4 m4 g4 a4 p4
          have hne : ∀ b, w.heap.size ≤ b → b < w.heap.size + 2 → _root_.Ne (Value.ownBlock _) (some b) := fun b hb1 hb2 => HA3.out.ne (HN0.out b hb1) hb2
          have HM4 := hide m4
          have HA4 := hide (Away.next HA3.out a4 (by first | omega | (simp; omega)))
          have HG4 := hide (Away.frame (grownBy_trans HG.out (World.grownBy_alloc _ _ none) (.inl rfl)) g4 HA3.out (by omega))
          have HR4 := hide ((HR.out.alloc _).grownRow g4 (hne _ (Nat.le_refl _) (by omega)))
          have HX4 := hide ((HX.out.alloc _).grownRow g4 (hne _ (by omega) (by omega)))
          have HP4 := hide p4
          clear m4 g4 a4 p4 hne
          go_wp2
          go_roundw
          case rel => exact ⟨j + 1, by go_num, by omega, HM4.out, HA4.out, HP4.out _ _ (H0.out.alloc _), HP4.out _ _ (H1.out.alloc _), HP4.out _ _ (H2.out.alloc _), HG4.out, HR4.out, HX4.out⟩
          case measure => simp [intOf]; omega
        · obtain rfl : j = 64 := by omega
          obtain ⟨q3, c3, hv3⟩ := H3.out.slice
          subst hv3
          have r0 : wr.cell? ⟨w.heap.size, 0, none⟩ = some (.slice none 0 0) := HR.out.cell 0
          have s0 := HR.out.free 0
          have r1 : wr.cell? ⟨w.heap.size, 1, none⟩ = some (.slice none 0 0) := HR.out.cell 1
          have s1 := HR.out.free 1
          have r2 : wr.cell? ⟨w.heap.size, 2, none⟩ = some (.slice none 0 0) := HR.out.cell 2
          have s2 := HR.out.free 2
          have r3 : wr.cell? ⟨w.heap.size, 3, none⟩ = some (.slice none 0 0) := HR.out.cell 3
          have s3 := HR.out.free 3
          have r4 : wr.cell? ⟨w.heap.size, 4, none⟩ = some (.int .i64 0) := HR.out.cell 4
          have s4 := HR.out.free 4
          repeat (first | go_values | go_skip | go_guarded | go_step | go_upon)
          have HF := (((((HR.out.set 0 (.slice a k cap)).set 1 (.slice q1 (k + 1) c1)).set 2 (.slice q2 (k + 2) c2)).set 3 (.slice q3 (k + 64) c3)).set 4 (.int .i64 m))
          have HF0 := HF.cell 0
          have HF1 := HF.cell 1
          have HF2 := HF.cell 2
          have HF3 := HF.cell 3
          have HF4 := HF.cell 4
          simp at HF0 HF1 HF2 HF3 HF4
          have HK : wr.grownBy (((((wr.setCell ⟨w.heap.size, 0, none⟩ (.slice a k cap)).setCell ⟨w.heap.size, 1, none⟩ (.slice q1 (k + 1) c1)).setCell ⟨w.heap.size, 2, none⟩ (.slice q2 (k + 2) c2)).setCell ⟨w.heap.size, 3, none⟩ (.slice q3 (k + 64) c3)).setCell ⟨w.heap.size, 4, none⟩ (.int .i64 m)) (some w.heap.size) := (grownBy_trans (grownBy_trans (grownBy_trans (grownBy_trans (grownBy_trans (grownBy_refl wr (some w.heap.size)) (grownBy_set _ _ _ _) (.inr (.inl rfl))) (grownBy_set _ _ _ _) (.inr (.inl rfl))) (grownBy_set _ _ _ _) (.inr (.inl rfl))) (grownBy_set _ _ _ _) (.inr (.inl rfl))) (grownBy_set _ _ _ _) (.inr (.inl rfl)))
          have e0 := (H0.out.kept HK (.inr (HN0.out _ (Nat.le_refl _))))
          have e1 := (H1.out.kept HK (.inr (HA1.out.ne (HN0.out _ (Nat.le_refl _)) (by omega))))
          have e2 := (H2.out.kept HK (.inr (HA2.out.ne (HN0.out _ (Nat.le_refl _)) (by omega))))
          have e3 := (H3.out.kept HK (.inr (HA3.out.ne (HN0.out _ (Nat.le_refl _)) (by omega))))
          have hS : ∀ q, ((Value.slice a k cap).ownBlock = some q ∨ (Value.slice q1 (k + 1) c1).ownBlock = some q ∨ (Value.slice q2 (k + 2) c2).ownBlock = some q ∨ (Value.slice q3 (k + 64) c3).ownBlock = some q) → (some q = (Value.slice a k cap).ownBlock ∨ w.heap.size ≤ q) := by
            rintro q (h | h | h | h)
            · exact .inl h.symm
            · rcases HA1.out with h' | ⟨g, h', hg⟩
              · exact .inl (h.symm.trans h')
              · rw [h'] at h; simp only [Option.some.injEq] at h; exact .inr (by omega)
            · rcases HA2.out with h' | ⟨g, h', hg⟩
              · exact .inl (h.symm.trans h')
              · rw [h'] at h; simp only [Option.some.injEq] at h; exact .inr (by omega)
            · rcases HA3.out with h' | ⟨g, h', hg⟩
              · exact .inl (h.symm.trans h')
              · rw [h'] at h; simp only [Option.some.injEq] at h; exact .inr (by omega)
          exact bodyPost_ret (v := .agg #[.slice a k cap, .slice q1 (k + 1) c1, .slice q2 (k + 2) c2, .slice q3 (k + 64) c3, .int .i64 m]) (by simp [results, Tryz.results74, go_sem, HF0, HF1, HF2, HF3, HF4]) rfl ⟨_, rfl, ⟨_, _, _, _, _, _, _, _, rfl, ⟨e0, e1, e2, e3⟩, ⟨by omega, by omega, by omega, by omega⟩, hS⟩, grownBy_trans HG.out HK (.inr (.inr ⟨_, rfl, Nat.le_refl _⟩))⟩

end Go.Proofs.YthloffgebebijaaGreat

/- BkE: the walk of tillerlaw's (*Book).event: the book has one entry more. -/
namespace Go.Proofs.YthloffgebebijaaGreat
open Go.RowKit

theorem info_rE : (Tryz.prog.info? 64).map (fun i => (i.zero, i.size, i.bytes)) = some (some (.agg #[.slice none 0 0, .slice none 0 0, .slice none 0 0, .slice none 0 0, .int .i64 0]), 5, 104) := by kernel_rfl

set_option maxRecDepth 100000 in
set_option maxHeartbeats 1600000 in
theorem bookE_any (S : Nat → Prop) (B W : Nat) (ps : Value) (nb ni ne nl nt : Nat) (l : Value) (n : Nat) (xs : List Value) (w : World) (h : BookAt w S B W ps nb ni ne nl nt) (hB : B ≤ w.heap.size) (ho : w.ownsRow B 149 5 l n xs) (hl : ∀ k, l.ownBlock = some k → ¬ S k) (hn : n ≤ 1000000) (hnn : ne ≤ 1300000000000) :
    Calls Tryz.prog 44 #[.pointer (some ⟨W, 1, none⟩), l] w fun e w' => e = .returned (.tuple #[]) ∧ ∃ S', BookAt w' S' B W ps nb ni (ne + 1) nl nt ∧ (∀ k, S k → S' k) ∧ (∀ k, S' k → S k ∨ l.ownBlock = some k ∨ w.heap.size ≤ k) ∧ Fr (fun k => S k ∨ l.ownBlock = some k) w w' := by
  have HBK := hide h
  have hlown := World.ownsRow.lt ho
  obtain ⟨hS, hSW, vb, vi, ve, vl, vt, hW, eb, ei, ee, el, et⟩ := h
  have HW := hide hW
  have hwlt := hW.lt
  have HSW := hide hSW
  have HS := hide hS
  have HL := hide hl
  have HLO := hide hlown
  obtain ⟨i0, hi, hz0, hzs, hzb⟩ := info_parts info_rE
  have HI := hide (And.intro hi (And.intro hz0 (And.intro hzs hzb)))
  have ho0 : w.ownsRow 0 149 5 l n xs := ⟨ho.1, ho.2.imp id fun ⟨g, cap, cur, x1, _, x3⟩ => ⟨g, cap, cur, x1, Nat.zero_le _, x3⟩⟩
  have HOWN := hide (ownEvents_any l n ne xs w ho0 hn hnn)
  have c1 : w.cell? ⟨W, 3, none⟩ = some ve := hW.cell 3
  obtain ⟨va, vc, hve⟩ := ee.slice
  obtain ⟨la, lc, hle⟩ : ∃ a c, l = .slice a n c := by
    rcases ho.2 with ⟨rfl, rfl⟩ | ⟨g, cap, cur, rfl, _⟩
    · exact ⟨_, _, rfl⟩
    · exact ⟨_, _, rfl⟩
  subst hle
  have HEb := hide eb; have HEi := hide ei; have HEe := hide ee; have HEl := hide el; have HEt := hide et
  subst hve
  clear eb ei ee el et hS hSW hW hl ho ho0 hlown hi hz0 hzs hzb
  go_enter Tryz.func44, Tryz.ntmps44
  go_wp2_with fail
  refine HOWN.out.mono ?_
  rintro e w1 ⟨r, rfl, hbe, hg⟩
  have HBE := hide hbe
  have HG := hide hg
  obtain ⟨L0, L1, L2, L3, n0, n1, n2, n3, rfl, ⟨b0, b1, b2, b3⟩, -, -⟩ := hbe
  obtain ⟨a0, k0, rfl⟩ := b0.slice
  obtain ⟨a1, k1, rfl⟩ := b1.slice
  obtain ⟨a2, k2, rfl⟩ := b2.slice
  obtain ⟨a3, k3, rfl⟩ := b3.slice
  clear b0 b1 b2 b3
  have hz1 := hg.size
  have hSk : Hid (∀ k, S k → w1.heap[k]? = w.heap[k]?) := fun k hk => HG.out.block k (HS.out k hk).2 (fun e => HL.out k e.symm hk)
  clear hg c1
  have hSa : Hid (∀ k, S k → (w1.alloc (.cells #[(Value.slice a0 n0 k0), (Value.slice a1 n1 k1), (Value.slice a2 n2 k2), (Value.slice a3 n3 k3), .int .i64 ne] 64)).heap[k]? = w.heap[k]?) := fun k hk => (Below.heap_alloc w1 _ k (by have := (HS.out k hk).2; omega)).trans (hSk.out k hk)
  have c1 : w1.cell? ⟨W, 3, none⟩ = some (.slice va ne vc) := (show Blk _ W _ _ from (hSk.out W HSW.out).trans HW.out).cell 3
  have c1f : w1.frozen? ⟨W, 3, none⟩ = false := (show Blk _ W _ _ from (hSk.out W HSW.out).trans HW.out).free 3
  have hwl1 : W < w1.heap.size := by omega
  simp only []
  go_wp2_with fail
  obtain ⟨es, o1, o2, o3, o4⟩ := HEe.out
  have hSb : Hid (∀ k, S k → ((w1.alloc (.cells #[(Value.slice a0 n0 k0), (Value.slice a1 n1 k1), (Value.slice a2 n2 k2), (Value.slice a3 n3 k3), .int .i64 ne] 64)).alloc (.cells #[(Value.slice a0 n0 k0), (Value.slice a1 n1 k1), (Value.slice a2 n2 k2), (Value.slice a3 n3 k3), .int .i64 ne] 64)).drew.heap[k]? = w.heap[k]?) := fun k hk => (Below.heap_alloc (w1.alloc (.cells #[(Value.slice a0 n0 k0), (Value.slice a1 n1 k1), (Value.slice a2 n2 k2), (Value.slice a3 n3 k3), .int .i64 ne] 64)) _ k (by simp; have := (HS.out k hk).2; omega)).trans (hSa.out k hk)
  have HO : Hid (((w1.alloc (.cells #[(Value.slice a0 n0 k0), (Value.slice a1 n1 k1), (Value.slice a2 n2 k2), (Value.slice a3 n3 k3), .int .i64 ne] 64)).alloc (.cells #[(Value.slice a0 n0 k0), (Value.slice a1 n1 k1), (Value.slice a2 n2 k2), (Value.slice a3 n3 k3), .int .i64 ne] 64)).drew.ownsRow B 64 5 (.slice va ne vc) ne es.flatten) := owns_same o1 fun k hk => hSb.out k (o3 k hk)
  have HNEW : Hid (∀ (j : Nat) (u : Value), [(Value.slice a0 n0 k0), (Value.slice a1 n1 k1), (Value.slice a2 n2 k2), (Value.slice a3 n3 k3), Value.int .i64 ne][j]? = some u → ((w1.alloc (.cells #[(Value.slice a0 n0 k0), (Value.slice a1 n1 k1), (Value.slice a2 n2 k2), (Value.slice a3 n3 k3), .int .i64 ne] 64)).alloc (.cells #[(Value.slice a0 n0 k0), (Value.slice a1 n1 k1), (Value.slice a2 n2 k2), (Value.slice a3 n3 k3), .int .i64 ne] 64)).drew.cell? ((⟨w1.heap.size + 1, 0, none⟩ : Addr).add j) = some u) := by
    intro j u hj
    have := new_cells (w1.alloc (.cells #[(Value.slice a0 n0 k0), (Value.slice a1 n1 k1), (Value.slice a2 n2 k2), (Value.slice a3 n3 k3), .int .i64 ne] 64)) [(Value.slice a0 n0 k0), (Value.slice a1 n1 k1), (Value.slice a2 n2 k2), (Value.slice a3 n3 k3), Value.int .i64 ne] 64 (w1.heap.size + 1) (by simp) j u hj
    exact this
  have HONE : Hid (∀ u ∈ [(Value.slice a0 n0 k0), (Value.slice a1 n1 k1), (Value.slice a2 n2 k2), (Value.slice a3 n3 k3), Value.int .i64 ne], u.oneCell' = true) := by
    intro u hu
    simp at hu
    rcases hu with rfl | rfl | rfl | rfl | rfl <;> rfl
  have HES := hide (And.intro o2 o4)
  have HO3 := hide o3
  have HBW : Hid (Blk ((w1.alloc (.cells #[(Value.slice a0 n0 k0), (Value.slice a1 n1 k1), (Value.slice a2 n2 k2), (Value.slice a3 n3 k3), .int .i64 ne] 64)).alloc (.cells #[(Value.slice a0 n0 k0), (Value.slice a1 n1 k1), (Value.slice a2 n2 k2), (Value.slice a3 n3 k3), .int .i64 ne] 64)).drew W #[ps, vb, vi, .slice va ne vc, vl, vt] 36) := (hSb.out W HSW.out).trans HW.out
  clear o1 o2 o3 o4
  apply wp_some3 (fun (xa : Option Addr) (xc : Nat) (w4 : World) => w4.ownsRow B 64 5 (.slice xa (ne + 1) xc) (ne + 1) (es.flatten ++ [(Value.slice a0 n0 k0), (Value.slice a1 n1 k1), (Value.slice a2 n2 k2), (Value.slice a3 n3 k3), Value.int .i64 ne]) ∧ ((w1.alloc (.cells #[(Value.slice a0 n0 k0), (Value.slice a1 n1 k1), (Value.slice a2 n2 k2), (Value.slice a3 n3 k3), .int .i64 ne] 64)).alloc (.cells #[(Value.slice a0 n0 k0), (Value.slice a1 n1 k1), (Value.slice a2 n2 k2), (Value.slice a3 n3 k3), .int .i64 ne] 64)).drew.grownBy w4 (Value.slice va ne vc).ownBlock ∧ ((Value.slice xa (ne + 1) xc).ownBlock = (Value.slice va ne vc).ownBlock ∨ (Value.slice xa (ne + 1) xc).ownBlock = some ((w1.alloc (.cells #[(Value.slice a0 n0 k0), (Value.slice a1 n1 k1), (Value.slice a2 n2 k2), (Value.slice a3 n3 k3), .int .i64 ne] 64)).alloc (.cells #[(Value.slice a0 n0 k0), (Value.slice a1 n1 k1), (Value.slice a2 n2 k2), (Value.slice a3 n3 k3), .int .i64 ne] 64)).drew.heap.size))
  case h =>
    go_region_law (first | (refine step_append_own rfl (.tmp 16) (.tmp 18) 30 rfl B 64 i0 (.agg #[.slice none 0 0, .slice none 0 0, .slice none 0 0, .slice none 0 0, .int .i64 0]) 5 104 Tryz.underlying30 HI.out.1 HI.out.2.1 HI.out.2.2.1 HI.out.2.2.2 rfl (by decide) (.slice va ne vc) ne es.flatten (by simp [Act.eval]) HO.out ⟨w1.heap.size + 1, 0, none⟩ 1 1 [(Value.slice a0 n0 k0), (Value.slice a1 n1 k1), (Value.slice a2 n2 k2), (Value.slice a3 n3 k3), .int .i64 ne] (by simp [Act.eval]) rfl HNEW.out HONE.out (by decide) (by unfold maxLen; omega) (by omega) (by simp; omega) ?_; intro v1 w4 hown hgrow hat; obtain ⟨xa, xc, rfl⟩ : ∃ a c, v1 = .slice a (ne + 1) c := (by rcases hown.2 with ⟨rfl, h0⟩ | ⟨g, cap, cur, rfl, _⟩; exact ⟨none, 0, by rw [h0]⟩; exact ⟨_, _, rfl⟩); have hbw4 := HBW.out.kept (KeepBut.grown hgrow HO.out (Nat.le_refl _)) (by decide); have d1 : w4.cell? ⟨W, 3, none⟩ = some (.slice va ne vc) := hbw4.cell 3; have d1f := hbw4.free 3; have HOW := hide hown; have HGR := hide hgrow; have HAT := hide hat; clear hown hgrow hat hbw4))
    all_goals exact ⟨xa, xc, w4, ⟨HOW.out, HGR.out, HAT.out⟩, rfl, rfl⟩
  rintro xa xc w4 ⟨how, hgr, hat⟩
  have hk4 := KeepBut.grown hgr HO.out (Nat.le_refl _)
  have hbw4 := HBW.out.kept hk4 (by decide)
  have HOW := hide how; have HGR := hide hgr; have HAT := hide hat; have HK4 := hide hk4; have HBW4 := hide hbw4
  clear how hgr hat hk4 hbw4 c1 c1f
  go_wp2
  go_end0
  have hz2 : ((w1.alloc (.cells #[(Value.slice a0 n0 k0), (Value.slice a1 n1 k1), (Value.slice a2 n2 k2), (Value.slice a3 n3 k3), .int .i64 ne] 64)).alloc (.cells #[(Value.slice a0 n0 k0), (Value.slice a1 n1 k1), (Value.slice a2 n2 k2), (Value.slice a3 n3 k3), .int .i64 ne] 64)).drew.heap.size = w1.heap.size + 2 := by simp
  have hz4 := HGR.out.size
  have hSW := HS.out W HSW.out
  have hks : KeepBut 36 B w4 (w4.setCell ⟨W, 3, none⟩ (.slice xa (ne + 1) xc)) := KeepBut.set HBW4.out hSW.1 _
  have hbel1 : ∀ k, k < w1.heap.size → ((w1.alloc (.cells #[(Value.slice a0 n0 k0), (Value.slice a1 n1 k1), (Value.slice a2 n2 k2), (Value.slice a3 n3 k3), .int .i64 ne] 64)).alloc (.cells #[(Value.slice a0 n0 k0), (Value.slice a1 n1 k1), (Value.slice a2 n2 k2), (Value.slice a3 n3 k3), .int .i64 ne] 64)).drew.heap[k]? = w1.heap[k]? := fun k hk => (Below.heap_alloc (w1.alloc (.cells #[(Value.slice a0 n0 k0), (Value.slice a1 n1 k1), (Value.slice a2 n2 k2), (Value.slice a3 n3 k3), .int .i64 ne] 64)) _ k (by simp; omega)).trans (Below.heap_alloc w1 _ k hk)
  have hE : ∀ (i : Nat) (c : List Value), es[i]? = some c → ∃ z0 z1 z2 z3, c = [z0, z1, z2, z3, .int .i64 i] ∧ Bears ((w1.alloc (.cells #[(Value.slice a0 n0 k0), (Value.slice a1 n1 k1), (Value.slice a2 n2 k2), (Value.slice a3 n3 k3), .int .i64 ne] 64)).alloc (.cells #[(Value.slice a0 n0 k0), (Value.slice a1 n1 k1), (Value.slice a2 n2 k2), (Value.slice a3 n3 k3), .int .i64 ne] 64)).drew S 149 5 (markE i) (.agg #[z0, z1, z2, z3, .int .i64 i]) i := by
    intro i c hc
    obtain ⟨y0, y1, y2, y3, rfl, hb⟩ := HES.out.2 i c hc
    exact ⟨y0, y1, y2, y3, rfl, hb.same hSb.out fun _ => id⟩
  have hR : Bears ((w1.alloc (.cells #[(Value.slice a0 n0 k0), (Value.slice a1 n1 k1), (Value.slice a2 n2 k2), (Value.slice a3 n3 k3), .int .i64 ne] 64)).alloc (.cells #[(Value.slice a0 n0 k0), (Value.slice a1 n1 k1), (Value.slice a2 n2 k2), (Value.slice a3 n3 k3), .int .i64 ne] 64)).drew (fun k => S k ∨ (Value.slice la n lc).ownBlock = some k ∨ w.heap.size ≤ k) 149 5 (markE ne) (.agg #[(Value.slice a0 n0 k0), (Value.slice a1 n1 k1), (Value.slice a2 n2 k2), (Value.slice a3 n3 k3), .int .i64 ne]) ne := by
    obtain ⟨y0, y1, y2, y3, m0, m1, m2, m3, he, ⟨b0, b1, b2, b3⟩, hb, hs⟩ := HBE.out
    have hlt : ∀ {v : Value} {q : Nat}, Mk w1 149 5 (markE ne) v q → Mk ((w1.alloc (.cells #[(Value.slice a0 n0 k0), (Value.slice a1 n1 k1), (Value.slice a2 n2 k2), (Value.slice a3 n3 k3), .int .i64 ne] 64)).alloc (.cells #[(Value.slice a0 n0 k0), (Value.slice a1 n1 k1), (Value.slice a2 n2 k2), (Value.slice a3 n3 k3), .int .i64 ne] 64)).drew 149 5 (markE ne) v q := fun hv => hv.at_same fun k hk => hbel1 k (World.ownsRow.lt hv k hk).2
    exact ⟨y0, y1, y2, y3, m0, m1, m2, m3, he, ⟨hlt b0, hlt b1, hlt b2, hlt b3⟩, hb, fun k hk => by rcases hs k hk with h | h; exact .inr (.inl h.symm); exact .inr (.inr h)⟩
  have hv4 : ∀ k, (Value.slice xa (ne + 1) xc).ownBlock = some k → (fun k => S k ∨ (Value.slice la n lc).ownBlock = some k ∨ w.heap.size ≤ k) k := by
    intro k hk
    rcases HAT.out with e | e
    · exact .inl (HO3.out k (e.symm.trans hk))
    · rw [e, hz2] at hk; simp only [Option.some.injEq] at hk; exact .inr (.inr (by omega))
  have hSS : ∀ k, S k → (fun k => S k ∨ (Value.slice la n lc).ownBlock = some k ∨ w.heap.size ≤ k) k := fun _ => .inl
  have hkX : ∀ {te e : TypeId} {size nq : Nat} {mark : Nat → List Value} {v : Value}, Ents w S B te e size mark v nq → te ≠ 64 → e ≠ 64 → te ≠ 36 → e ≠ 36 → Ents (w4.setCell ⟨W, 3, none⟩ (.slice xa (ne + 1) xc)) (fun k => (fun k => S k ∨ (Value.slice la n lc).ownBlock = some k ∨ w.heap.size ≤ k) k ∧ k < (w4.setCell ⟨W, 3, none⟩ (.slice xa (ne + 1) xc)).heap.size) B te e size mark v nq :=
    fun he t1 t2 t3 t4 => (((he.same hSb.out hSS).keptBut HK4.out t1 t2).keptBut hks t3 t4).bound
  have hN : Ents (w4.setCell ⟨W, 3, none⟩ (.slice xa (ne + 1) xc)) (fun k => (fun k => S k ∨ (Value.slice la n lc).ownBlock = some k ∨ w.heap.size ≤ k) k ∧ k < (w4.setCell ⟨W, 3, none⟩ (.slice xa (ne + 1) xc)).heap.size) B 64 149 5 markE (.slice xa (ne + 1) xc) (ne + 1) :=
    ((Ents.snoc HES.out.1 hE hR hSS HK4.out (by decide) HOW.out hv4).keptBut hks (by decide) (by decide)).bound
  have hz5 : (w4.setCell ⟨W, 3, none⟩ (.slice xa (ne + 1) xc)).heap.size = w4.heap.size := by simp
  have hgB : ∀ k, (Value.slice la n lc).ownBlock = some k → B ≤ k ∧ k < w.heap.size := HLO.out
  refine ⟨rfl, fun k => (fun k => S k ∨ (Value.slice la n lc).ownBlock = some k ∨ w.heap.size ≤ k) k ∧ k < (w4.setCell ⟨W, 3, none⟩ (.slice xa (ne + 1) xc)).heap.size, ⟨?_, ⟨hSS W HSW.out, by omega⟩, _, _, _, _, _, HBW4.out.set 3 _, hkX HEb.out (by decide) (by decide) (by decide) (by decide), hkX HEi.out (by decide) (by decide) (by decide) (by decide), hN, hkX HEl.out (by decide) (by decide) (by decide) (by decide), hkX HEt.out (by decide) (by decide) (by decide) (by decide)⟩, ?_, ?_, ?_⟩
  · rintro k ⟨hk | hk | hk, hlt⟩
    · exact ⟨(HS.out k hk).1, hlt⟩
    · exact ⟨(hgB k hk).1, hlt⟩
    · exact ⟨by omega, hlt⟩
  · intro k hk
    exact ⟨hSS k hk, by have := (HS.out k hk).2; omega⟩
  · rintro k ⟨hk, _⟩
    exact hk
  · have f1 : Fr (fun k => S k ∨ (Value.slice la n lc).ownBlock = some k) w w1 := Fr.of_grown HG.out fun k hk _ => .inr hk
    have f2 : Fr (fun k => S k ∨ (Value.slice la n lc).ownBlock = some k) w ((w1.alloc (.cells #[(Value.slice a0 n0 k0), (Value.slice a1 n1 k1), (Value.slice a2 n2 k2), (Value.slice a3 n3 k3), .int .i64 ne] 64)).alloc (.cells #[(Value.slice a0 n0 k0), (Value.slice a1 n1 k1), (Value.slice a2 n2 k2), (Value.slice a3 n3 k3), .int .i64 ne] 64)).drew := f1.trans (Y := fun _ => False) ⟨rfl, rfl, rfl, by simp; omega, fun k hk _ => hbel1 k hk⟩ (fun _ _ h => h.elim)
    have f3 : Fr (fun k => S k ∨ (Value.slice la n lc).ownBlock = some k) w w4 := f2.trans (Fr.of_grown (X := S) HGR.out fun k hk _ => HO3.out k hk) (fun _ _ h => .inl h)
    exact f3.trans (Fr.set w4 W 3 _ HSW.out) (fun _ _ h => .inl h)

end Go.Proofs.YthloffgebebijaaGreat
