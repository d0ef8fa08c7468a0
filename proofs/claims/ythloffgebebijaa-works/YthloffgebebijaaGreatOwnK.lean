/- OwnB: the walk of tillerlaw.ownBytes: all that it begins bears the mark. -/
import Derived.Test.YthloffgebebijaaGreatMark
import Derived.Test.YthloffgebebijaaGreatBookK
import Derived.Test.YthloffgebebijaaGreatBytesA
import Derived.Deep.RegionLaw
import Derived.Deep.DeepMust
namespace Go.Proofs.YthloffgebebijaaGreat
open Go.RowKit

theorem fill_B {cur : Array Value} {cap k m : Nat} (hs : cur.size = cap * 1) (hk : k < cap) (h : ∀ j, j < k * 1 → cur[j]? = (markB m)[j % 1]?) :
    ∀ j, j < (k + 1) * 1 → (cur.setIfInBounds (k) (.int .u8 ((m : Int) % 251)))[j]? = (markB m)[j % 1]? := by
  intro j hj
  simp only [Array.getElem?_setIfInBounds]
  by_cases h0 : j < k * 1
  · rw [if_neg (by omega)]
    exact h j h0
  · obtain rfl : j = k := by omega
    rw [if_pos rfl, if_pos (by omega)]
    simp [markB, Nat.mod_one]

set_option maxRecDepth 100000 in
set_option maxHeartbeats 1600000 in
theorem ownBytes_any (v : Value) (n m : Nat) (xs : List Value) (w : World) (h : w.ownsRow 0 5 1 v n xs) (hn : n ≤ 1000000) (hm : m ≤ 1000000000) :
    Calls Tryz.prog 56 #[v, .int .i64 m] w fun e w' => ∃ r, e = .returned r ∧ Bears w' (fun k => some k = v.ownBlock ∨ w.heap.size ≤ k) 5 1 (markB m) r m ∧ w.grownBy w' v.ownBlock := by
  obtain ⟨i0, hi, hz0, hzs, hzb⟩ := info_parts info_u8
  have HI := hide (And.intro hi (And.intro hz0 (And.intro hzs hzb))); clear hi hz0 hzs hzb
  have hown := World.ownsRow.lt h
  have HF := hide (Fill.of_owns (cs := markB m) h)
  obtain ⟨a, cap, hv⟩ : ∃ a cap, v = .slice a n cap := by
    rcases h.2 with ⟨rfl, rfl⟩ | ⟨g, cap, cur, rfl, _⟩
    · exact ⟨_, _, rfl⟩
    · exact ⟨_, _, rfl⟩
  subst hv
  have HLT : Hid (∀ k, (Value.slice a n cap).ownBlock = some k → k < w.heap.size) := fun k hk => (hown k hk).2
  have HN0 : Hid (∀ k, w.heap.size ≤ k → (Value.slice a n cap).ownBlock ≠ some k) := fun k hk e => by have := HLT.out k e; omega
  clear h hown
  have HONE : Hid (∀ u ∈ markB m, u.oneCell' = true) := by simp [Hid, markB, Value.oneCell']
  go_enter Tryz.func56, Tryz.ntmps56
  go_wp2_with fail
  go_loopw [6] (fun i wr => ∃ k : Nat, i = .int .i64 k ∧ k ≤ n ∧ Fill wr 5 1 (markB m) (.slice a n cap) n k ∧ w.grownBy wr (Value.slice a n cap).ownBlock ∧ Blk wr w.heap.size #[.slice none 0 0, .slice none 0 0, .slice none 0 0, .slice none 0 0, .int .i64 0] 59) (fun i _ => n - (intOf i).toNat)
  case atStart =>
    have hb : w.grownBy (w.alloc (.cells #[.slice none 0 0, .slice none 0 0, .slice none 0 0, .slice none 0 0, .int .i64 0] 59)) none := grownBy_below ((Below.refl _ _).alloc (Nat.le_refl _) _) _
    exact ⟨0, rfl, Nat.zero_le _, HF.out.kept hb (by cases (Value.slice a n cap).ownBlock <;> simp), ⟨hb.os, hb.tape, hb.output, hb.size, fun k hk _ => hb.block k hk (by simp)⟩, Blk.new _ _ _⟩
  case round =>
    obtain ⟨k, rfl, hk, hf, hg, hR⟩ := hrel
    have hz1 := hR.lt
    have HR := hide hR
    have HG := hide hg
    have HFI := hide hf
    clear hR hg hf
    by_cases hlt : k < n
    · rcases HFI.out with ⟨_, h0⟩ | ⟨g, cap2, cur, he, hb, hnc, hcm, hcs, hmk⟩
      · omega
      obtain ⟨rfl, rfl⟩ : a = some ⟨g, 0, none⟩ ∧ cap = cap2 := by simpa using he
      have hgs := HLT.out g rfl
      have HB := hide hb
      have HMK := hide hmk
      have HCS := hide hcs
      obtain ⟨y0, f0⟩ : ∃ y, wr.cell? ⟨g, k, none⟩ = some y := by rw [hb.cell]; exact ⟨_, Array.getElem?_eq_getElem (by omega)⟩
      have g0 : wr.frozen? ⟨g, k, none⟩ = false := hb.free _
      clear hb hmk hcs he
      go_wp2
      go_roundw
      case rel =>
        refine ⟨k + 1, by go_num, by omega, .inr ⟨g, cap, _, rfl, HB.out.set _ _, hnc, hcm, by simp [HCS.out], fill_B HCS.out (by omega) HMK.out⟩, ?_, ?_⟩
        · exact (grownBy_trans HG.out (grownBy_set _ _ _ _) (.inr (.inl rfl)))
        · exact (HR.out.other (by simp; omega) _)
      case measure => simp [intOf]; omega
    · obtain rfl : k = n := by omega
      have HM := hide (HFI.out.mk rfl)
      clear HFI hlt
      go_wp2_with (at_builtin; go_must (refine wpList_mark _ rfl _ _ 57 rfl 5 i0 (.int .u8 0) 1 1 Tryz.underlying57 HI.out.1 HI.out.2.1 HI.out.2.2.1 HI.out.2.2.2 rfl (by decide) (markB m) rfl HONE.out _ (k) rfl (HM.out.alloc _) _ 1 _ (by decide) rfl (new_cells _ _ _ _ (by simp)) ?_ ?_ ?_))
      · unfold maxLen; omega
      · omega
      intro v1 w1 m1 g1 a1 p1
      have HM1 := hide m1
      have HA1 := hide (Away.next (B := w.heap.size + 1) (r := (Value.slice a k cap).ownBlock) (.inl rfl) a1 (by first | omega | (simp; omega)))
      have HG1 := hide (grownBy_trans (grownBy_trans HG.out (World.grownBy_alloc _ _ none) (.inl rfl)) g1 (.inr (.inl rfl)))
      have HR1 := hide ((HR.out.alloc _).grownRow g1 (HN0.out _ (Nat.le_refl _)))
      have HM0 := hide (p1 _ _ (HM.out.alloc _))
      clear m1 g1 a1 p1 HM HR HG 
      have hz2 := HR1.out.lt
      go_wp2_with (at_builtin; go_must (refine wpList_mark _ rfl _ _ 57 rfl 5 i0 (.int .u8 0) 1 1 Tryz.underlying57 HI.out.1 HI.out.2.1 HI.out.2.2.1 HI.out.2.2.2 rfl (by decide) (markB m) rfl HONE.out _ (k) rfl (HM0.out.alloc _) _ 2 _ (by decide) rfl (new_cells _ _ _ _ (by simp)) ?_ ?_ ?_))
      · unfold maxLen; omega
      · omega
      intro v2 w2 m2 g2 a2 p2
      have HM2 := hide m2
      have HA2 := hide (Away.next (B := w.heap.size + 1) (r := (Value.slice a k cap).ownBlock) (.inl rfl) a2 (by first | omega | (simp; omega)))
      have HG2 := hide (grownBy_trans (grownBy_trans HG1.out (World.grownBy_alloc _ _ none) (.inl rfl)) g2 (.inr (.inl rfl)))
      have HR2 := hide ((HR1.out.alloc _).grownRow g2 (HN0.out _ (Nat.le_refl _)))
      have HM02 := hide (p2 _ _ (HM0.out.alloc _))
      have HM12 := hide (p2 _ _ (HM1.out.alloc _))
      clear m2 g2 a2 p2 HM0 HM1 HR1 HG1 
      obtain ⟨q1, c1, hv1⟩ := HM12.out.slice
      obtain ⟨q2, c2, hv2⟩ := HM2.out.slice
      subst hv1
      subst hv2
      go_wp2_with fail
      go_loopw [9, 10] (fun v3 i wr => ∃ j : Nat, i = .int .i64 j ∧ j ≤ 64 ∧ Mk wr 5 1 (markB m) v3 (k + j) ∧ Away v3 (Value.slice a k cap).ownBlock (w.heap.size + 1) ∧ Mk wr 5 1 (markB m) (.slice a k cap) k ∧ Mk wr 5 1 (markB m) (.slice q1 (k + 1) c1) (k + 1) ∧ Mk wr 5 1 (markB m) (.slice q2 (k + 2) c2) (k + 2) ∧ w.grownBy wr (Value.slice a k cap).ownBlock ∧ Blk wr w.heap.size #[.slice none 0 0, .slice none 0 0, .slice none 0 0, .slice none 0 0, .int .i64 0] 59) (fun _ i _ => 64 - (intOf i).toNat)
      case atStart => exact ⟨0, rfl, by omega, HM02.out, .inl rfl, HM02.out, HM12.out, HM2.out, HG2.out, HR2.out⟩
      case round =>
        obtain ⟨j, rfl, hj, h3, hA3, h0, h1, h2, hg, hR⟩ := hrel
        have hz3 := hR.lt
        have H3 := hide h3; have HA3 := hide hA3; have H0 := hide h0; have H1 := hide h1; have H2 := hide h2; have HG := hide hg; have HR := hide hR
        clear h3 hA3 h0 h1 h2 hg hR  HM02 HM12 HM2 HG2 HR2 
        by_cases hlt : j < 64
        · go_wp2_with (at_builtin; go_must (refine wpList_mark _ rfl _ _ 57 rfl 5 i0 (.int .u8 0) 1 1 Tryz.underlying57 HI.out.1 HI.out.2.1 HI.out.2.2.1 HI.out.2.2.2 rfl (by decide) (markB m) rfl HONE.out _ (k + j) rfl (H3.out.alloc _) _ 1 _ (by decide) rfl (new_cells _ _ _ _ (by simp)) ?_ ?_ ?_))
          · unfold maxLen; omega
          · omega
          intro v4 w4 m4 g4 a4 p4
          have hne : ∀ b, w.heap.size ≤ b → b < w.heap.size + 1 → _root_.Ne (Value.ownBlock _) (some b) := fun b hb1 hb2 => HA3.out.ne (HN0.out b hb1) hb2
          have HM4 := hide m4
          have HA4 := hide (Away.next HA3.out a4 (by first | omega | (simp; omega)))
          have HG4 := hide (Away.frame (grownBy_trans HG.out (World.grownBy_alloc _ _ none) (.inl rfl)) g4 HA3.out (by omega))
          have HR4 := hide ((HR.out.alloc _).grownRow g4 (hne _ (Nat.le_refl _) (by omega)))
          have HP4 := hide p4
          clear m4 g4 a4 p4 hne
          go_wp2
          go_roundw
          case rel => exact ⟨j + 1, by go_num, by omega, HM4.out, HA4.out, HP4.out _ _ (H0.out.alloc _), HP4.out _ _ (H1.out.alloc _), HP4.out _ _ (H2.out.alloc _), HG4.out, HR4.out⟩
          case measure => simp [intOf]; omega
        · obtain rfl : j = 64 := by omega
          obtain ⟨q3, c3, hv3⟩ := H3.out.slice
          subst hv3
          have r0 : wr.cell? ⟨w.heap.size, 0, none⟩ = some (.slice none 0 0) := HR.out.cell 0
          have s0 := HR.out.free 0
          have r1 : wr.cell? ⟨w.heap.size, 1, none⟩ = some (.slice none 0 0) := HR.out.cell 1
          have s1 := HR.out.free 1
          have r2 : wr.cell? ⟨w.heap.size, 2, none⟩ = some (.slice none 0 0) := HR.out.cell 2
          have s2 := HR.out.free 2
          have r3 : wr.cell? ⟨w.heap.size, 3, none⟩ = some (.slice none 0 0) := HR.out.cell 3
          have s3 := HR.out.free 3
          have r4 : wr.cell? ⟨w.heap.size, 4, none⟩ = some (.int .i64 0) := HR.out.cell 4
          have s4 := HR.out.free 4
          repeat (first | go_values | go_skip | go_guarded | go_step | go_upon)
          have HF := (((((HR.out.set 0 (.slice a k cap)).set 1 (.slice q1 (k + 1) c1)).set 2 (.slice q2 (k + 2) c2)).set 3 (.slice q3 (k + 64) c3)).set 4 (.int .i64 m))
          have HF0 := HF.cell 0
          have HF1 := HF.cell 1
          have HF2 := HF.cell 2
          have HF3 := HF.cell 3
          have HF4 := HF.cell 4
          simp at HF0 HF1 HF2 HF3 HF4
          have HK : wr.grownBy (((((wr.setCell ⟨w.heap.size, 0, none⟩ (.slice a k cap)).setCell ⟨w.heap.size, 1, none⟩ (.slice q1 (k + 1) c1)).setCell ⟨w.heap.size, 2, none⟩ (.slice q2 (k + 2) c2)).setCell ⟨w.heap.size, 3, none⟩ (.slice q3 (k + 64) c3)).setCell ⟨w.heap.size, 4, none⟩ (.int .i64 m)) (some w.heap.size) := (grownBy_trans (grownBy_trans (grownBy_trans (grownBy_trans (grownBy_trans (grownBy_refl wr (some w.heap.size)) (grownBy_set _ _ _ _) (.inr (.inl rfl))) (grownBy_set _ _ _ _) (.inr (.inl rfl))) (grownBy_set _ _ _ _) (.inr (.inl rfl))) (grownBy_set _ _ _ _) (.inr (.inl rfl))) (grownBy_set _ _ _ _) (.inr (.inl rfl)))
          have e0 := (H0.out.kept HK (.inr (HN0.out _ (Nat.le_refl _))))
          have e1 := (H1.out.kept HK (.inr (HA1.out.ne (HN0.out _ (Nat.le_refl _)) (by omega))))
          have e2 := (H2.out.kept HK (.inr (HA2.out.ne (HN0.out _ (Nat.le_refl _)) (by omega))))
          have e3 := (H3.out.kept HK (.inr (HA3.out.ne (HN0.out _ (Nat.le_refl _)) (by omega))))
          have hS : ∀ q, ((Value.slice a k cap).ownBlock = some q ∨ (Value.slice q1 (k + 1) c1).ownBlock = some q ∨ (Value.slice q2 (k + 2) c2).ownBlock = some q ∨ (Value.slice q3 (k + 64) c3).ownBlock = some q) → (some q = (Value.slice a k cap).ownBlock ∨ w.heap.size ≤ q) := by
            rintro q (h | h | h | h)
            · exact .inl h.symm
            · rcases HA1.out with h' | ⟨g, h', hg⟩
              · exact .inl (h.symm.trans h')
              · rw [h'] at h; simp only [Option.some.injEq] at h; exact .inr (by omega)
            · rcases HA2.out with h' | ⟨g, h', hg⟩
              · exact .inl (h.symm.trans h')
              · rw [h'] at h; simp only [Option.some.injEq] at h; exact .inr (by omega)
            · rcases HA3.out with h' | ⟨g, h', hg⟩
              · exact .inl (h.symm.trans h')
              · rw [h'] at h; simp only [Option.some.injEq] at h; exact .inr (by omega)
          exact bodyPost_ret (v := .agg #[.slice a k cap, .slice q1 (k + 1) c1, .slice q2 (k + 2) c2, .slice q3 (k + 64) c3, .int .i64 m]) (by simp [results, Tryz.results56, go_sem, HF0, HF1, HF2, HF3, HF4]) rfl ⟨_, rfl, ⟨_, _, _, _, _, _, _, _, rfl, ⟨e0, e1, e2, e3⟩, ⟨by omega, by omega, by omega, by omega⟩, hS⟩, grownBy_trans HG.out HK (.inr (.inr ⟨_, rfl, Nat.le_refl _⟩))⟩

end Go.Proofs.YthloffgebebijaaGreat

/- BkB: the walk of tillerlaw's (*Book).byte: the book has one entry more. -/
namespace Go.Proofs.YthloffgebebijaaGreat
open Go.RowKit

theorem info_rB : (Tryz.prog.info? 59).map (fun i => (i.zero, i.size, i.bytes)) = some (some (.agg #[.slice none 0 0, .slice none 0 0, .slice none 0 0, .slice none 0 0, .int .i64 0]), 5, 104) := by kernel_rfl

set_option maxRecDepth 100000 in
set_option maxHeartbeats 1600000 in
theorem bookB_any (S : Nat → Prop) (B W : Nat) (ps : Value) (nb ni ne nl nt : Nat) (l : Value) (n : Nat) (xs : List Value) (w : World) (h : BookAt w S B W ps nb ni ne nl nt) (hB : B ≤ w.heap.size) (ho : w.ownsRow B 5 1 l n xs) (hl : ∀ k, l.ownBlock = some k → ¬ S k) (hn : n ≤ 1000000) (hnn : nb ≤ 1000000000) :
    Calls Tryz.prog 26 #[.pointer (some ⟨W, 1, none⟩), l] w fun e w' => e = .returned (.tuple #[]) ∧ ∃ S', BookAt w' S' B W ps (nb + 1) ni ne nl nt ∧ (∀ k, S k → S' k) ∧ (∀ k, S' k → S k ∨ l.ownBlock = some k ∨ w.heap.size ≤ k) ∧ Fr (fun k => S k ∨ l.ownBlock = some k) w w' := by
  have HBK := hide h
  have hlown := World.ownsRow.lt ho
  obtain ⟨hS, hSW, vb, vi, ve, vl, vt, hW, eb, ei, ee, el, et⟩ := h
  have HW := hide hW
  have hwlt := hW.lt
  have HSW := hide hSW
  have HS := hide hS
  have HL := hide hl
  have HLO := hide hlown
  obtain ⟨i0, hi, hz0, hzs, hzb⟩ := info_parts info_rB
  have HI := hide (And.intro hi (And.intro hz0 (And.intro hzs hzb)))
  have ho0 : w.ownsRow 0 5 1 l n xs := ⟨ho.1, ho.2.imp id fun ⟨g, cap, cur, x1, _, x3⟩ => ⟨g, cap, cur, x1, Nat.zero_le _, x3⟩⟩
  have HOWN := hide (ownBytes_any l n nb xs w ho0 hn hnn)
  have c1 : w.cell? ⟨W, 1, none⟩ = some vb := hW.cell 1
  obtain ⟨va, vc, hve⟩ := eb.slice
  obtain ⟨la, lc, hle⟩ : ∃ a c, l = .slice a n c := by
    rcases ho.2 with ⟨rfl, rfl⟩ | ⟨g, cap, cur, rfl, _⟩
    · exact ⟨_, _, rfl⟩
    · exact ⟨_, _, rfl⟩
  subst hle
  have HEb := hide eb; have HEi := hide ei; have HEe := hide ee; have HEl := hide el; have HEt := hide et
  subst hve
  clear eb ei ee el et hS hSW hW hl ho ho0 hlown hi hz0 hzs hzb
  go_enter Tryz.func26, Tryz.ntmps26
  go_wp2_with fail
  refine HOWN.out.mono ?_
  rintro e w1 ⟨r, rfl, hbe, hg⟩
  have HBE := hide hbe
  have HG := hide hg
  obtain ⟨L0, L1, L2, L3, n0, n1, n2, n3, rfl, ⟨b0, b1, b2, b3⟩, -, -⟩ := hbe
  obtain ⟨a0, k0, rfl⟩ := b0.slice
  obtain ⟨a1, k1, rfl⟩ := b1.slice
  obtain ⟨a2, k2, rfl⟩ := b2.slice
  obtain ⟨a3, k3, rfl⟩ := b3.slice
  clear b0 b1 b2 b3
  have hz1 := hg.size
  have hSk : Hid (∀ k, S k → w1.heap[k]? = w.heap[k]?) := fun k hk => HG.out.block k (HS.out k hk).2 (fun e => HL.out k e.symm hk)
  clear hg c1
  have hSa : Hid (∀ k, S k → (w1.alloc (.cells #[(Value.slice a0 n0 k0), (Value.slice a1 n1 k1), (Value.slice a2 n2 k2), (Value.slice a3 n3 k3), .int .i64 nb] 59)).heap[k]? = w.heap[k]?) := fun k hk => (Below.heap_alloc w1 _ k (by have := (HS.out k hk).2; omega)).trans (hSk.out k hk)
  have c1 : w1.cell? ⟨W, 1, none⟩ = some (.slice va nb vc) := (show Blk _ W _ _ from (hSk.out W HSW.out).trans HW.out).cell 1
  have c1f : w1.frozen? ⟨W, 1, none⟩ = false := (show Blk _ W _ _ from (hSk.out W HSW.out).trans HW.out).free 1
  have hwl1 : W < w1.heap.size := by omega
  simp only []
  go_wp2_with fail
  obtain ⟨es, o1, o2, o3, o4⟩ := HEb.out
  have hSb : Hid (∀ k, S k → ((w1.alloc (.cells #[(Value.slice a0 n0 k0), (Value.slice a1 n1 k1), (Value.slice a2 n2 k2), (Value.slice a3 n3 k3), .int .i64 nb] 59)).alloc (.cells #[(Value.slice a0 n0 k0), (Value.slice a1 n1 k1), (Value.slice a2 n2 k2), (Value.slice a3 n3 k3), .int .i64 nb] 59)).drew.heap[k]? = w.heap[k]?) := fun k hk => (Below.heap_alloc (w1.alloc (.cells #[(Value.slice a0 n0 k0), (Value.slice a1 n1 k1), (Value.slice a2 n2 k2), (Value.slice a3 n3 k3), .int .i64 nb] 59)) _ k (by simp; have := (HS.out k hk).2; omega)).trans (hSa.out k hk)
  have HO : Hid (((w1.alloc (.cells #[(Value.slice a0 n0 k0), (Value.slice a1 n1 k1), (Value.slice a2 n2 k2), (Value.slice a3 n3 k3), .int .i64 nb] 59)).alloc (.cells #[(Value.slice a0 n0 k0), (Value.slice a1 n1 k1), (Value.slice a2 n2 k2), (Value.slice a3 n3 k3), .int .i64 nb] 59)).drew.ownsRow B 59 5 (.slice va nb vc) nb es.flatten) := owns_same o1 fun k hk => hSb.out k (o3 k hk)
  have HNEW : Hid (∀ (j : Nat) (u : Value), [(Value.slice a0 n0 k0), (Value.slice a1 n1 k1), (Value.slice a2 n2 k2), (Value.slice a3 n3 k3), Value.int .i64 nb][j]? = some u → ((w1.alloc (.cells #[(Value.slice a0 n0 k0), (Value.slice a1 n1 k1), (Value.slice a2 n2 k2), (Value.slice a3 n3 k3), .int .i64 nb] 59)).alloc (.cells #[(Value.slice a0 n0 k0), (Value.slice a1 n1 k1), (Value.slice a2 n2 k2), (Value.slice a3 n3 k3), .int .i64 nb] 59)).drew.cell? ((⟨w1.heap.size + 1, 0, none⟩ : Addr).add j) = some u) := by
    intro j u hj
    have := new_cells (w1.alloc (.cells #[(Value.slice a0 n0 k0), (Value.slice a1 n1 k1), (Value.slice a2 n2 k2), (Value.slice a3 n3 k3), .int .i64 nb] 59)) [(Value.slice a0 n0 k0), (Value.slice a1 n1 k1), (Value.slice a2 n2 k2), (Value.slice a3 n3 k3), Value.int .i64 nb] 59 (w1.heap.size + 1) (by simp) j u hj
    exact this
  have HONE : Hid (∀ u ∈ [(Value.slice a0 n0 k0), (Value.slice a1 n1 k1), (Value.slice a2 n2 k2), (Value.slice a3 n3 k3), Value.int .i64 nb], u.oneCell' = true) := by
    intro u hu
    simp at hu
    rcases hu with rfl | rfl | rfl | rfl | rfl <;> rfl
  have HES := hide (And.intro o2 o4)
  have HO3 := hide o3
  have HBW : Hid (Blk ((w1.alloc (.cells #[(Value.slice a0 n0 k0), (Value.slice a1 n1 k1), (Value.slice a2 n2 k2), (Value.slice a3 n3 k3), .int .i64 nb] 59)).alloc (.cells #[(Value.slice a0 n0 k0), (Value.slice a1 n1 k1), (Value.slice a2 n2 k2), (Value.slice a3 n3 k3), .int .i64 nb] 59)).drew W #[ps, .slice va nb vc, vi, ve, vl, vt] 36) := (hSb.out W HSW.out).trans HW.out
  clear o1 o2 o3 o4
  apply wp_some3 (fun (xa : Option Addr) (xc : Nat) (w4 : World) => w4.ownsRow B 59 5 (.slice xa (nb + 1) xc) (nb + 1) (es.flatten ++ [(Value.slice a0 n0 k0), (Value.slice a1 n1 k1), (Value.slice a2 n2 k2), (Value.slice a3 n3 k3), Value.int .i64 nb]) ∧ ((w1.alloc (.cells #[(Value.slice a0 n0 k0), (Value.slice a1 n1 k1), (Value.slice a2 n2 k2), (Value.slice a3 n3 k3), .int .i64 nb] 59)).alloc (.cells #[(Value.slice a0 n0 k0), (Value.slice a1 n1 k1), (Value.slice a2 n2 k2), (Value.slice a3 n3 k3), .int .i64 nb] 59)).drew.grownBy w4 (Value.slice va nb vc).ownBlock ∧ ((Value.slice xa (nb + 1) xc).ownBlock = (Value.slice va nb vc).ownBlock ∨ (Value.slice xa (nb + 1) xc).ownBlock = some ((w1.alloc (.cells #[(Value.slice a0 n0 k0), (Value.slice a1 n1 k1), (Value.slice a2 n2 k2), (Value.slice a3 n3 k3), .int .i64 nb] 59)).alloc (.cells #[(Value.slice a0 n0 k0), (Value.slice a1 n1 k1), (Value.slice a2 n2 k2), (Value.slice a3 n3 k3), .int .i64 nb] 59)).drew.heap.size))
  case h =>
    go_region_law (first | (refine step_append_own rfl (.tmp 16) (.tmp 18) 28 rfl B 59 i0 (.agg #[.slice none 0 0, .slice none 0 0, .slice none 0 0, .slice none 0 0, .int .i64 0]) 5 104 Tryz.underlying28 HI.out.1 HI.out.2.1 HI.out.2.2.1 HI.out.2.2.2 rfl (by decide) (.slice va nb vc) nb es.flatten (by simp [Act.eval]) HO.out ⟨w1.heap.size + 1, 0, none⟩ 1 1 [(Value.slice a0 n0 k0), (Value.slice a1 n1 k1), (Value.slice a2 n2 k2), (Value.slice a3 n3 k3), .int .i64 nb] (by simp [Act.eval]) rfl HNEW.out HONE.out (by decide) (by unfold maxLen; omega) (by omega) (by simp; omega) ?_; intro v1 w4 hown hgrow hat; obtain ⟨xa, xc, rfl⟩ : ∃ a c, v1 = .slice a (nb + 1) c := (by rcases hown.2 with ⟨rfl, h0⟩ | ⟨g, cap, cur, rfl, _⟩; exact ⟨none, 0, by rw [h0]⟩; exact ⟨_, _, rfl⟩); have hbw4 := HBW.out.kept (KeepBut.grown hgrow HO.out (Nat.le_refl _)) (by decide); have d1 : w4.cell? ⟨W, 1, none⟩ = some (.slice va nb vc) := hbw4.cell 1; have d1f := hbw4.free 1; have HOW := hide hown; have HGR := hide hgrow; have HAT := hide hat; clear hown hgrow hat hbw4))
    all_goals exact ⟨xa, xc, w4, ⟨HOW.out, HGR.out, HAT.out⟩, rfl, rfl⟩
  rintro xa xc w4 ⟨how, hgr, hat⟩
  have hk4 := KeepBut.grown hgr HO.out (Nat.le_refl _)
  have hbw4 := HBW.out.kept hk4 (by decide)
  have HOW := hide how; have HGR := hide hgr; have HAT := hide hat; have HK4 := hide hk4; have HBW4 := hide hbw4
  clear how hgr hat hk4 hbw4 c1 c1f
  go_wp2
  go_end0
  have hz2 : ((w1.alloc (.cells #[(Value.slice a0 n0 k0), (Value.slice a1 n1 k1), (Value.slice a2 n2 k2), (Value.slice a3 n3 k3), .int .i64 nb] 59)).alloc (.cells #[(Value.slice a0 n0 k0), (Value.slice a1 n1 k1), (Value.slice a2 n2 k2), (Value.slice a3 n3 k3), .int .i64 nb] 59)).drew.heap.size = w1.heap.size + 2 := by simp
  have hz4 := HGR.out.size
  have hSW := HS.out W HSW.out
  have hks : KeepBut 36 B w4 (w4.setCell ⟨W, 1, none⟩ (.slice xa (nb + 1) xc)) := KeepBut.set HBW4.out hSW.1 _
  have hbel1 : ∀ k, k < w1.heap.size → ((w1.alloc (.cells #[(Value.slice a0 n0 k0), (Value.slice a1 n1 k1), (Value.slice a2 n2 k2), (Value.slice a3 n3 k3), .int .i64 nb] 59)).alloc (.cells #[(Value.slice a0 n0 k0), (Value.slice a1 n1 k1), (Value.slice a2 n2 k2), (Value.slice a3 n3 k3), .int .i64 nb] 59)).drew.heap[k]? = w1.heap[k]? := fun k hk => (Below.heap_alloc (w1.alloc (.cells #[(Value.slice a0 n0 k0), (Value.slice a1 n1 k1), (Value.slice a2 n2 k2), (Value.slice a3 n3 k3), .int .i64 nb] 59)) _ k (by simp; omega)).trans (Below.heap_alloc w1 _ k hk)
  have hE : ∀ (i : Nat) (c : List Value), es[i]? = some c → ∃ z0 z1 z2 z3, c = [z0, z1, z2, z3, .int .i64 i] ∧ Bears ((w1.alloc (.cells #[(Value.slice a0 n0 k0), (Value.slice a1 n1 k1), (Value.slice a2 n2 k2), (Value.slice a3 n3 k3), .int .i64 nb] 59)).alloc (.cells #[(Value.slice a0 n0 k0), (Value.slice a1 n1 k1), (Value.slice a2 n2 k2), (Value.slice a3 n3 k3), .int .i64 nb] 59)).drew S 5 1 (markB i) (.agg #[z0, z1, z2, z3, .int .i64 i]) i := by
    intro i c hc
    obtain ⟨y0, y1, y2, y3, rfl, hb⟩ := HES.out.2 i c hc
    exact ⟨y0, y1, y2, y3, rfl, hb.same hSb.out fun _ => id⟩
  have hR : Bears ((w1.alloc (.cells #[(Value.slice a0 n0 k0), (Value.slice a1 n1 k1), (Value.slice a2 n2 k2), (Value.slice a3 n3 k3), .int .i64 nb] 59)).alloc (.cells #[(Value.slice a0 n0 k0), (Value.slice a1 n1 k1), (Value.slice a2 n2 k2), (Value.slice a3 n3 k3), .int .i64 nb] 59)).drew (fun k => S k ∨ (Value.slice la n lc).ownBlock = some k ∨ w.heap.size ≤ k) 5 1 (markB nb) (.agg #[(Value.slice a0 n0 k0), (Value.slice a1 n1 k1), (Value.slice a2 n2 k2), (Value.slice a3 n3 k3), .int .i64 nb]) nb := by
    obtain ⟨y0, y1, y2, y3, m0, m1, m2, m3, he, ⟨b0, b1, b2, b3⟩, hb, hs⟩ := HBE.out
    have hlt : ∀ {v : Value} {q : Nat}, Mk w1 5 1 (markB nb) v q → Mk ((w1.alloc (.cells #[(Value.slice a0 n0 k0), (Value.slice a1 n1 k1), (Value.slice a2 n2 k2), (Value.slice a3 n3 k3), .int .i64 nb] 59)).alloc (.cells #[(Value.slice a0 n0 k0), (Value.slice a1 n1 k1), (Value.slice a2 n2 k2), (Value.slice a3 n3 k3), .int .i64 nb] 59)).drew 5 1 (markB nb) v q := fun hv => hv.at_same fun k hk => hbel1 k (World.ownsRow.lt hv k hk).2
    exact ⟨y0, y1, y2, y3, m0, m1, m2, m3, he, ⟨hlt b0, hlt b1, hlt b2, hlt b3⟩, hb, fun k hk => by rcases hs k hk with h | h; exact .inr (.inl h.symm); exact .inr (.inr h)⟩
  have hv4 : ∀ k, (Value.slice xa (nb + 1) xc).ownBlock = some k → (fun k => S k ∨ (Value.slice la n lc).ownBlock = some k ∨ w.heap.size ≤ k) k := by
    intro k hk
    rcases HAT.out with e | e
    · exact .inl (HO3.out k (e.symm.trans hk))
    · rw [e, hz2] at hk; simp only [Option.some.injEq] at hk; exact .inr (.inr (by omega))
  have hSS : ∀ k, S k → (fun k => S k ∨ (Value.slice la n lc).ownBlock = some k ∨ w.heap.size ≤ k) k := fun _ => .inl
  have hkX : ∀ {te e : TypeId} {size nq : Nat} {mark : Nat → List Value} {v : Value}, Ents w S B te e size mark v nq → te ≠ 59 → e ≠ 59 → te ≠ 36 → e ≠ 36 → Ents (w4.setCell ⟨W, 1, none⟩ (.slice xa (nb + 1) xc)) (fun k => (fun k => S k ∨ (Value.slice la n lc).ownBlock = some k ∨ w.heap.size ≤ k) k ∧ k < (w4.setCell ⟨W, 1, none⟩ (.slice xa (nb + 1) xc)).heap.size) B te e size mark v nq :=
    fun he t1 t2 t3 t4 => (((he.same hSb.out hSS).keptBut HK4.out t1 t2).keptBut hks t3 t4).bound
  have hN : Ents (w4.setCell ⟨W, 1, none⟩ (.slice xa (nb + 1) xc)) (fun k => (fun k => S k ∨ (Value.slice la n lc).ownBlock = some k ∨ w.heap.size ≤ k) k ∧ k < (w4.setCell ⟨W, 1, none⟩ (.slice xa (nb + 1) xc)).heap.size) B 59 5 1 markB (.slice xa (nb + 1) xc) (nb + 1) :=
    ((Ents.snoc HES.out.1 hE hR hSS HK4.out (by decide) HOW.out hv4).keptBut hks (by decide) (by decide)).bound
  have hz5 : (w4.setCell ⟨W, 1, none⟩ (.slice xa (nb + 1) xc)).heap.size = w4.heap.size := by simp
  have hgB : ∀ k, (Value.slice la n lc).ownBlock = some k → B ≤ k ∧ k < w.heap.size := HLO.out
  refine ⟨rfl, fun k => (fun k => S k ∨ (Value.slice la n lc).ownBlock = some k ∨ w.heap.size ≤ k) k ∧ k < (w4.setCell ⟨W, 1, none⟩ (.slice xa (nb + 1) xc)).heap.size, ⟨?_, ⟨hSS W HSW.out, by omega⟩, _, _, _, _, _, HBW4.out.set 1 _, hN, hkX HEi.out (by decide) (by decide) (by decide) (by decide), hkX HEe.out (by decide) (by decide) (by decide) (by decide), hkX HEl.out (by decide) (by decide) (by decide) (by decide), hkX HEt.out (by decide) (by decide) (by decide) (by decide)⟩, ?_, ?_, ?_⟩
  · rintro k ⟨hk | hk | hk, hlt⟩
    · exact ⟨(HS.out k hk).1, hlt⟩
    · exact ⟨(hgB k hk).1, hlt⟩
    · exact ⟨by omega, hlt⟩
  · intro k hk
    exact ⟨hSS k hk, by have := (HS.out k hk).2; omega⟩
  · rintro k ⟨hk, _⟩
    exact hk
  · have f1 : Fr (fun k => S k ∨ (Value.slice la n lc).ownBlock = some k) w w1 := Fr.of_grown HG.out fun k hk _ => .inr hk
    have f2 : Fr (fun k => S k ∨ (Value.slice la n lc).ownBlock = some k) w ((w1.alloc (.cells #[(Value.slice a0 n0 k0), (Value.slice a1 n1 k1), (Value.slice a2 n2 k2), (Value.slice a3 n3 k3), .int .i64 nb] 59)).alloc (.cells #[(Value.slice a0 n0 k0), (Value.slice a1 n1 k1), (Value.slice a2 n2 k2), (Value.slice a3 n3 k3), .int .i64 nb] 59)).drew := f1.trans (Y := fun _ => False) ⟨rfl, rfl, rfl, by simp; omega, fun k hk _ => hbel1 k hk⟩ (fun _ _ h => h.elim)
    have f3 : Fr (fun k => S k ∨ (Value.slice la n lc).ownBlock = some k) w w4 := f2.trans (Fr.of_grown (X := S) HGR.out fun k hk _ => HO3.out k hk) (fun _ _ h => .inl h)
    exact f3.trans (Fr.set w4 W 1 _ HSW.out) (fun _ _ h => .inl h)

end Go.Proofs.YthloffgebebijaaGreat
