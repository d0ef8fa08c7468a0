/- OwnI: the walk of tillerlaw.ownInts: all that it begins bears the mark. -/
import Derived.Test.YthloffgebebijaaGreatMark
import Derived.Test.YthloffgebebijaaGreatBookK
import Derived.Deep.RegionLaw
import Derived.Deep.DeepMust
import Derived.Test.YthloffgebebijaaGreatEncW
import Derived.Test.YthloffgebebijaaGreatRefGK
import Derived.Deep.QuietTactic
import Derived.BigQuiet
namespace Go.Proofs.YthloffgebebijaaGreat
open Go.RowKit

theorem fill_I {cur : Array Value} {cap k m : Nat} (hs : cur.size = cap * 1) (hk : k < cap) (h : ∀ j, j < k * 1 → cur[j]? = (markI m)[j % 1]?) :
    ∀ j, j < (k + 1) * 1 → (cur.setIfInBounds (k) (.int .i64 (-1000 - (m : Int))))[j]? = (markI m)[j % 1]? := by
  intro j hj
  simp only [Array.getElem?_setIfInBounds]
  by_cases h0 : j < k * 1
  · rw [if_neg (by omega)]
    exact h j h0
  · obtain rfl : j = k := by omega
    rw [if_pos rfl, if_pos (by omega)]
    simp [markI, Nat.mod_one]

set_option maxRecDepth 100000 in
set_option maxHeartbeats 1600000 in
theorem ownInts_any (v : Value) (n m : Nat) (xs : List Value) (w : World) (h : w.ownsRow 0 3 1 v n xs) (hn : n ≤ 1000000) (hm : m ≤ 1000000000) :
    Calls Tryz.prog 66 #[v, .int .i64 m] w fun e w' => ∃ r, e = .returned r ∧ Bears w' (fun k => some k = v.ownBlock ∨ w.heap.size ≤ k) 3 1 (markI m) r m ∧ w.grownBy w' v.ownBlock := by
  obtain ⟨i0, hi, hz0, hzs, hzb⟩ := info_parts info_int
  have HI := hide (And.intro hi (And.intro hz0 (And.intro hzs hzb))); clear hi hz0 hzs hzb
  have hown := World.ownsRow.lt h
  have HF := hide (Fill.of_owns (cs := markI m) h)
  obtain ⟨a, cap, hv⟩ : ∃ a cap, v = .slice a n cap := by
    rcases h.2 with ⟨rfl, rfl⟩ | ⟨g, cap, cur, rfl, _⟩
    · exact ⟨_, _, rfl⟩
    · exact ⟨_, _, rfl⟩
  subst hv
  have HLT : Hid (∀ k, (Value.slice a n cap).ownBlock = some k → k < w.heap.size) := fun k hk => (hown k hk).2
  have HN0 : Hid (∀ k, w.heap.size ≤ k → (Value.slice a n cap).ownBlock ≠ some k) := fun k hk e => by have := HLT.out k e; omega
  clear h hown
  have HONE : Hid (∀ u ∈ markI m, u.oneCell' = true) := by simp [Hid, markI, Value.oneCell']
  go_enter Tryz.func66, Tryz.ntmps66
  go_wp2_with fail
  go_loopw [6] (fun i wr => ∃ k : Nat, i = .int .i64 k ∧ k ≤ n ∧ Fill wr 3 1 (markI m) (.slice a n cap) n k ∧ w.grownBy wr (Value.slice a n cap).ownBlock ∧ Blk wr w.heap.size #[.slice none 0 0, .slice none 0 0, .slice none 0 0, .slice none 0 0, .int .i64 0] 61) (fun i _ => n - (intOf i).toNat)
  case atStart =>
    have hb : w.grownBy (w.alloc (.cells #[.slice none 0 0, .slice none 0 0, .slice none 0 0, .slice none 0 0, .int .i64 0] 61)) none := grownBy_below ((Below.refl _ _).alloc (Nat.le_refl _) _) _
    exact ⟨0, rfl, Nat.zero_le _, HF.out.kept hb (by cases (Value.slice a n cap).ownBlock <;> simp), ⟨hb.os, hb.tape, hb.output, hb.size, fun k hk _ => hb.block k hk (by simp)⟩, Blk.new _ _ _⟩
  case round =>
    obtain ⟨k, rfl, hk, hf, hg, hR⟩ := hrel
    have hz1 := hR.lt
    have HR := hide hR
    have HG := hide hg
    have HFI := hide hf
    clear hR hg hf
    by_cases hlt : k < n
    · rcases HFI.out with ⟨_, h0⟩ | ⟨g, cap2, cur, he, hb, hnc, hcm, hcs, hmk⟩
      · omega
      obtain ⟨rfl, rfl⟩ : a = some ⟨g, 0, none⟩ ∧ cap = cap2 := by simpa using he
      have hgs := HLT.out g rfl
      have HB := hide hb
      have HMK := hide hmk
      have HCS := hide hcs
      obtain ⟨y0, f0⟩ : ∃ y, wr.cell? ⟨g, k, none⟩ = some y := by rw [hb.cell]; exact ⟨_, Array.getElem?_eq_getElem (by omega)⟩
      have g0 : wr.frozen? ⟨g, k, none⟩ = false := hb.free _
      clear hb hmk hcs he
      go_wp2
      go_roundw
      case rel =>
        refine ⟨k + 1, by go_num, by omega, .inr ⟨g, cap, _, rfl, HB.out.set _ _, hnc, hcm, by simp [HCS.out], fill_I HCS.out (by omega) HMK.out⟩, ?_, ?_⟩
        · exact (grownBy_trans HG.out (grownBy_set _ _ _ _) (.inr (.inl rfl)))
        · exact (HR.out.other (by simp; omega) _)
      case measure => simp [intOf]; omega
    · obtain rfl : k = n := by omega
      have HM := hide (HFI.out.mk rfl)
      clear HFI hlt
      go_wp2_with (at_builtin; go_must (refine wpList_mark _ rfl _ _ 24 rfl 3 i0 (.int .i64 0) 1 8 Tryz.underlying24 HI.out.1 HI.out.2.1 HI.out.2.2.1 HI.out.2.2.2 rfl (by decide) (markI m) rfl HONE.out _ (k) rfl (HM.out.alloc _) _ 1 _ (by decide) rfl (new_cells _ _ _ _ (by simp)) ?_ ?_ ?_))
      · unfold maxLen; omega
      · omega
      intro v1 w1 m1 g1 a1 p1
      have HM1 := hide m1
      have HA1 := hide (Away.next (B := w.heap.size + 1) (r := (Value.slice a k cap).ownBlock) (.inl rfl) a1 (by first | omega | (simp; omega)))
      have HG1 := hide (grownBy_trans (grownBy_trans HG.out (World.grownBy_alloc _ _ none) (.inl rfl)) g1 (.inr (.inl rfl)))
      have HR1 := hide ((HR.out.alloc _).grownRow g1 (HN0.out _ (Nat.le_refl _)))
      have HM0 := hide (p1 _ _ (HM.out.alloc _))
      clear m1 g1 a1 p1 HM HR HG 
      have hz2 := HR1.out.lt
      go_wp2_with (at_builtin; go_must (refine wpList_mark _ rfl _ _ 24 rfl 3 i0 (.int .i64 0) 1 8 Tryz.underlying24 HI.out.1 HI.out.2.1 HI.out.2.2.1 HI.out.2.2.2 rfl (by decide) (markI m) rfl HONE.out _ (k) rfl (HM0.out.alloc _) _ 2 _ (by decide) rfl (new_cells _ _ _ _ (by simp)) ?_ ?_ ?_))
      · unfold maxLen; omega
      · omega
      intro v2 w2 m2 g2 a2 p2
      have HM2 := hide m2
      have HA2 := hide (Away.next (B := w.heap.size + 1) (r := (Value.slice a k cap).ownBlock) (.inl rfl) a2 (by first | omega | (simp; omega)))
      have HG2 := hide (grownBy_trans (grownBy_trans HG1.out (World.grownBy_alloc _ _ none) (.inl rfl)) g2 (.inr (.inl rfl)))
      have HR2 := hide ((HR1.out.alloc _).grownRow g2 (HN0.out _ (Nat.le_refl _)))
      have HM02 := hide (p2 _ _ (HM0.out.alloc _))
      have HM12 := hide (p2 _ _ (HM1.out.alloc _))
      clear m2 g2 a2 p2 HM0 HM1 HR1 HG1 
      obtain ⟨q1, c1, hv1⟩ := HM12.out.slice
      obtain ⟨q2, c2, hv2⟩ := HM2.out.slice
      subst hv1
      subst hv2
      go_wp2_with fail
      go_loopw [9, 10] (fun v3 i wr => ∃ j : Nat, i = .int .i64 j ∧ j ≤ 64 ∧ Mk wr 3 1 (markI m) v3 (k + j) ∧ Away v3 (Value.slice a k cap).ownBlock (w.heap.size + 1) ∧ Mk wr 3 1 (markI m) (.slice a k cap) k ∧ Mk wr 3 1 (markI m) (.slice q1 (k + 1) c1) (k + 1) ∧ Mk wr 3 1 (markI m) (.slice q2 (k + 2) c2) (k + 2) ∧ w.grownBy wr (Value.slice a k cap).ownBlock ∧ Blk wr w.heap.size #[.slice none 0 0, .slice none 0 0, .slice none 0 0, .slice none 0 0, .int .i64 0] 61) (fun _ i _ => 64 - (intOf i).toNat)
      case atStart => exact ⟨0, rfl, by omega, HM02.out, .inl rfl, HM02.out, HM12.out, HM2.out, HG2.out, HR2.out⟩
      case round =>
        obtain ⟨j, rfl, hj, h3, hA3, h0, h1, h2, hg, hR⟩ := hrel
        have hz3 := hR.lt
        have H3 := hide h3; have HA3 := hide hA3; have H0 := hide h0; have H1 := hide h1; have H2 := hide h2; have HG := hide hg; have HR := hide hR
        clear h3 hA3 h0 h1 h2 hg hR  HM02 HM12 HM2 HG2 HR2 
        by_cases hlt : j < 64
        · go_wp2_with (at_builtin; go_must (refine wpList_mark _ rfl _ _ 24 rfl 3 i0 (.int .i64 0) 1 8 Tryz.underlying24 HI.out.1 HI.out.2.1 HI.out.2.2.1 HI.out.2.2.2 rfl (by decide) (markI m) rfl HONE.out _ (k + j) rfl (H3.out.alloc _) _ 1 _ (by decide) rfl (new_cells _ _ _ _ (by simp)) ?_ ?_ ?_))
          · unfold maxLen; omega
          · omega
          intro v4 w4 m4 g4 a4 p4
          have hne : ∀ b, w.heap.size ≤ b → b < w.heap.size + 1 → _root_.Ne (Value.ownBlock _) (some b) := fun b hb1 hb2 => HA3.out.ne (HN0.out b hb1) hb2
          have HM4 := hide m4
          have HA4 := hide (Away.next HA3.out a4 (by first | omega | (simp; omega)))
          have HG4 := hide (Away.frame (grownBy_trans HG.out (World.grownBy_alloc _ _ none) (.inl rfl)) g4 HA3.out (by omega))
          have HR4 := hide ((HR.out.alloc _).grownRow g4 (hne _ (Nat.le_refl _) (by omega)))
          have HP4 := hide p4
          clear m4 g4 a4 p4 hne
          go_wp2
          go_roundw
          case rel => exact ⟨j + 1, by go_num, by omega, HM4.out, HA4.out, HP4.out _ _ (H0.out.alloc _), HP4.out _ _ (H1.out.alloc _), HP4.out _ _ (H2.out.alloc _), HG4.out, HR4.out⟩
          case measure => simp [intOf]; omega
        · obtain rfl : j = 64 := by omega
          obtain ⟨q3, c3, hv3⟩ := H3.out.slice
          subst hv3
          have r0 : wr.cell? ⟨w.heap.size, 0, none⟩ = some (.slice none 0 0) := HR.out.cell 0
          have s0 := HR.out.free 0
          have r1 : wr.cell? ⟨w.heap.size, 1, none⟩ = some (.slice none 0 0) := HR.out.cell 1
          have s1 := HR.out.free 1
          have r2 : wr.cell? ⟨w.heap.size, 2, none⟩ = some (.slice none 0 0) := HR.out.cell 2
          have s2 := HR.out.free 2
          have r3 : wr.cell? ⟨w.heap.size, 3, none⟩ = some (.slice none 0 0) := HR.out.cell 3
          have s3 := HR.out.free 3
          have r4 : wr.cell? ⟨w.heap.size, 4, none⟩ = some (.int .i64 0) := HR.out.cell 4
          have s4 := HR.out.free 4
          repeat (first | go_values | go_skip | go_guarded | go_step | go_upon)
          have HF := (((((HR.out.set 0 (.slice a k cap)).set 1 (.slice q1 (k + 1) c1)).set 2 (.slice q2 (k + 2) c2)).set 3 (.slice q3 (k + 64) c3)).set 4 (.int .i64 m))
          have HF0 := HF.cell 0
          have HF1 := HF.cell 1
          have HF2 := HF.cell 2
          have HF3 := HF.cell 3
          have HF4 := HF.cell 4
          simp at HF0 HF1 HF2 HF3 HF4
          have HK : wr.grownBy (((((wr.setCell ⟨w.heap.size, 0, none⟩ (.slice a k cap)).setCell ⟨w.heap.size, 1, none⟩ (.slice q1 (k + 1) c1)).setCell ⟨w.heap.size, 2, none⟩ (.slice q2 (k + 2) c2)).setCell ⟨w.heap.size, 3, none⟩ (.slice q3 (k + 64) c3)).setCell ⟨w.heap.size, 4, none⟩ (.int .i64 m)) (some w.heap.size) := (grownBy_trans (grownBy_trans (grownBy_trans (grownBy_trans (grownBy_trans (grownBy_refl wr (some w.heap.size)) (grownBy_set _ _ _ _) (.inr (.inl rfl))) (grownBy_set _ _ _ _) (.inr (.inl rfl))) (grownBy_set _ _ _ _) (.inr (.inl rfl))) (grownBy_set _ _ _ _) (.inr (.inl rfl))) (grownBy_set _ _ _ _) (.inr (.inl rfl)))
          have e0 := (H0.out.kept HK (.inr (HN0.out _ (Nat.le_refl _))))
          have e1 := (H1.out.kept HK (.inr (HA1.out.ne (HN0.out _ (Nat.le_refl _)) (by omega))))
          have e2 := (H2.out.kept HK (.inr (HA2.out.ne (HN0.out _ (Nat.le_refl _)) (by omega))))
          have e3 := (H3.out.kept HK (.inr (HA3.out.ne (HN0.out _ (Nat.le_refl _)) (by omega))))
          have hS : ∀ q, ((Value.slice a k cap).ownBlock = some q ∨ (Value.slice q1 (k + 1) c1).ownBlock = some q ∨ (Value.slice q2 (k + 2) c2).ownBlock = some q ∨ (Value.slice q3 (k + 64) c3).ownBlock = some q) → (some q = (Value.slice a k cap).ownBlock ∨ w.heap.size ≤ q) := by
            rintro q (h | h | h | h)
            · exact .inl h.symm
            · rcases HA1.out with h' | ⟨g, h', hg⟩
              · exact .inl (h.symm.trans h')
              · rw [h'] at h; simp only [Option.some.injEq] at h; exact .inr (by omega)
            · rcases HA2.out with h' | ⟨g, h', hg⟩
              · exact .inl (h.symm.trans h')
              · rw [h'] at h; simp only [Option.some.injEq] at h; exact .inr (by omega)
            · rcases HA3.out with h' | ⟨g, h', hg⟩
              · exact .inl (h.symm.trans h')
              · rw [h'] at h; simp only [Option.some.injEq] at h; exact .inr (by omega)
          exact bodyPost_ret (v := .agg #[.slice a k cap, .slice q1 (k + 1) c1, .slice q2 (k + 2) c2, .slice q3 (k + 64) c3, .int .i64 m]) (by simp [results, Tryz.results66, go_sem, HF0, HF1, HF2, HF3, HF4]) rfl ⟨_, rfl, ⟨_, _, _, _, _, _, _, _, rfl, ⟨e0, e1, e2, e3⟩, ⟨by omega, by omega, by omega, by omega⟩, hS⟩, grownBy_trans HG.out HK (.inr (.inr ⟨_, rfl, Nat.le_refl _⟩))⟩

end Go.Proofs.YthloffgebebijaaGreat

/- BkI: the walk of tillerlaw's (*Book).int: the book has one entry more. -/
namespace Go.Proofs.YthloffgebebijaaGreat
open Go.RowKit

theorem info_rI : (Tryz.prog.info? 61).map (fun i => (i.zero, i.size, i.bytes)) = some (some (.agg #[.slice none 0 0, .slice none 0 0, .slice none 0 0, .slice none 0 0, .int .i64 0]), 5, 104) := by kernel_rfl

set_option maxRecDepth 100000 in
set_option maxHeartbeats 1600000 in
theorem bookI_any (S : Nat → Prop) (B W : Nat) (ps : Value) (nb ni ne nl nt : Nat) (l : Value) (n : Nat) (xs : List Value) (w : World) (h : BookAt w S B W ps nb ni ne nl nt) (hB : B ≤ w.heap.size) (ho : w.ownsRow B 3 1 l n xs) (hl : ∀ k, l.ownBlock = some k → ¬ S k) (hn : n ≤ 1000000) (hnn : ni ≤ 1000000000) :
    Calls Tryz.prog 35 #[.pointer (some ⟨W, 1, none⟩), l] w fun e w' => e = .returned (.tuple #[]) ∧ ∃ S', BookAt w' S' B W ps nb (ni + 1) ne nl nt ∧ (∀ k, S k → S' k) ∧ (∀ k, S' k → S k ∨ l.ownBlock = some k ∨ w.heap.size ≤ k) ∧ Fr (fun k => S k ∨ l.ownBlock = some k) w w' := by
  have HBK := hide h
  have hlown := World.ownsRow.lt ho
  obtain ⟨hS, hSW, vb, vi, ve, vl, vt, hW, eb, ei, ee, el, et⟩ := h
  have HW := hide hW
  have hwlt := hW.lt
  have HSW := hide hSW
  have HS := hide hS
  have HL := hide hl
  have HLO := hide hlown
  obtain ⟨i0, hi, hz0, hzs, hzb⟩ := info_parts info_rI
  have HI := hide (And.intro hi (And.intro hz0 (And.intro hzs hzb)))
  have ho0 : w.ownsRow 0 3 1 l n xs := ⟨ho.1, ho.2.imp id fun ⟨g, cap, cur, x1, _, x3⟩ => ⟨g, cap, cur, x1, Nat.zero_le _, x3⟩⟩
  have HOWN := hide (ownInts_any l n ni xs w ho0 hn hnn)
  have c1 : w.cell? ⟨W, 2, none⟩ = some vi := hW.cell 2
  obtain ⟨va, vc, hve⟩ := ei.slice
  obtain ⟨la, lc, hle⟩ : ∃ a c, l = .slice a n c := by
    rcases ho.2 with ⟨rfl, rfl⟩ | ⟨g, cap, cur, rfl, _⟩
    · exact ⟨_, _, rfl⟩
    · exact ⟨_, _, rfl⟩
  subst hle
  have HEb := hide eb; have HEi := hide ei; have HEe := hide ee; have HEl := hide el; have HEt := hide et
  subst hve
  clear eb ei ee el et hS hSW hW hl ho ho0 hlown hi hz0 hzs hzb
  go_enter Tryz.func35, Tryz.ntmps35
  go_wp2_with fail
  refine HOWN.out.mono ?_
  rintro e w1 ⟨r, rfl, hbe, hg⟩
  have HBE := hide hbe
  have HG := hide hg
  obtain ⟨L0, L1, L2, L3, n0, n1, n2, n3, rfl, ⟨b0, b1, b2, b3⟩, -, -⟩ := hbe
  obtain ⟨a0, k0, rfl⟩ := b0.slice
  obtain ⟨a1, k1, rfl⟩ := b1.slice
  obtain ⟨a2, k2, rfl⟩ := b2.slice
  obtain ⟨a3, k3, rfl⟩ := b3.slice
  clear b0 b1 b2 b3
  have hz1 := hg.size
  have hSk : Hid (∀ k, S k → w1.heap[k]? = w.heap[k]?) := fun k hk => HG.out.block k (HS.out k hk).2 (fun e => HL.out k e.symm hk)
  clear hg c1
  have hSa : Hid (∀ k, S k → (w1.alloc (.cells #[(Value.slice a0 n0 k0), (Value.slice a1 n1 k1), (Value.slice a2 n2 k2), (Value.slice a3 n3 k3), .int .i64 ni] 61)).heap[k]? = w.heap[k]?) := fun k hk => (Below.heap_alloc w1 _ k (by have := (HS.out k hk).2; omega)).trans (hSk.out k hk)
  have c1 : w1.cell? ⟨W, 2, none⟩ = some (.slice va ni vc) := (show Blk _ W _ _ from (hSk.out W HSW.out).trans HW.out).cell 2
  have c1f : w1.frozen? ⟨W, 2, none⟩ = false := (show Blk _ W _ _ from (hSk.out W HSW.out).trans HW.out).free 2
  have hwl1 : W < w1.heap.size := by omega
  simp only []
  go_wp2_with fail
  obtain ⟨es, o1, o2, o3, o4⟩ := HEi.out
  have hSb : Hid (∀ k, S k → ((w1.alloc (.cells #[(Value.slice a0 n0 k0), (Value.slice a1 n1 k1), (Value.slice a2 n2 k2), (Value.slice a3 n3 k3), .int .i64 ni] 61)).alloc (.cells #[(Value.slice a0 n0 k0), (Value.slice a1 n1 k1), (Value.slice a2 n2 k2), (Value.slice a3 n3 k3), .int .i64 ni] 61)).drew.heap[k]? = w.heap[k]?) := fun k hk => (Below.heap_alloc (w1.alloc (.cells #[(Value.slice a0 n0 k0), (Value.slice a1 n1 k1), (Value.slice a2 n2 k2), (Value.slice a3 n3 k3), .int .i64 ni] 61)) _ k (by simp; have := (HS.out k hk).2; omega)).trans (hSa.out k hk)
  have HO : Hid (((w1.alloc (.cells #[(Value.slice a0 n0 k0), (Value.slice a1 n1 k1), (Value.slice a2 n2 k2), (Value.slice a3 n3 k3), .int .i64 ni] 61)).alloc (.cells #[(Value.slice a0 n0 k0), (Value.slice a1 n1 k1), (Value.slice a2 n2 k2), (Value.slice a3 n3 k3), .int .i64 ni] 61)).drew.ownsRow B 61 5 (.slice va ni vc) ni es.flatten) := owns_same o1 fun k hk => hSb.out k (o3 k hk)
  have HNEW : Hid (∀ (j : Nat) (u : Value), [(Value.slice a0 n0 k0), (Value.slice a1 n1 k1), (Value.slice a2 n2 k2), (Value.slice a3 n3 k3), Value.int .i64 ni][j]? = some u → ((w1.alloc (.cells #[(Value.slice a0 n0 k0), (Value.slice a1 n1 k1), (Value.slice a2 n2 k2), (Value.slice a3 n3 k3), .int .i64 ni] 61)).alloc (.cells #[(Value.slice a0 n0 k0), (Value.slice a1 n1 k1), (Value.slice a2 n2 k2), (Value.slice a3 n3 k3), .int .i64 ni] 61)).drew.cell? ((⟨w1.heap.size + 1, 0, none⟩ : Addr).add j) = some u) := by
    intro j u hj
    have := new_cells (w1.alloc (.cells #[(Value.slice a0 n0 k0), (Value.slice a1 n1 k1), (Value.slice a2 n2 k2), (Value.slice a3 n3 k3), .int .i64 ni] 61)) [(Value.slice a0 n0 k0), (Value.slice a1 n1 k1), (Value.slice a2 n2 k2), (Value.slice a3 n3 k3), Value.int .i64 ni] 61 (w1.heap.size + 1) (by simp) j u hj
    exact this
  have HONE : Hid (∀ u ∈ [(Value.slice a0 n0 k0), (Value.slice a1 n1 k1), (Value.slice a2 n2 k2), (Value.slice a3 n3 k3), Value.int .i64 ni], u.oneCell' = true) := by
    intro u hu
    simp at hu
    rcases hu with rfl | rfl | rfl | rfl | rfl <;> rfl
  have HES := hide (And.intro o2 o4)
  have HO3 := hide o3
  have HBW : Hid (Blk ((w1.alloc (.cells #[(Value.slice a0 n0 k0), (Value.slice a1 n1 k1), (Value.slice a2 n2 k2), (Value.slice a3 n3 k3), .int .i64 ni] 61)).alloc (.cells #[(Value.slice a0 n0 k0), (Value.slice a1 n1 k1), (Value.slice a2 n2 k2), (Value.slice a3 n3 k3), .int .i64 ni] 61)).drew W #[ps, vb, .slice va ni vc, ve, vl, vt] 36) := (hSb.out W HSW.out).trans HW.out
  clear o1 o2 o3 o4
  apply wp_some3 (fun (xa : Option Addr) (xc : Nat) (w4 : World) => w4.ownsRow B 61 5 (.slice xa (ni + 1) xc) (ni + 1) (es.flatten ++ [(Value.slice a0 n0 k0), (Value.slice a1 n1 k1), (Value.slice a2 n2 k2), (Value.slice a3 n3 k3), Value.int .i64 ni]) ∧ ((w1.alloc (.cells #[(Value.slice a0 n0 k0), (Value.slice a1 n1 k1), (Value.slice a2 n2 k2), (Value.slice a3 n3 k3), .int .i64 ni] 61)).alloc (.cells #[(Value.slice a0 n0 k0), (Value.slice a1 n1 k1), (Value.slice a2 n2 k2), (Value.slice a3 n3 k3), .int .i64 ni] 61)).drew.grownBy w4 (Value.slice va ni vc).ownBlock ∧ ((Value.slice xa (ni + 1) xc).ownBlock = (Value.slice va ni vc).ownBlock ∨ (Value.slice xa (ni + 1) xc).ownBlock = some ((w1.alloc (.cells #[(Value.slice a0 n0 k0), (Value.slice a1 n1 k1), (Value.slice a2 n2 k2), (Value.slice a3 n3 k3), .int .i64 ni] 61)).alloc (.cells #[(Value.slice a0 n0 k0), (Value.slice a1 n1 k1), (Value.slice a2 n2 k2), (Value.slice a3 n3 k3), .int .i64 ni] 61)).drew.heap.size))
  case h =>
    go_region_law (first | (refine step_append_own rfl (.tmp 16) (.tmp 18) 29 rfl B 61 i0 (.agg #[.slice none 0 0, .slice none 0 0, .slice none 0 0, .slice none 0 0, .int .i64 0]) 5 104 Tryz.underlying29 HI.out.1 HI.out.2.1 HI.out.2.2.1 HI.out.2.2.2 rfl (by decide) (.slice va ni vc) ni es.flatten (by simp [Act.eval]) HO.out ⟨w1.heap.size + 1, 0, none⟩ 1 1 [(Value.slice a0 n0 k0), (Value.slice a1 n1 k1), (Value.slice a2 n2 k2), (Value.slice a3 n3 k3), .int .i64 ni] (by simp [Act.eval]) rfl HNEW.out HONE.out (by decide) (by unfold maxLen; omega) (by omega) (by simp; omega) ?_; intro v1 w4 hown hgrow hat; obtain ⟨xa, xc, rfl⟩ : ∃ a c, v1 = .slice a (ni + 1) c := (by rcases hown.2 with ⟨rfl, h0⟩ | ⟨g, cap, cur, rfl, _⟩; exact ⟨none, 0, by rw [h0]⟩; exact ⟨_, _, rfl⟩); have hbw4 := HBW.out.kept (KeepBut.grown hgrow HO.out (Nat.le_refl _)) (by decide); have d1 : w4.cell? ⟨W, 2, none⟩ = some (.slice va ni vc) := hbw4.cell 2; have d1f := hbw4.free 2; have HOW := hide hown; have HGR := hide hgrow; have HAT := hide hat; clear hown hgrow hat hbw4))
    all_goals exact ⟨xa, xc, w4, ⟨HOW.out, HGR.out, HAT.out⟩, rfl, rfl⟩
  rintro xa xc w4 ⟨how, hgr, hat⟩
  have hk4 := KeepBut.grown hgr HO.out (Nat.le_refl _)
  have hbw4 := HBW.out.kept hk4 (by decide)
  have HOW := hide how; have HGR := hide hgr; have HAT := hide hat; have HK4 := hide hk4; have HBW4 := hide hbw4
  clear how hgr hat hk4 hbw4 c1 c1f
  go_wp2
  go_end0
  have hz2 : ((w1.alloc (.cells #[(Value.slice a0 n0 k0), (Value.slice a1 n1 k1), (Value.slice a2 n2 k2), (Value.slice a3 n3 k3), .int .i64 ni] 61)).alloc (.cells #[(Value.slice a0 n0 k0), (Value.slice a1 n1 k1), (Value.slice a2 n2 k2), (Value.slice a3 n3 k3), .int .i64 ni] 61)).drew.heap.size = w1.heap.size + 2 := by simp
  have hz4 := HGR.out.size
  have hSW := HS.out W HSW.out
  have hks : KeepBut 36 B w4 (w4.setCell ⟨W, 2, none⟩ (.slice xa (ni + 1) xc)) := KeepBut.set HBW4.out hSW.1 _
  have hbel1 : ∀ k, k < w1.heap.size → ((w1.alloc (.cells #[(Value.slice a0 n0 k0), (Value.slice a1 n1 k1), (Value.slice a2 n2 k2), (Value.slice a3 n3 k3), .int .i64 ni] 61)).alloc (.cells #[(Value.slice a0 n0 k0), (Value.slice a1 n1 k1), (Value.slice a2 n2 k2), (Value.slice a3 n3 k3), .int .i64 ni] 61)).drew.heap[k]? = w1.heap[k]? := fun k hk => (Below.heap_alloc (w1.alloc (.cells #[(Value.slice a0 n0 k0), (Value.slice a1 n1 k1), (Value.slice a2 n2 k2), (Value.slice a3 n3 k3), .int .i64 ni] 61)) _ k (by simp; omega)).trans (Below.heap_alloc w1 _ k hk)
  have hE : ∀ (i : Nat) (c : List Value), es[i]? = some c → ∃ z0 z1 z2 z3, c = [z0, z1, z2, z3, .int .i64 i] ∧ Bears ((w1.alloc (.cells #[(Value.slice a0 n0 k0), (Value.slice a1 n1 k1), (Value.slice a2 n2 k2), (Value.slice a3 n3 k3), .int .i64 ni] 61)).alloc (.cells #[(Value.slice a0 n0 k0), (Value.slice a1 n1 k1), (Value.slice a2 n2 k2), (Value.slice a3 n3 k3), .int .i64 ni] 61)).drew S 3 1 (markI i) (.agg #[z0, z1, z2, z3, .int .i64 i]) i := by
    intro i c hc
    obtain ⟨y0, y1, y2, y3, rfl, hb⟩ := HES.out.2 i c hc
    exact ⟨y0, y1, y2, y3, rfl, hb.same hSb.out fun _ => id⟩
  have hR : Bears ((w1.alloc (.cells #[(Value.slice a0 n0 k0), (Value.slice a1 n1 k1), (Value.slice a2 n2 k2), (Value.slice a3 n3 k3), .int .i64 ni] 61)).alloc (.cells #[(Value.slice a0 n0 k0), (Value.slice a1 n1 k1), (Value.slice a2 n2 k2), (Value.slice a3 n3 k3), .int .i64 ni] 61)).drew (fun k => S k ∨ (Value.slice la n lc).ownBlock = some k ∨ w.heap.size ≤ k) 3 1 (markI ni) (.agg #[(Value.slice a0 n0 k0), (Value.slice a1 n1 k1), (Value.slice a2 n2 k2), (Value.slice a3 n3 k3), .int .i64 ni]) ni := by
    obtain ⟨y0, y1, y2, y3, m0, m1, m2, m3, he, ⟨b0, b1, b2, b3⟩, hb, hs⟩ := HBE.out
    have hlt : ∀ {v : Value} {q : Nat}, Mk w1 3 1 (markI ni) v q → Mk ((w1.alloc (.cells #[(Value.slice a0 n0 k0), (Value.slice a1 n1 k1), (Value.slice a2 n2 k2), (Value.slice a3 n3 k3), .int .i64 ni] 61)).alloc (.cells #[(Value.slice a0 n0 k0), (Value.slice a1 n1 k1), (Value.slice a2 n2 k2), (Value.slice a3 n3 k3), .int .i64 ni] 61)).drew 3 1 (markI ni) v q := fun hv => hv.at_same fun k hk => hbel1 k (World.ownsRow.lt hv k hk).2
    exact ⟨y0, y1, y2, y3, m0, m1, m2, m3, he, ⟨hlt b0, hlt b1, hlt b2, hlt b3⟩, hb, fun k hk => by rcases hs k hk with h | h; exact .inr (.inl h.symm); exact .inr (.inr h)⟩
  have hv4 : ∀ k, (Value.slice xa (ni + 1) xc).ownBlock = some k → (fun k => S k ∨ (Value.slice la n lc).ownBlock = some k ∨ w.heap.size ≤ k) k := by
    intro k hk
    rcases HAT.out with e | e
    · exact .inl (HO3.out k (e.symm.trans hk))
    · rw [e, hz2] at hk; simp only [Option.some.injEq] at hk; exact .inr (.inr (by omega))
  have hSS : ∀ k, S k → (fun k => S k ∨ (Value.slice la n lc).ownBlock = some k ∨ w.heap.size ≤ k) k := fun _ => .inl
  have hkX : ∀ {te e : TypeId} {size nq : Nat} {mark : Nat → List Value} {v : Value}, Ents w S B te e size mark v nq → te ≠ 61 → e ≠ 61 → te ≠ 36 → e ≠ 36 → Ents (w4.setCell ⟨W, 2, none⟩ (.slice xa (ni + 1) xc)) (fun k => (fun k => S k ∨ (Value.slice la n lc).ownBlock = some k ∨ w.heap.size ≤ k) k ∧ k < (w4.setCell ⟨W, 2, none⟩ (.slice xa (ni + 1) xc)).heap.size) B te e size mark v nq :=
    fun he t1 t2 t3 t4 => (((he.same hSb.out hSS).keptBut HK4.out t1 t2).keptBut hks t3 t4).bound
  have hN : Ents (w4.setCell ⟨W, 2, none⟩ (.slice xa (ni + 1) xc)) (fun k => (fun k => S k ∨ (Value.slice la n lc).ownBlock = some k ∨ w.heap.size ≤ k) k ∧ k < (w4.setCell ⟨W, 2, none⟩ (.slice xa (ni + 1) xc)).heap.size) B 61 3 1 markI (.slice xa (ni + 1) xc) (ni + 1) :=
    ((Ents.snoc HES.out.1 hE hR hSS HK4.out (by decide) HOW.out hv4).keptBut hks (by decide) (by decide)).bound
  have hz5 : (w4.setCell ⟨W, 2, none⟩ (.slice xa (ni + 1) xc)).heap.size = w4.heap.size := by simp
  have hgB : ∀ k, (Value.slice la n lc).ownBlock = some k → B ≤ k ∧ k < w.heap.size := HLO.out
  refine ⟨rfl, fun k => (fun k => S k ∨ (Value.slice la n lc).ownBlock = some k ∨ w.heap.size ≤ k) k ∧ k < (w4.setCell ⟨W, 2, none⟩ (.slice xa (ni + 1) xc)).heap.size, ⟨?_, ⟨hSS W HSW.out, by omega⟩, _, _, _, _, _, HBW4.out.set 2 _, hkX HEb.out (by decide) (by decide) (by decide) (by decide), hN, hkX HEe.out (by decide) (by decide) (by decide) (by decide), hkX HEl.out (by decide) (by decide) (by decide) (by decide), hkX HEt.out (by decide) (by decide) (by decide) (by decide)⟩, ?_, ?_, ?_⟩
  · rintro k ⟨hk | hk | hk, hlt⟩
    · exact ⟨(HS.out k hk).1, hlt⟩
    · exact ⟨(hgB k hk).1, hlt⟩
    · exact ⟨by omega, hlt⟩
  · intro k hk
    exact ⟨hSS k hk, by have := (HS.out k hk).2; omega⟩
  · rintro k ⟨hk, _⟩
    exact hk
  · have f1 : Fr (fun k => S k ∨ (Value.slice la n lc).ownBlock = some k) w w1 := Fr.of_grown HG.out fun k hk _ => .inr hk
    have f2 : Fr (fun k => S k ∨ (Value.slice la n lc).ownBlock = some k) w ((w1.alloc (.cells #[(Value.slice a0 n0 k0), (Value.slice a1 n1 k1), (Value.slice a2 n2 k2), (Value.slice a3 n3 k3), .int .i64 ni] 61)).alloc (.cells #[(Value.slice a0 n0 k0), (Value.slice a1 n1 k1), (Value.slice a2 n2 k2), (Value.slice a3 n3 k3), .int .i64 ni] 61)).drew := f1.trans (Y := fun _ => False) ⟨rfl, rfl, rfl, by simp; omega, fun k hk _ => hbel1 k hk⟩ (fun _ _ h => h.elim)
    have f3 : Fr (fun k => S k ∨ (Value.slice la n lc).ownBlock = some k) w w4 := f2.trans (Fr.of_grown (X := S) HGR.out fun k hk _ => HO3.out k hk) (fun _ _ h => .inl h)
    exact f3.trans (Fr.set w4 W 2 _ HSW.out) (fun _ _ h => .inl h)

end Go.Proofs.YthloffgebebijaaGreat

/- ChkW: the walk of tillerlaw's (*World).check: what the program answers is what the document answers, what was lent is as it was, and the book has two entries more. -/
namespace Go.Proofs.YthloffgebebijaaGreat
open Go.RowKit

/-- What was lent reads as it was, and has room behind it. -/
theorem LentAt.tasksC {w : World} {H T : Nat} {lv : Value} {ts : List Tk} {Ls : List Nat} (h : LentAt w H T lv ts (ts.length + 8) Ls) : TasksC w w.heap.size (.slice (some ⟨T, 0, none⟩) ts.length (ts.length + 8)) ts := by
  have hlen : Ls.length = ts.length := by have := h.len; omega
  refine ⟨_, _, rfl, .inr ⟨T, 0, rfl, h.row.lt, fun i t ht => ?_⟩⟩
  obtain ⟨L, hL⟩ := get_of_lt (l := Ls) (k := i) (by have := lt_of_get ht; omega)
  have hg := flat3_get (List.zipWith lentEnt ts Ls ++ List.replicate (ts.length + 8 - ts.length) spareT ++ List.replicate (ts.length + 8 - (ts.length + 8)) zeroT) i (lentEnt t L) (by
    have hi := lt_of_get ht
    rw [List.append_assoc, List.getElem?_append_left (by rw [zip_len _ _ _ (by omega)]; omega), List.getElem?_zipWith, ht, hL])
  have hc := fun j => h.row.cell (i * 3 + j)
  have hB := h.each i t L ht hL
  refine ⟨?_, ?_, .slice (some ⟨L, 0, none⟩) t.lims.length (t.lims.length + 8), ?_, _, _, rfl, by omega, .inr ⟨L, 0, rfl, hB.lt, fun q l hq => ?_⟩⟩
  · rw [Nat.zero_add]; exact (hc 0).trans (by simpa [lentEnt] using hg.1)
  · rw [Nat.zero_add]; exact (hc 1).trans (by simpa [lentEnt] using hg.2.1)
  · rw [Nat.zero_add]; exact (hc 2).trans (by simpa [lentEnt] using hg.2.2)
  · have := flat2_get (lentLims t) q l (by unfold lentLims; rw [List.getElem?_append_left (lt_of_get hq)]; exact hq)
    rw [Nat.mul_comm] at this
    exact ⟨by rw [Nat.zero_add, hB.cell]; simpa using this.1, by rw [Nat.zero_add, hB.cell]; simpa using this.2⟩

theorem ckBounds_len (c : Cfg) : (ckBounds c).length ≤ 6 := by
  unfold ckBounds
  split
  · rename_i h
    rw [List.length_map]
    exact (CfIn.of h).n2
  · simp

set_option maxRecDepth 100000 in
set_option maxHeartbeats 3200000 in
theorem checkW_true (S : Nat → Prop) (B0 B W : Nat) (ps : Value) (nb ni ne nl nt : Nat) (v : Value) (o : Stp) (w : World) (h : BookAt w S B W ps nb ni ne nl nt) (hB : B ≤ w.heap.size) (hv : Op1 w B0 v o) (hB0 : B0 ≤ w.heap.size) (hok : StpOk o) (hni : ni ≤ 999999999) :
    Calls Tryz.prog 13 #[.pointer (some ⟨W, 0, none⟩), v] w fun e w' => e = .returned (.bool true) ∧ ∃ S', BookAt w' S' B W ps nb (ni + 2) ne nl nt ∧ Below B w w' ∧ Takes w w' S S' := by
  obtain ⟨t, rfl, ht⟩ := hv
  obtain ⟨kind, a, b, c, s, cfg⟩ := o
  obtain ⟨x1, x2, x3, x4, x5, ts⟩ := cfg
  obtain ⟨hs, hl, hl2⟩ := hok
  simp only at ht hs hl hl2 ⊢
  have HBK := hide h
  have HT := hide ht
  obtain ⟨ta, tc, rfl⟩ := ht.slice
  have HL2 := hide hl2
  have HS : Hid (∀ k, S k → B ≤ k ∧ k < w.heap.size) := h.1
  have HSW : Hid (S W) := h.2.1
  have HWB : Hid (B ≤ W) := (h.1 W h.2.1).1
  have HCK := hide (fun (B' : Nat) (v' : Value) (w' : World) (hv' : CfC w' B' v' ⟨x1, x2, x3, x4, x5, ts⟩) (hB' : B' ≤ w'.heap.size) => check_any B' v' ⟨x1, x2, x3, x4, x5, ts⟩ w' hv' hB')
  have HRK := hide (fun (B' : Nat) (v' : Value) (w' : World) (hv' : Cf w' B' v' ⟨x1, x2, x3, x4, x5, ts⟩) (hB' : B' ≤ w'.heap.size) => refCheck_any B' v' ⟨x1, x2, x3, x4, x5, ts⟩ w' hv' hB')
  have hn6 := ckBounds_len ⟨x1, x2, x3, x4, x5, ts⟩
  generalize hbs : ckBounds ⟨x1, x2, x3, x4, x5, ts⟩ = bs at *
  generalize hwh : ckWhat ⟨x1, x2, x3, x4, x5, ts⟩ = wh at *
  generalize hnd : ckNeed ⟨x1, x2, x3, x4, x5, ts⟩ = nd at *
  generalize her : ckErr ⟨x1, x2, x3, x4, x5, ts⟩ = er at *
  generalize hn : bs.length = n at *
  have HN := hide hn
  clear h ht hl2 hbs hwh hnd her hn
  go_enter Tryz.func13, Tryz.ntmps13
  go_wp2_with fail
  have HB1 : Hid (Below w.heap.size w (w.alloc (.cells #[.int .i64 kind, .int .i64 a, .int .i64 b, .int .i64 c, .string s, .int .i64 x1, .int .i64 x2, .int .i64 x3, .int .i64 x4, .int .i64 x5, .slice ta ts.length tc] 43))) := (Below.refl _ _).alloc (Nat.le_refl _) _
  have HCF : Hid (Cf w B0 (.agg #[.int .i64 x1, .int .i64 x2, .int .i64 x3, .int .i64 x4, .int .i64 x5, .slice ta ts.length tc]) ⟨x1, x2, x3, x4, x5, ts⟩) := ⟨_, rfl, HT.out⟩
  refine (lentConfig_any B0 _ ⟨x1, x2, x3, x4, x5, ts⟩ _ (HCF.out.later HB1.out (by omega)) (by simp; omega) hl HL2.out).mono ?_
  rintro e w1 ⟨T, lv, Ls, rfl, hla, hTl, q1⟩
  obtain ⟨lva, lvc, hlv⟩ := owns_slice hla.lims
  subst hlv
  have hzo : (w.alloc (.cells #[.int .i64 kind, .int .i64 a, .int .i64 b, .int .i64 c, .string s, .int .i64 x1, .int .i64 x2, .int .i64 x3, .int .i64 x4, .int .i64 x5, .slice ta ts.length tc] 43)).heap.size = w.heap.size + 1 := by simp
  rw [hzo] at hTl q1 hla
  have HO1 := hide ((Blk.new w #[.int .i64 kind, .int .i64 a, .int .i64 b, .int .i64 c, .string s, .int .i64 x1, .int .i64 x2, .int .i64 x3, .int .i64 x4, .int .i64 x5, .slice ta ts.length tc] 43).later q1 (by simp))
  have HBW1 : Hid (Below w.heap.size w w1) := HB1.out.trans (q1.mono (by omega))
  have hz1 := q1.size
  have HLA1 := hide hla
  have hTw := hla.row.lt
  have HLs : Hid (∀ L ∈ Ls, T < L ∧ L < w1.heap.size) := hla.lt
  clear hla q1
  simp only [] at *
  have HB2 : Hid (Below w1.heap.size w1 ((w1.alloc (.cells #[.int .i64 x1, .int .i64 x2, .int .i64 x3, .int .i64 x4, .int .i64 x5, .slice (some ⟨T, 0, none⟩) ts.length (ts.length + 8)] 40)).alloc (.cells #[.slice (some ⟨T, 0, none⟩) (ts.length + 8) (ts.length + 8), .slice lva Ls.length lvc] 71))) := ((Below.refl _ _).alloc (Nat.le_refl _) _).alloc (by simp) _
  have hz2 : ((w1.alloc (.cells #[.int .i64 x1, .int .i64 x2, .int .i64 x3, .int .i64 x4, .int .i64 x5, .slice (some ⟨T, 0, none⟩) ts.length (ts.length + 8)] 40)).alloc (.cells #[.slice (some ⟨T, 0, none⟩) (ts.length + 8) (ts.length + 8), .slice lva Ls.length lvc] 71)).heap.size = w1.heap.size + 2 := by simp
  have HLA2 := hide (HLA1.out.below HB2.out)
  have HCFL : Hid (CfC ((w1.alloc (.cells #[.int .i64 x1, .int .i64 x2, .int .i64 x3, .int .i64 x4, .int .i64 x5, .slice (some ⟨T, 0, none⟩) ts.length (ts.length + 8)] 40)).alloc (.cells #[.slice (some ⟨T, 0, none⟩) (ts.length + 8) (ts.length + 8), .slice lva Ls.length lvc] 71)) ((w1.alloc (.cells #[.int .i64 x1, .int .i64 x2, .int .i64 x3, .int .i64 x4, .int .i64 x5, .slice (some ⟨T, 0, none⟩) ts.length (ts.length + 8)] 40)).alloc (.cells #[.slice (some ⟨T, 0, none⟩) (ts.length + 8) (ts.length + 8), .slice lva Ls.length lvc] 71)).heap.size (.agg #[.int .i64 x1, .int .i64 x2, .int .i64 x3, .int .i64 x4, .int .i64 x5, .slice (some ⟨T, 0, none⟩) ts.length (ts.length + 8)]) ⟨x1, x2, x3, x4, x5, ts⟩) := ⟨_, rfl, HLA2.out.tasksC⟩
  have HO2 := hide (HO1.out.later HB2.out (by omega))
  have HCB : Hid (Blk ((w1.alloc (.cells #[.int .i64 x1, .int .i64 x2, .int .i64 x3, .int .i64 x4, .int .i64 x5, .slice (some ⟨T, 0, none⟩) ts.length (ts.length + 8)] 40)).alloc (.cells #[.slice (some ⟨T, 0, none⟩) (ts.length + 8) (ts.length + 8), .slice lva Ls.length lvc] 71)) w1.heap.size #[.int .i64 x1, .int .i64 x2, .int .i64 x3, .int .i64 x4, .int .i64 x5, .slice (some ⟨T, 0, none⟩) ts.length (ts.length + 8)] 40) := (Blk.new _ _ _).alloc _
  have HLB : Hid (Blk ((w1.alloc (.cells #[.int .i64 x1, .int .i64 x2, .int .i64 x3, .int .i64 x4, .int .i64 x5, .slice (some ⟨T, 0, none⟩) ts.length (ts.length + 8)] 40)).alloc (.cells #[.slice (some ⟨T, 0, none⟩) (ts.length + 8) (ts.length + 8), .slice lva Ls.length lvc] 71)) (w1.heap.size + 1) #[.slice (some ⟨T, 0, none⟩) (ts.length + 8) (ts.length + 8), .slice lva Ls.length lvc] 71) := by
    have := Blk.new (w1.alloc (.cells #[.int .i64 x1, .int .i64 x2, .int .i64 x3, .int .i64 x4, .int .i64 x5, .slice (some ⟨T, 0, none⟩) ts.length (ts.length + 8)] 40)) #[.slice (some ⟨T, 0, none⟩) (ts.length + 8) (ts.length + 8), .slice lva Ls.length lvc] 71
    simpa [Hid] using this
  go_wp2_with fail
  generalize hW3 : ((w1.alloc (.cells #[.int .i64 x1, .int .i64 x2, .int .i64 x3, .int .i64 x4, .int .i64 x5, .slice (some ⟨T, 0, none⟩) ts.length (ts.length + 8)] 40)).alloc (.cells #[.slice (some ⟨T, 0, none⟩) (ts.length + 8) (ts.length + 8), .slice lva Ls.length lvc] 71)) = W3 at *
  clear hW3
  have hz2' : w1.heap.size + 2 ≤ W3.heap.size := by omega
  clear hz2
  refine (HCK.out _ _ W3 HCFL.out (Nat.le_refl _)).mono ?_
  rintro e w4 ⟨a4, c4, rfl, o4, q4⟩
  have hz4 := q4.size
  have HQ4 : Hid (Below W3.heap.size W3 (w4.alloc (.cells #[.int .i64 wh, .slice a4 n c4, .int .i64 nd] 86))) := q4.alloc (by omega) _
  have HOW4 := hide (World.ownsRow.alloc o4 (.cells #[.int .i64 wh, .slice a4 n c4, .int .i64 nd] 86))
  have HK4 := hide (World.ownsRow.lt o4)
  have HR4 := hide (Blk.new w4 #[.int .i64 wh, .slice a4 n c4, .int .i64 nd] 86)
  have hza4 : w4.heap.size < (w4.alloc (.cells #[.int .i64 wh, .slice a4 n c4, .int .i64 nd] 86)).heap.size := by simp
  have HCB4 := hide (HCB.out.later HQ4.out (by omega))
  have k0 : (w4.alloc (.cells #[.int .i64 wh, .slice a4 n c4, .int .i64 nd] 86)).cell? ⟨w1.heap.size, 0, none⟩ = some (.int .i64 x1) := HCB4.out.cell 0
  have k1 : (w4.alloc (.cells #[.int .i64 wh, .slice a4 n c4, .int .i64 nd] 86)).cell? ⟨w1.heap.size, 1, none⟩ = some (.int .i64 x2) := HCB4.out.cell 1
  have k2 : (w4.alloc (.cells #[.int .i64 wh, .slice a4 n c4, .int .i64 nd] 86)).cell? ⟨w1.heap.size, 2, none⟩ = some (.int .i64 x3) := HCB4.out.cell 2
  have k3 : (w4.alloc (.cells #[.int .i64 wh, .slice a4 n c4, .int .i64 nd] 86)).cell? ⟨w1.heap.size, 3, none⟩ = some (.int .i64 x4) := HCB4.out.cell 3
  have k4 : (w4.alloc (.cells #[.int .i64 wh, .slice a4 n c4, .int .i64 nd] 86)).cell? ⟨w1.heap.size, 4, none⟩ = some (.int .i64 x5) := HCB4.out.cell 4
  have k5 : (w4.alloc (.cells #[.int .i64 wh, .slice a4 n c4, .int .i64 nd] 86)).cell? ⟨w1.heap.size, 5, none⟩ = some (.slice (some ⟨T, 0, none⟩) ts.length (ts.length + 8)) := HCB4.out.cell 5
  have hlw1 : w1.heap.size < w4.heap.size := by omega
  clear o4 q4
  go_wp2_with fail
  generalize hW4 : w4.alloc (.cells #[.int .i64 wh, .slice a4 n c4, .int .i64 nd] 86) = W4 at *
  clear hW4
  refine (HCK.out _ _ W4 (HCFL.out.later HQ4.out (Nat.le_refl _)) (by omega)).mono ?_
  rintro e w5 ⟨a5, c5, rfl, o5, q5⟩
  have hz5 := q5.size
  have HQ5 : Hid (Below W4.heap.size W4 (w5.alloc (.cells #[.int .i64 wh, .slice a5 n c5, .int .i64 nd] 86))) := q5.alloc (by omega) _
  have HOW5 := hide (World.ownsRow.alloc o5 (.cells #[.int .i64 wh, .slice a5 n c5, .int .i64 nd] 86))
  have HK5 := hide (World.ownsRow.lt o5)
  have HR5 := hide (Blk.new w5 #[.int .i64 wh, .slice a5 n c5, .int .i64 nd] 86)
  have hza5 : w5.heap.size < (w5.alloc (.cells #[.int .i64 wh, .slice a5 n c5, .int .i64 nd] 86)).heap.size := by simp
  have HO5 := hide ((HO2.out.later HQ4.out (by omega)).later HQ5.out (by omega))
  have HLB5 := hide ((HLB.out.later HQ4.out (by omega)).later HQ5.out (by omega))
  have HLA5 := hide ((HLA2.out.below HQ4.out).below HQ5.out)
  have HBW5 : Hid (Below w.heap.size w (w5.alloc (.cells #[.int .i64 wh, .slice a5 n c5, .int .i64 nd] 86))) := ((HBW1.out.trans (HB2.out.mono (by omega))).trans (HQ4.out.mono (by omega))).trans (HQ5.out.mono (by omega))
  have HR45 := hide (HR4.out.later HQ5.out (by omega))
  have HOW45 := hide (owns_below HOW4.out HQ5.out)
  clear o5 q5 k0 k1 k2 k3 k4 k5
  have m0 : (w5.alloc (.cells #[.int .i64 wh, .slice a5 n c5, .int .i64 nd] 86)).cell? ⟨w1.heap.size + 1, 0, none⟩ = some (.slice (some ⟨T, 0, none⟩) (ts.length + 8) (ts.length + 8)) := HLB5.out.cell 0
  have m1 : (w5.alloc (.cells #[.int .i64 wh, .slice a5 n c5, .int .i64 nd] 86)).cell? ⟨w1.heap.size + 1, 1, none⟩ = some (.slice lva Ls.length lvc) := HLB5.out.cell 1
  have k5 : (w5.alloc (.cells #[.int .i64 wh, .slice a5 n c5, .int .i64 nd] 86)).cell? ⟨w.heap.size, 5, none⟩ = some (.int .i64 x1) := HO5.out.cell 5
  have k6 : (w5.alloc (.cells #[.int .i64 wh, .slice a5 n c5, .int .i64 nd] 86)).cell? ⟨w.heap.size, 6, none⟩ = some (.int .i64 x2) := HO5.out.cell 6
  have k7 : (w5.alloc (.cells #[.int .i64 wh, .slice a5 n c5, .int .i64 nd] 86)).cell? ⟨w.heap.size, 7, none⟩ = some (.int .i64 x3) := HO5.out.cell 7
  have k8 : (w5.alloc (.cells #[.int .i64 wh, .slice a5 n c5, .int .i64 nd] 86)).cell? ⟨w.heap.size, 8, none⟩ = some (.int .i64 x4) := HO5.out.cell 8
  have k9 : (w5.alloc (.cells #[.int .i64 wh, .slice a5 n c5, .int .i64 nd] 86)).cell? ⟨w.heap.size, 9, none⟩ = some (.int .i64 x5) := HO5.out.cell 9
  have k10 : (w5.alloc (.cells #[.int .i64 wh, .slice a5 n c5, .int .i64 nd] 86)).cell? ⟨w.heap.size, 10, none⟩ = some (.slice ta ts.length tc) := HO5.out.cell 10
  have hlw5 : w1.heap.size + 1 < w5.heap.size := by omega
  have hlw5' : w.heap.size < w5.heap.size := by omega
  go_wp2_with fail
  generalize hW5 : w5.alloc (.cells #[.int .i64 wh, .slice a5 n c5, .int .i64 nd] 86) = W5 at *
  clear hW5
  refine (backConfig_true B0 (w.heap.size + 1) T (.agg #[.int .i64 x1, .int .i64 x2, .int .i64 x3, .int .i64 x4, .int .i64 x5, .slice ta ts.length tc]) (.slice lva Ls.length lvc) ⟨x1, x2, x3, x4, x5, ts⟩ Ls W5 (HCF.out.later HBW5.out (by omega)) (by omega) (by omega) HLA5.out hl HL2.out).mono ?_
  rintro e w6 ⟨rfl, hf6⟩
  have hz6 := hf6.size
  have HBW6 : Hid (Below w.heap.size w w6) := HBW5.out.trans (hf6.below (by omega) (by rintro k (rfl | hk); omega; have := (HLs.out k hk).1; omega))
  have kf : ∀ k, k < W5.heap.size → (k = w.heap.size ∨ w1.heap.size ≤ k) → w6.heap[k]? = W5.heap[k]? := fun k hk hor => hf6.block k hk (by
    rintro (h | h)
    · omega
    · have := HLs.out k h; omega)
  have HO6 : Hid (Blk w6 w.heap.size #[.int .i64 kind, .int .i64 a, .int .i64 b, .int .i64 c, .string s, .int .i64 x1, .int .i64 x2, .int .i64 x3, .int .i64 x4, .int .i64 x5, .slice ta ts.length tc] 43) := (kf _ (by omega) (.inl rfl)).trans HO5.out
  have HR46 : Hid (Blk w6 w4.heap.size #[.int .i64 wh, .slice a4 n c4, .int .i64 nd] 86) := (kf _ (by omega) (.inr (by omega))).trans HR45.out
  have HR56 : Hid (Blk w6 w5.heap.size #[.int .i64 wh, .slice a5 n c5, .int .i64 nd] 86) := (kf _ (by omega) (.inr (by omega))).trans HR5.out
  have HOW46 := hide (owns_same (w' := w6) HOW45.out fun k hk => kf k (by have := HK4.out k hk; omega) (.inr (by have := HK4.out k hk; omega)))
  have HOW56 := hide (owns_same (w' := w6) HOW5.out fun k hk => kf k (by have := HK5.out k hk; omega) (.inr (by have := HK5.out k hk; omega)))
  have n5 : w6.cell? ⟨w.heap.size, 5, none⟩ = some (.int .i64 x1) := HO6.out.cell 5
  have n6 : w6.cell? ⟨w.heap.size, 6, none⟩ = some (.int .i64 x2) := HO6.out.cell 6
  have n7 : w6.cell? ⟨w.heap.size, 7, none⟩ = some (.int .i64 x3) := HO6.out.cell 7
  have n8 : w6.cell? ⟨w.heap.size, 8, none⟩ = some (.int .i64 x4) := HO6.out.cell 8
  have n9 : w6.cell? ⟨w.heap.size, 9, none⟩ = some (.int .i64 x5) := HO6.out.cell 9
  have n10 : w6.cell? ⟨w.heap.size, 10, none⟩ = some (.slice ta ts.length tc) := HO6.out.cell 10
  clear hf6 kf m0 m1 k5 k6 k7 k8 k9 k10
  go_wp2_with fail
  refine (HRK.out B0 (.agg #[.int .i64 x1, .int .i64 x2, .int .i64 x3, .int .i64 x4, .int .i64 x5, .slice ta ts.length tc]) w6 (HCF.out.later HBW6.out (by omega)) (by omega)).mono ?_
  rintro e w7 ⟨a7, c7, rfl, o7, q7⟩
  have hz7 := q7.size
  have HQ7 : Hid (Below w6.heap.size w6 (w7.alloc (.cells #[.int .i64 wh, .slice a7 n c7, .int .i64 nd] 86))) := q7.alloc (by omega) _
  have HOW7 := hide (World.ownsRow.alloc o7 (.cells #[.int .i64 wh, .slice a7 n c7, .int .i64 nd] 86))
  have HR77 := hide (Blk.new w7 #[.int .i64 wh, .slice a7 n c7, .int .i64 nd] 86)
  have HR47 := hide (HR46.out.later HQ7.out (by omega))
  have HR57 := hide (HR56.out.later HQ7.out (by omega))
  have HOW47 := hide (owns_below HOW46.out HQ7.out)
  have HOW57 := hide (owns_below HOW56.out HQ7.out)
  have HBW7 : Hid (Below w.heap.size w (w7.alloc (.cells #[.int .i64 wh, .slice a7 n c7, .int .i64 nd] 86))) := HBW6.out.trans (HQ7.out.mono (by omega))
  have hza7 : w7.heap.size < (w7.alloc (.cells #[.int .i64 wh, .slice a7 n c7, .int .i64 nd] 86)).heap.size := by simp
  clear o7 q7 n5 n6 n7 n8 n9 n10
  have r40 : (w7.alloc (.cells #[.int .i64 wh, .slice a7 n c7, .int .i64 nd] 86)).cell? ⟨w4.heap.size, 0, none⟩ = some (.int .i64 wh) := HR47.out.cell 0
  have r41 : (w7.alloc (.cells #[.int .i64 wh, .slice a7 n c7, .int .i64 nd] 86)).cell? ⟨w4.heap.size, 1, none⟩ = some (.slice a4 n c4) := HR47.out.cell 1
  have r42 : (w7.alloc (.cells #[.int .i64 wh, .slice a7 n c7, .int .i64 nd] 86)).cell? ⟨w4.heap.size, 2, none⟩ = some (.int .i64 nd) := HR47.out.cell 2
  have r50 : (w7.alloc (.cells #[.int .i64 wh, .slice a7 n c7, .int .i64 nd] 86)).cell? ⟨w5.heap.size, 0, none⟩ = some (.int .i64 wh) := HR57.out.cell 0
  have r51 : (w7.alloc (.cells #[.int .i64 wh, .slice a7 n c7, .int .i64 nd] 86)).cell? ⟨w5.heap.size, 1, none⟩ = some (.slice a5 n c5) := HR57.out.cell 1
  have r52 : (w7.alloc (.cells #[.int .i64 wh, .slice a7 n c7, .int .i64 nd] 86)).cell? ⟨w5.heap.size, 2, none⟩ = some (.int .i64 nd) := HR57.out.cell 2
  have hl47 : w4.heap.size < w7.heap.size := by omega
  have hl57 : w5.heap.size < w7.heap.size := by omega
  go_wp2_with fail
  generalize hW7 : w7.alloc (.cells #[.int .i64 wh, .slice a7 n c7, .int .i64 nd] 86) = W7 at *
  clear hW7 r40 r41 r42 r50 r51 r52
  go_loopw [11, 14] (fun k i wr => ∃ q : Nat, i = .int .i64 q ∧ q ≤ n ∧ k = .bool true ∧ Below W7.heap.size W7 wr) (fun _ i _ => n - (intOf i).toNat)
  case atStart => exact ⟨0, rfl, Nat.zero_le _, by first | rfl | simp, Below.refl _ _⟩
  case round =>
    obtain ⟨q, rfl, hq, rfl, hbe⟩ := hrel
    have HBE := hide hbe
    have hsz := hbe.size
    have r41 : wr.cell? ⟨w4.heap.size, 1, none⟩ = some (.slice a4 n c4) := (HR47.out.later hbe (by omega)).cell 1
    have r51 : wr.cell? ⟨w5.heap.size, 1, none⟩ = some (.slice a5 n c5) := (HR57.out.later hbe (by omega)).cell 1
    have r71 : wr.cell? ⟨w7.heap.size, 1, none⟩ = some (.slice a7 n c7) := (HR77.out.later hbe (by omega)).cell 1
    by_cases hlt : q < n
    · obtain ⟨x, hx⟩ := get_of_lt (l := bs) (k := q) (by rw [HN.out]; exact hlt)
      have hxv : (intsV bs)[q]? = some (.int .i64 x) := by rw [intsV, List.getElem?_map, hx]; rfl
      obtain ⟨g4, _, e4, _, hg4, y4, _⟩ := owns_cell1 (owns_below HOW47.out hbe) hxv
      obtain ⟨g5, _, e5, _, hg5, y5, _⟩ := owns_cell1 (owns_below HOW57.out hbe) hxv
      obtain ⟨g7, _, e7, _, hg7, y7, _⟩ := owns_cell1 (owns_below HOW7.out hbe) hxv
      cases e4
      cases e5
      cases e7
      have hqi : (q : Int) < (n : Int) := by omega
      have hd : decide (x = x) = true := by simp
      clear hbe hx hxv
      go_wp2_with fail
      go_quiet ((fail))
      go_wp2
      go_roundw
      case rel => exact ⟨q + 1, by go_num, by omega, by first | rfl | simp, Below.drewN HBE.out _⟩
      case measure => simp [intOf]; omega
    · have hqi : ¬ (q : Int) < (n : Int) := by omega
      have HR4r := hide (HR47.out.later hbe (by omega))
      have HR5r := hide (HR57.out.later hbe (by omega))
      have HOW4r := hide (owns_below HOW47.out hbe)
      have HOW5r := hide (owns_below HOW57.out hbe)
      have HBWr : Hid (Below w.heap.size w wr) := HBW7.out.trans (HBE.out.mono (by omega))
      have HBK8 : Hid (BookAt wr.drew S B W ps nb ni ne nl nt) := HBK.out.same (w' := wr.drew) (fun k hk => HBWr.out.block k (HS.out k hk).2) (show w.heap.size ≤ wr.heap.size by omega)
      have HT1 := hide (bookI_any S B W ps nb ni ne nl nt (.slice a4 n c4) n (intsV bs) wr.drew HBK8.out (show B ≤ wr.heap.size by omega) (show wr.ownsRow B 3 1 (.slice a4 n c4) n (intsV bs) from owns_lower HOW4r.out (by omega)) (fun k hk hs => by have h1 := (HS.out k hs).2; have h2 := HK4.out k hk; omega) (by omega) (by omega))
      clear hbe
      go_wp2_with fail
      apply wp_someW (fun (w8 : World) => ∃ S', BookAt w8 S' B W ps nb (ni + 1) ne nl nt ∧ (∀ k, S k → S' k) ∧ (∀ k, S' k → S k ∨ (Value.slice a4 n c4).ownBlock = some k ∨ wr.heap.size ≤ k) ∧ Fr (fun k => S k ∨ (Value.slice a4 n c4).ownBlock = some k) wr w8)
      case h =>
        go_region_with (go_at_call 35; refine HT1.out.mono ?_; rintro e w8 ⟨rfl, hpost⟩; have HP := hide hpost; clear hpost)
        all_goals
          obtain ⟨S', p1, p2, p3, p4⟩ := HP.out
          exact ⟨w8, ⟨S', p1, p2, p3, ⟨p4.os, p4.tape, p4.output, p4.size, p4.block⟩⟩, rfl, rfl⟩
      rintro w8 ⟨S2, p1, p2, p3, p4⟩
      have hz8 := p4.size
      have HF8 := hide p4
      have HBK9 : Hid (BookAt w8.drew S2 B W ps nb (ni + 1) ne nl nt) := p1.same (w' := w8.drew) (fun _ _ => rfl) (Nat.le_refl _)
      have HS2 : Hid (∀ k, S2 k → B ≤ k ∧ k < w8.heap.size) := p1.1
      have HP3 := hide p3
      have HP2 := hide p2
      have kf : ∀ k, W4.heap.size ≤ k → k < wr.heap.size → w8.heap[k]? = wr.heap[k]? := fun k h0 hk => HF8.out.block k hk (by
        rintro (h | h)
        · have := (HS.out k h).2; omega
        · have := (HK4.out k h).2; omega)
      have HR58 : Hid (Blk w8 w5.heap.size #[.int .i64 wh, .slice a5 n c5, .int .i64 nd] 86) := (kf _ (by omega) (by omega)).trans HR5r.out
      have HOW58 := hide (owns_same (w' := w8) HOW5r.out fun k hk => kf k (HK5.out k hk).1 (by have := (HK5.out k hk).2; omega))
      have HBW8 : Hid (Below B w w8) := (HBWr.out.mono hB).trans (p4.below (by omega) (by
        rintro k (hk | hk)
        · exact (HS.out k hk).1
        · have := (HK4.out k hk).1; omega))
      have HNS : Hid (∀ k, W4.heap.size ≤ k → k < w5.heap.size → ¬ S2 k) := by
        intro k h1 h2 hs
        rcases HP3.out k hs with h | h | h
        · have := (HS.out k h).2; omega
        · have := (HK4.out k h).2; omega
        · omega
      have HT2 := hide (bookI_any S2 B W ps nb (ni + 1) ne nl nt (.slice a5 n c5) n (intsV bs) w8.drew HBK9.out (show B ≤ w8.heap.size by omega) (show w8.ownsRow B 3 1 (.slice a5 n c5) n (intsV bs) from owns_lower HOW58.out (by omega)) (fun k hk => HNS.out k (HK5.out k hk).1 (HK5.out k hk).2) (by omega) (by omega))
      have r58 : w8.cell? ⟨w5.heap.size, 1, none⟩ = some (.slice a5 n c5) := HR58.out.cell 1
      have hl58 : w5.heap.size < w8.heap.size := by omega
      clear p1 p2 p3 p4 kf r41 r51 r71
      go_wp2_with fail
      apply wp_someW (fun (w9 : World) => ∃ S', BookAt w9 S' B W ps nb (ni + 1 + 1) ne nl nt ∧ (∀ k, S2 k → S' k) ∧ (∀ k, S' k → S2 k ∨ (Value.slice a5 n c5).ownBlock = some k ∨ w8.heap.size ≤ k) ∧ Fr (fun k => S2 k ∨ (Value.slice a5 n c5).ownBlock = some k) w8 w9)
      case h =>
        go_region_with (go_at_call 35; refine HT2.out.mono ?_; rintro e w9 ⟨rfl, hpost⟩; have HP := hide hpost; clear hpost)
        all_goals
          obtain ⟨S', p1, p2, p3, p4⟩ := HP.out
          exact ⟨w9, ⟨S', p1, p2, p3, ⟨p4.os, p4.tape, p4.output, p4.size, p4.block⟩⟩, rfl, rfl⟩
      rintro w9 ⟨S3, p1, p2, p3, p4⟩
      have HBK3 := hide p1
      have HBW9 : Hid (Below B w w9) := HBW8.out.trans (p4.below (by omega) (by
        rintro k (hk | hk)
        · exact (HS2.out k hk).1
        · have := (HK5.out k hk).1; omega))
      have HTK : Hid (Takes w w9 S S3) := by
        have hzr := HBWr.out.size
        refine ⟨fun k e => p2 k (HP2.out k e), fun k e => ?_, ((Fr.of_below HBWr.out).trans HF8.out fun k hk e => e.elim id fun e => by have := (HK4.out k e).1; omega).trans p4 fun k hk e => ?_⟩
        · rcases p3 k e with e | e | e
          · rcases HP3.out k e with e | e | e
            · exact .inl e
            · exact .inr (by have := (HK4.out k e).1; omega)
            · exact .inr (by omega)
          · exact .inr (by have := (HK5.out k e).1; omega)
          · exact .inr (by omega)
        · rcases e with e | e
          · rcases HP3.out k e with e | e | e
            · exact e
            · have := (HK4.out k e).1; omega
            · omega
          · have := (HK5.out k e).1; omega
      clear p1 p2 p3 p4
      go_wp2
      go_ret
      exact ⟨rfl, S3, HBK3.out, HBW9.out, HTK.out⟩

end Go.Proofs.YthloffgebebijaaGreat
