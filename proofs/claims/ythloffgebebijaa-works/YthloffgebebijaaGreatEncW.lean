/- EncW: the walk of tillerlaw's (*World).encode: what the program answers is what the document answers, what was lent is as it was, and the book has an entry more. -/
import Derived.Test.YthloffgebebijaaGreatLentK
import Derived.Test.YthloffgebebijaaGreatBackC
import Derived.Test.YthloffgebebijaaGreatOwnK
import Derived.Test.YthloffgebebijaaGreatRefK
import Derived.Test.YthloffgebebijaaGreatStrK
import Derived.Test.YthloffgebebijaaGreatMath
namespace Go.Proofs.YthloffgebebijaaGreat
open Go.RowKit

/-- A step of a script. -/
structure Stp where
  kind : Int
  a : Int
  b : Int
  c : Int
  s : ByteArray
  cfg : Cfg

/-- The value reads as the step. -/
def Op1 (w : World) (B : Nat) (v : Value) (o : Stp) : Prop :=
  ∃ t, v = .agg #[.int .i64 o.kind, .int .i64 o.a, .int .i64 o.b, .int .i64 o.c, .string o.s, .int .i64 o.cfg.lines, .int .i64 o.cfg.room, .int .i64 o.cfg.poll, .int .i64 o.cfg.idle, .int .i64 o.cfg.sw, t] ∧ Tasks w B t o.cfg.tasks

/-- The book takes new blocks alone, and turns none but its own. -/
def Takes (w w' : World) (S S' : Nat → Prop) : Prop := (∀ k, S k → S' k) ∧ (∀ k, S' k → S k ∨ w.heap.size ≤ k) ∧ Fr S w w'

def StpOk (o : Stp) : Prop := o.s.size ≤ 10000000 ∧ o.cfg.tasks.length ≤ 10000000 ∧ ∀ t ∈ o.cfg.tasks, t.lims.length ≤ 10000000
/-- As great as a step may be at all. -/
def StpW (o : Stp) : Prop := o.s.size ≤ 140737488351232 ∧ o.cfg.tasks.length ≤ 3518437208780 ∧ ∀ t ∈ o.cfg.tasks, t.lims.length ≤ 8796093021952
theorem StpOk.wide {o : Stp} (h : StpOk o) : StpW o := ⟨Nat.le_trans h.1 (by decide), Nat.le_trans h.2.1 (by decide), fun t ht => Nat.le_trans (h.2.2 t ht) (by decide)⟩

set_option maxRecDepth 100000 in
set_option maxHeartbeats 3200000 in
theorem encodeW_true (S : Nat → Prop) (B0 B W : Nat) (ps : Value) (nb ni ne nl nt : Nat) (v : Value) (o : Stp) (w : World) (h : BookAt w S B W ps nb ni ne nl nt) (hB : B ≤ w.heap.size) (hv : Op1 w B0 v o) (hB0 : B0 ≤ w.heap.size) (hok : StpOk o) (hnb : nb ≤ 1000000000) :
    Calls Tryz.prog 11 #[.pointer (some ⟨W, 0, none⟩), v] w fun e w' => e = .returned (.bool true) ∧ ∃ S', BookAt w' S' B W ps (nb + 1) ni ne nl nt ∧ Below B w w' ∧ Takes w w' S S' := by
  obtain ⟨t, rfl, ht⟩ := hv
  obtain ⟨kind, a, b, c, s, cfg⟩ := o
  obtain ⟨x1, x2, x3, x4, x5, ts⟩ := cfg
  obtain ⟨hs, hl, hl2⟩ := hok
  simp only at ht hs hl hl2 ⊢
  have HBK := hide h
  have HT := hide ht
  obtain ⟨ta, tc, rfl⟩ := ht.slice
  have HL2 := hide hl2
  have HS : Hid (∀ k, S k → B ≤ k ∧ k < w.heap.size) := h.1
  have HSW : Hid (S W) := h.2.1
  have HWB : Hid (B ≤ W) := (h.1 W h.2.1).1
  clear h ht hl2
  go_enter Tryz.func11, Tryz.ntmps11
  go_wp2_with fail
  have HB1 : Hid (Below w.heap.size w (w.alloc (.cells #[.int .i64 kind, .int .i64 a, .int .i64 b, .int .i64 c, .string s, .int .i64 x1, .int .i64 x2, .int .i64 x3, .int .i64 x4, .int .i64 x5, .slice ta ts.length tc] 43))) := (Below.refl _ _).alloc (Nat.le_refl _) _
  have HCF : Hid (Cf w B0 (.agg #[.int .i64 x1, .int .i64 x2, .int .i64 x3, .int .i64 x4, .int .i64 x5, .slice ta ts.length tc]) ⟨x1, x2, x3, x4, x5, ts⟩) := ⟨_, rfl, HT.out⟩
  refine (lentConfig_any B0 _ ⟨x1, x2, x3, x4, x5, ts⟩ _ (HCF.out.later HB1.out (by omega)) (by simp; omega) (Nat.le_trans hl (by decide)) fun t ht => Nat.le_trans (HL2.out t ht) (by decide)).mono ?_
  rintro e w1 ⟨T, lv, Ls, rfl, hla, hTl, q1⟩
  obtain ⟨lva, lvc, hlv⟩ := owns_slice hla.lims
  subst hlv
  have hzo : (w.alloc (.cells #[.int .i64 kind, .int .i64 a, .int .i64 b, .int .i64 c, .string s, .int .i64 x1, .int .i64 x2, .int .i64 x3, .int .i64 x4, .int .i64 x5, .slice ta ts.length tc] 43)).heap.size = w.heap.size + 1 := by simp
  rw [hzo] at hTl q1 hla
  have HO1 := hide ((Blk.new w #[.int .i64 kind, .int .i64 a, .int .i64 b, .int .i64 c, .string s, .int .i64 x1, .int .i64 x2, .int .i64 x3, .int .i64 x4, .int .i64 x5, .slice ta ts.length tc] 43).later q1 (by simp))
  have HBW1 : Hid (Below w.heap.size w w1) := HB1.out.trans (q1.mono (by omega))
  have hz1 := q1.size
  have HLA1 := hide hla
  have hTw := hla.row.lt
  have HLs : Hid (∀ L ∈ Ls, T < L ∧ L < w1.heap.size) := hla.lt
  clear hla q1
  simp only [] at *
  have HB2 : Hid (Below w1.heap.size w1 ((w1.alloc (.cells #[.int .i64 x1, .int .i64 x2, .int .i64 x3, .int .i64 x4, .int .i64 x5, .slice (some ⟨T, 0, none⟩) ts.length (ts.length + 8)] 40)).alloc (.cells #[.slice (some ⟨T, 0, none⟩) (ts.length + 8) (ts.length + 8), .slice lva Ls.length lvc] 71))) := ((Below.refl _ _).alloc (Nat.le_refl _) _).alloc (by simp) _
  have hz2 : ((w1.alloc (.cells #[.int .i64 x1, .int .i64 x2, .int .i64 x3, .int .i64 x4, .int .i64 x5, .slice (some ⟨T, 0, none⟩) ts.length (ts.length + 8)] 40)).alloc (.cells #[.slice (some ⟨T, 0, none⟩) (ts.length + 8) (ts.length + 8), .slice lva Ls.length lvc] 71)).heap.size = w1.heap.size + 2 := by simp
  have HLA2 := hide (HLA1.out.below HB2.out)
  have HCFL : Hid (Cf ((w1.alloc (.cells #[.int .i64 x1, .int .i64 x2, .int .i64 x3, .int .i64 x4, .int .i64 x5, .slice (some ⟨T, 0, none⟩) ts.length (ts.length + 8)] 40)).alloc (.cells #[.slice (some ⟨T, 0, none⟩) (ts.length + 8) (ts.length + 8), .slice lva Ls.length lvc] 71)) ((w1.alloc (.cells #[.int .i64 x1, .int .i64 x2, .int .i64 x3, .int .i64 x4, .int .i64 x5, .slice (some ⟨T, 0, none⟩) ts.length (ts.length + 8)] 40)).alloc (.cells #[.slice (some ⟨T, 0, none⟩) (ts.length + 8) (ts.length + 8), .slice lva Ls.length lvc] 71)).heap.size (.agg #[.int .i64 x1, .int .i64 x2, .int .i64 x3, .int .i64 x4, .int .i64 x5, .slice (some ⟨T, 0, none⟩) ts.length (ts.length + 8)]) ⟨x1, x2, x3, x4, x5, ts⟩) := ⟨_, rfl, HLA2.out.tasks⟩
  have HO2 := hide (HO1.out.later HB2.out (by omega))
  have HLB : Hid (Blk ((w1.alloc (.cells #[.int .i64 x1, .int .i64 x2, .int .i64 x3, .int .i64 x4, .int .i64 x5, .slice (some ⟨T, 0, none⟩) ts.length (ts.length + 8)] 40)).alloc (.cells #[.slice (some ⟨T, 0, none⟩) (ts.length + 8) (ts.length + 8), .slice lva Ls.length lvc] 71)) (w1.heap.size + 1) #[.slice (some ⟨T, 0, none⟩) (ts.length + 8) (ts.length + 8), .slice lva Ls.length lvc] 71) := by
    have := Blk.new (w1.alloc (.cells #[.int .i64 x1, .int .i64 x2, .int .i64 x3, .int .i64 x4, .int .i64 x5, .slice (some ⟨T, 0, none⟩) ts.length (ts.length + 8)] 40)) #[.slice (some ⟨T, 0, none⟩) (ts.length + 8) (ts.length + 8), .slice lva Ls.length lvc] 71
    simpa [Hid] using this
  go_wp2_with fail
  generalize hW3 : ((w1.alloc (.cells #[.int .i64 x1, .int .i64 x2, .int .i64 x3, .int .i64 x4, .int .i64 x5, .slice (some ⟨T, 0, none⟩) ts.length (ts.length + 8)] 40)).alloc (.cells #[.slice (some ⟨T, 0, none⟩) (ts.length + 8) (ts.length + 8), .slice lva Ls.length lvc] 71)) = W3 at *
  clear hW3
  by_cases hok : cfgOk ⟨x1, x2, x3, x4, x5, ts⟩ = true
  · refine (encode_yes _ _ ⟨x1, x2, x3, x4, x5, ts⟩ W3 HCFL.out (Nat.le_refl _) hok).mono ?_
    rintro e w4 ⟨bv, rfl, o4, q4⟩
    have OB4 := hide o4
    have HO4 := hide (HO2.out.later q4 (by omega))
    have HLB4 := hide (HLB.out.later q4 (by omega))
    have HLA4 := hide (HLA2.out.below q4)
    have HBW4 : Hid (Below w.heap.size w w4) := (HBW1.out.trans (HB2.out.mono (by omega))).trans (q4.mono (by omega))
    have hz4 := q4.size
    have m0 : w4.cell? ⟨w1.heap.size + 1, 0, none⟩ = some (.slice (some ⟨T, 0, none⟩) (ts.length + 8) (ts.length + 8)) := HLB4.out.cell 0
    have m1 : w4.cell? ⟨w1.heap.size + 1, 1, none⟩ = some (.slice lva Ls.length lvc) := HLB4.out.cell 1
    have k5 : w4.cell? ⟨w.heap.size, 5, none⟩ = some (.int .i64 x1) := HO4.out.cell 5
    have k6 : w4.cell? ⟨w.heap.size, 6, none⟩ = some (.int .i64 x2) := HO4.out.cell 6
    have k7 : w4.cell? ⟨w.heap.size, 7, none⟩ = some (.int .i64 x3) := HO4.out.cell 7
    have k8 : w4.cell? ⟨w.heap.size, 8, none⟩ = some (.int .i64 x4) := HO4.out.cell 8
    have k9 : w4.cell? ⟨w.heap.size, 9, none⟩ = some (.int .i64 x5) := HO4.out.cell 9
    have k10 : w4.cell? ⟨w.heap.size, 10, none⟩ = some (.slice ta ts.length tc) := HO4.out.cell 10
    clear q4
    go_wp2_with fail
    refine (backConfig_true B0 (w.heap.size + 1) T (.agg #[.int .i64 x1, .int .i64 x2, .int .i64 x3, .int .i64 x4, .int .i64 x5, .slice ta ts.length tc]) (.slice lva Ls.length lvc) ⟨x1, x2, x3, x4, x5, ts⟩ Ls w4 (HCF.out.later HBW4.out (by omega)) (by omega) (by omega) HLA4.out (Nat.le_trans hl (by decide)) fun t ht => Nat.le_trans (HL2.out t ht) (by decide)).mono ?_
    rintro e w5 ⟨rfl, hf5⟩
    have HF5 := hide hf5
    have hz5 := hf5.size
    have HBW5 : Hid (Below w.heap.size w w5) := HBW4.out.trans (hf5.below (by omega) (by rintro k (rfl | hk); omega; have := (HLs.out k hk).1; omega))
    have O5 : Blk w5 w.heap.size #[.int .i64 kind, .int .i64 a, .int .i64 b, .int .i64 c, .string s, .int .i64 x1, .int .i64 x2, .int .i64 x3, .int .i64 x4, .int .i64 x5, .slice ta ts.length tc] 43 := (hf5.block _ (by omega) (by rintro (h | h); omega; have := (HLs.out _ h).1; omega)).trans HO4.out
    have n5 : w5.cell? ⟨w.heap.size, 5, none⟩ = some (.int .i64 x1) := O5.cell 5
    have n6 : w5.cell? ⟨w.heap.size, 6, none⟩ = some (.int .i64 x2) := O5.cell 6
    have n7 : w5.cell? ⟨w.heap.size, 7, none⟩ = some (.int .i64 x3) := O5.cell 7
    have n8 : w5.cell? ⟨w.heap.size, 8, none⟩ = some (.int .i64 x4) := O5.cell 8
    have n9 : w5.cell? ⟨w.heap.size, 9, none⟩ = some (.int .i64 x5) := O5.cell 9
    have n10 : w5.cell? ⟨w.heap.size, 10, none⟩ = some (.slice ta ts.length tc) := O5.cell 10
    clear hf5 m0 m1 k5 k6 k7 k8 k9 k10 O5
    go_wp2_with fail
    refine (refEncode_yes B0 (.agg #[.int .i64 x1, .int .i64 x2, .int .i64 x3, .int .i64 x4, .int .i64 x5, .slice ta ts.length tc]) ⟨x1, x2, x3, x4, x5, ts⟩ w5 (HCF.out.later HBW5.out (by omega)) (by omega) hok).mono ?_
    rintro e w6 ⟨dv, rfl, o6, q6⟩
    have hz6 := q6.size
    have HBW6 : Hid (Below w.heap.size w w6) := HBW5.out.trans (q6.mono (by omega))
    have OB6 : Own8 w6 W3.heap.size 5 bv (cfgBytes ⟨x1, x2, x3, x4, x5, ts⟩) := by
      have h5 : Own8 w5 W3.heap.size 5 bv (cfgBytes ⟨x1, x2, x3, x4, x5, ts⟩) := owns_same OB4.out fun k hk => HF5.out.block k (World.ownsRow.lt OB4.out k hk).2 (by
        have := (World.ownsRow.lt OB4.out k hk).1
        rintro (h | h)
        · omega
        · have := (HLs.out k h).2; omega)
      exact h5.below q6
    have HOB := hide OB6
    have HBY := hide (cfgBytes_len hok)
    have cv1 := conv_rd8 OB6.rd
    have cv2 := conv_rd8 o6.rd
    obtain ⟨ba, bc, hbv⟩ := OB6.slice
    obtain ⟨da, dc, hdv⟩ := o6.slice
    subst hbv
    subst hdv
    clear o6 q6 OB6 n5 n6 n7 n8 n9 n10
    generalize hL5 : (cfgBytes ⟨x1, x2, x3, x4, x5, ts⟩).length = L5 at *
    generalize hst : strOfNums (cfgBytes ⟨x1, x2, x3, x4, x5, ts⟩) = st at *
    have HL5 := hide hL5
    clear hL5 hst
    go_wp2_with fail
    have hbk := HBK.out.same (w' := w6) (fun k hk => HBW6.out.block k (HS.out k hk).2) (by omega)
    have hown : w6.ownsRow B 5 1 (.slice ba L5 bc) L5 ((cfgBytes ⟨x1, x2, x3, x4, x5, ts⟩).map (Value.int .u8)) := by
      have := HOB.out
      unfold Own8 at this
      rw [HL5.out] at this
      exact owns_lower this (by omega)
    refine (bookB_any S B W ps nb ni ne nl nt _ L5 _ w6 hbk (by omega) hown (fun k hk hs => ?_) (by have := HBY.out; omega) hnb).mono ?_
    · have h1 := (HS.out k hs).2
      have h2 := World.ownsRow.lt (show w6.ownsRow W3.heap.size 5 1 _ _ _ from HOB.out) k (by rw [HL5.out] at *; exact hk)
      omega
    rintro e w7 ⟨rfl, S', hbk7, h3, h4, hf7⟩
    have HBK7 := hide hbk7
    have HB7 : Hid (Below B w w7) := (HBW6.out.mono hB).trans (hf7.below (by omega) (by
      rintro k (hk | hk)
      · exact (HS.out k hk).1
      · exact (World.ownsRow.lt hown k hk).1))
    have hln : ∀ k, (Value.slice ba L5 bc).ownBlock = some k → w.heap.size ≤ k := fun k hk => by
      have h2 := World.ownsRow.lt (show w6.ownsRow W3.heap.size 5 1 _ _ _ from HOB.out) k (by rw [HL5.out] at *; exact hk)
      omega
    have HTK : Hid (Takes w w7 S S') := ⟨h3, fun k e => by
      rcases h4 k e with e | e | e
      · exact .inl e
      · exact .inr (hln k e)
      · exact .inr (by have := HBW6.out.size; omega), (Fr.of_below HBW6.out).trans hf7 fun k hk e => e.elim id fun e => by have := hln k e; omega⟩
    clear hbk hown hbk7 hf7 cv1 cv2 h3 h4 hln
    simp only []
    go_wp2
    go_ret
    exact ⟨rfl, S', HBK7.out, HB7.out, HTK.out⟩
  · rw [Bool.not_eq_true] at hok
    refine (encode_no _ _ ⟨x1, x2, x3, x4, x5, ts⟩ W3 HCFL.out (Nat.le_refl _) hok).mono ?_
    rintro e w4 ⟨rfl, q4⟩
    have HO4 := hide (HO2.out.later q4 (by omega))
    have HLB4 := hide (HLB.out.later q4 (by omega))
    have HLA4 := hide (HLA2.out.below q4)
    have HBW4 : Hid (Below w.heap.size w w4) := (HBW1.out.trans (HB2.out.mono (by omega))).trans (q4.mono (by omega))
    have hz4 := q4.size
    have m0 : w4.cell? ⟨w1.heap.size + 1, 0, none⟩ = some (.slice (some ⟨T, 0, none⟩) (ts.length + 8) (ts.length + 8)) := HLB4.out.cell 0
    have m1 : w4.cell? ⟨w1.heap.size + 1, 1, none⟩ = some (.slice lva Ls.length lvc) := HLB4.out.cell 1
    have k5 : w4.cell? ⟨w.heap.size, 5, none⟩ = some (.int .i64 x1) := HO4.out.cell 5
    have k6 : w4.cell? ⟨w.heap.size, 6, none⟩ = some (.int .i64 x2) := HO4.out.cell 6
    have k7 : w4.cell? ⟨w.heap.size, 7, none⟩ = some (.int .i64 x3) := HO4.out.cell 7
    have k8 : w4.cell? ⟨w.heap.size, 8, none⟩ = some (.int .i64 x4) := HO4.out.cell 8
    have k9 : w4.cell? ⟨w.heap.size, 9, none⟩ = some (.int .i64 x5) := HO4.out.cell 9
    have k10 : w4.cell? ⟨w.heap.size, 10, none⟩ = some (.slice ta ts.length tc) := HO4.out.cell 10
    clear q4
    go_wp2_with fail
    refine (backConfig_true B0 (w.heap.size + 1) T (.agg #[.int .i64 x1, .int .i64 x2, .int .i64 x3, .int .i64 x4, .int .i64 x5, .slice ta ts.length tc]) (.slice lva Ls.length lvc) ⟨x1, x2, x3, x4, x5, ts⟩ Ls w4 (HCF.out.later HBW4.out (by omega)) (by omega) (by omega) HLA4.out (Nat.le_trans hl (by decide)) fun t ht => Nat.le_trans (HL2.out t ht) (by decide)).mono ?_
    rintro e w5 ⟨rfl, hf5⟩
    have HF5 := hide hf5
    have hz5 := hf5.size
    have HBW5 : Hid (Below w.heap.size w w5) := HBW4.out.trans (hf5.below (by omega) (by rintro k (rfl | hk); omega; have := (HLs.out k hk).1; omega))
    have O5 : Blk w5 w.heap.size #[.int .i64 kind, .int .i64 a, .int .i64 b, .int .i64 c, .string s, .int .i64 x1, .int .i64 x2, .int .i64 x3, .int .i64 x4, .int .i64 x5, .slice ta ts.length tc] 43 := (hf5.block _ (by omega) (by rintro (h | h); omega; have := (HLs.out _ h).1; omega)).trans HO4.out
    have n5 : w5.cell? ⟨w.heap.size, 5, none⟩ = some (.int .i64 x1) := O5.cell 5
    have n6 : w5.cell? ⟨w.heap.size, 6, none⟩ = some (.int .i64 x2) := O5.cell 6
    have n7 : w5.cell? ⟨w.heap.size, 7, none⟩ = some (.int .i64 x3) := O5.cell 7
    have n8 : w5.cell? ⟨w.heap.size, 8, none⟩ = some (.int .i64 x4) := O5.cell 8
    have n9 : w5.cell? ⟨w.heap.size, 9, none⟩ = some (.int .i64 x5) := O5.cell 9
    have n10 : w5.cell? ⟨w.heap.size, 10, none⟩ = some (.slice ta ts.length tc) := O5.cell 10
    clear hf5 m0 m1 k5 k6 k7 k8 k9 k10 O5
    go_wp2_with fail
    refine (refEncode_no B0 (.agg #[.int .i64 x1, .int .i64 x2, .int .i64 x3, .int .i64 x4, .int .i64 x5, .slice ta ts.length tc]) ⟨x1, x2, x3, x4, x5, ts⟩ w5 (HCF.out.later HBW5.out (by omega)) (by omega) hok).mono ?_
    rintro e w6 ⟨rfl, q6⟩
    have hz6 := q6.size
    have HBW6 : Hid (Below w.heap.size w w6) := HBW5.out.trans (q6.mono (by omega))
    have cv1 := conv_rd8 (w := w6) (B := 0) (v := .slice none 0 0) (bs := []) ⟨none, 0, rfl, Nat.le_refl _, .inl rfl⟩
    clear q6 n5 n6 n7 n8 n9 n10
    generalize hst : strOfNums [] = st at *
    clear hst
    go_wp2_with fail
    have hbk := HBK.out.same (w' := w6) (fun k hk => HBW6.out.block k (HS.out k hk).2) (by omega)
    refine (bookB_any S B W ps nb ni ne nl nt (.slice none 0 0) 0 [] w6 hbk (by omega) (World.ownsRow_nil _ _ _ _) (fun k hk hs => by simp [Value.ownBlock] at hk) (by omega) hnb).mono ?_
    rintro e w7 ⟨rfl, S', hbk7, h3, h4, hf7⟩
    have HBK7 := hide hbk7
    have HB7 : Hid (Below B w w7) := (HBW6.out.mono hB).trans (hf7.below (by omega) (by
      rintro k (hk | hk)
      · exact (HS.out k hk).1
      · simp [Value.ownBlock] at hk))
    have HTK : Hid (Takes w w7 S S') := ⟨h3, fun k e => by
      rcases h4 k e with e | e | e
      · exact .inl e
      · simp [Value.ownBlock] at e
      · exact .inr (by have := HBW6.out.size; omega), (Fr.of_below HBW6.out).trans hf7 fun k hk e => e.elim id fun e => by simp [Value.ownBlock] at e⟩
    clear hbk hbk7 hf7 cv1 h3 h4
    simp only []
    go_wp2
    go_ret
    exact ⟨rfl, S', HBK7.out, HB7.out, HTK.out⟩

end Go.Proofs.YthloffgebebijaaGreat
