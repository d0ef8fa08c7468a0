/- ChkW: the walk of tillerlaw's (*World).check: what the program answers is what the document answers, what was lent is as it was, and the book has two entries more. -/
import Derived.Test.YthloffgebebijaaGreatEncW
import Derived.Test.YthloffgebebijaaGreatRefG
import Derived.Test.YthloffgebebijaaGreatBkI
import Derived.Deep.QuietTactic
import Derived.BigQuiet
namespace Go.Proofs.YthloffgebebijaaGreat
open Go.RowKit

/-- What was lent reads as it was, and has room behind it. -/
theorem LentAt.tasksC {w : World} {H T : Nat} {lv : Value} {ts : List Tk} {Ls : List Nat} (h : LentAt w H T lv ts (ts.length + 8) Ls) : TasksC w w.heap.size (.slice (some ⟨T, 0, none⟩) ts.length (ts.length + 8)) ts := by
  have hlen : Ls.length = ts.length := by have := h.len; omega
  refine ⟨_, _, rfl, .inr ⟨T, 0, rfl, h.row.lt, fun i t ht => ?_⟩⟩
  obtain ⟨L, hL⟩ := get_of_lt (l := Ls) (k := i) (by have := lt_of_get ht; omega)
  have hg := flat3_get (List.zipWith lentEnt ts Ls ++ List.replicate (ts.length + 8 - ts.length) spareT ++ List.replicate (ts.length + 8 - (ts.length + 8)) zeroT) i (lentEnt t L) (by
    have hi := lt_of_get ht
    rw [List.append_assoc, List.getElem?_append_left (by rw [zip_len _ _ _ (by omega)]; omega), List.getElem?_zipWith, ht, hL])
  have hc := fun j => h.row.cell (i * 3 + j)
  have hB := h.each i t L ht hL
  refine ⟨?_, ?_, .slice (some ⟨L, 0, none⟩) t.lims.length (t.lims.length + 8), ?_, _, _, rfl, by omega, .inr ⟨L, 0, rfl, hB.lt, fun q l hq => ?_⟩⟩
  · rw [Nat.zero_add]; exact (hc 0).trans (by simpa [lentEnt] using hg.1)
  · rw [Nat.zero_add]; exact (hc 1).trans (by simpa [lentEnt] using hg.2.1)
  · rw [Nat.zero_add]; exact (hc 2).trans (by simpa [lentEnt] using hg.2.2)
  · have := flat2_get (lentLims t) q l (by unfold lentLims; rw [List.getElem?_append_left (lt_of_get hq)]; exact hq)
    rw [Nat.mul_comm] at this
    exact ⟨by rw [Nat.zero_add, hB.cell]; simpa using this.1, by rw [Nat.zero_add, hB.cell]; simpa using this.2⟩

theorem ckBounds_len (c : Cfg) : (ckBounds c).length ≤ 6 := by
  unfold ckBounds
  split
  · rename_i h
    rw [List.length_map]
    exact (CfIn.of h).n2
  · simp

set_option maxRecDepth 100000 in
set_option maxHeartbeats 3200000 in
theorem checkW_true (S : Nat → Prop) (B0 B W : Nat) (ps : Value) (nb ni ne nl nt : Nat) (v : Value) (o : Stp) (w : World) (h : BookAt w S B W ps nb ni ne nl nt) (hB : B ≤ w.heap.size) (hv : Op1 w B0 v o) (hB0 : B0 ≤ w.heap.size) (hok : StpOk o) (hni : ni ≤ 999999999) :
    Calls Tryz.prog 13 #[.pointer (some ⟨W, 0, none⟩), v] w fun e w' => e = .returned (.bool true) ∧ ∃ S', BookAt w' S' B W ps nb (ni + 2) ne nl nt ∧ Below B w w' := by
  obtain ⟨t, rfl, ht⟩ := hv
  obtain ⟨kind, a, b, c, s, cfg⟩ := o
  obtain ⟨x1, x2, x3, x4, x5, ts⟩ := cfg
  obtain ⟨hs, hl, hl2⟩ := hok
  simp only at ht hs hl hl2 ⊢
  have HBK := hide h
  have HT := hide ht
  obtain ⟨ta, tc, rfl⟩ := ht.slice
  have HL2 := hide hl2
  have HS : Hid (∀ k, S k → B ≤ k ∧ k < w.heap.size) := h.1
  have HSW : Hid (S W) := h.2.1
  have HWB : Hid (B ≤ W) := (h.1 W h.2.1).1
  have HCK := hide (fun (B' : Nat) (v' : Value) (w' : World) (hv' : CfC w' B' v' ⟨x1, x2, x3, x4, x5, ts⟩) (hB' : B' ≤ w'.heap.size) => check_any B' v' ⟨x1, x2, x3, x4, x5, ts⟩ w' hv' hB')
  have HRK := hide (fun (B' : Nat) (v' : Value) (w' : World) (hv' : Cf w' B' v' ⟨x1, x2, x3, x4, x5, ts⟩) (hB' : B' ≤ w'.heap.size) => refCheck_any B' v' ⟨x1, x2, x3, x4, x5, ts⟩ w' hv' hB')
  have hn6 := ckBounds_len ⟨x1, x2, x3, x4, x5, ts⟩
  generalize hbs : ckBounds ⟨x1, x2, x3, x4, x5, ts⟩ = bs at *
  generalize hwh : ckWhat ⟨x1, x2, x3, x4, x5, ts⟩ = wh at *
  generalize hnd : ckNeed ⟨x1, x2, x3, x4, x5, ts⟩ = nd at *
  generalize her : ckErr ⟨x1, x2, x3, x4, x5, ts⟩ = er at *
  generalize hn : bs.length = n at *
  have HN := hide hn
  clear h ht hl2 hbs hwh hnd her hn
  go_enter Tryz.func13, Tryz.ntmps13
  go_wp2_with fail
  have HB1 : Hid (Below w.heap.size w (w.alloc (.cells #[.int .i64 kind, .int .i64 a, .int .i64 b, .int .i64 c, .string s, .int .i64 x1, .int .i64 x2, .int .i64 x3, .int .i64 x4, .int .i64 x5, .slice ta ts.length tc] 43))) := (Below.refl _ _).alloc (Nat.le_refl _) _
  have HCF : Hid (Cf w B0 (.agg #[.int .i64 x1, .int .i64 x2, .int .i64 x3, .int .i64 x4, .int .i64 x5, .slice ta ts.length tc]) ⟨x1, x2, x3, x4, x5, ts⟩) := ⟨_, rfl, HT.out⟩
  refine (lentConfig_any B0 _ ⟨x1, x2, x3, x4, x5, ts⟩ _ (HCF.out.later HB1.out (by omega)) (by simp; omega) hl HL2.out).mono ?_
  rintro e w1 ⟨T, lv, Ls, rfl, hla, hTl, q1⟩
  obtain ⟨lva, lvc, hlv⟩ := owns_slice hla.lims
  subst hlv
  have hzo : (w.alloc (.cells #[.int .i64 kind, .int .i64 a, .int .i64 b, .int .i64 c, .string s, .int .i64 x1, .int .i64 x2, .int .i64 x3, .int .i64 x4, .int .i64 x5, .slice ta ts.length tc] 43)).heap.size = w.heap.size + 1 := by simp
  rw [hzo] at hTl q1 hla
  have HO1 := hide ((Blk.new w #[.int .i64 kind, .int .i64 a, .int .i64 b, .int .i64 c, .string s, .int .i64 x1, .int .i64 x2, .int .i64 x3, .int .i64 x4, .int .i64 x5, .slice ta ts.length tc] 43).later q1 (by simp))
  have HBW1 : Hid (Below w.heap.size w w1) := HB1.out.trans (q1.mono (by omega))
  have hz1 := q1.size
  have HLA1 := hide hla
  have hTw := hla.row.lt
  have HLs : Hid (∀ L ∈ Ls, T < L ∧ L < w1.heap.size) := hla.lt
  clear hla q1
  simp only [] at *
  have HB2 : Hid (Below w1.heap.size w1 ((w1.alloc (.cells #[.int .i64 x1, .int .i64 x2, .int .i64 x3, .int .i64 x4, .int .i64 x5, .slice (some ⟨T, 0, none⟩) ts.length (ts.length + 8)] 40)).alloc (.cells #[.slice (some ⟨T, 0, none⟩) (ts.length + 8) (ts.length + 8), .slice lva Ls.length lvc] 71))) := ((Below.refl _ _).alloc (Nat.le_refl _) _).alloc (by simp) _
  have hz2 : ((w1.alloc (.cells #[.int .i64 x1, .int .i64 x2, .int .i64 x3, .int .i64 x4, .int .i64 x5, .slice (some ⟨T, 0, none⟩) ts.length (ts.length + 8)] 40)).alloc (.cells #[.slice (some ⟨T, 0, none⟩) (ts.length + 8) (ts.length + 8), .slice lva Ls.length lvc] 71)).heap.size = w1.heap.size + 2 := by simp
  have HLA2 := hide (HLA1.out.below HB2.out)
  have HCFL : Hid (CfC ((w1.alloc (.cells #[.int .i64 x1, .int .i64 x2, .int .i64 x3, .int .i64 x4, .int .i64 x5, .slice (some ⟨T, 0, none⟩) ts.length (ts.length + 8)] 40)).alloc (.cells #[.slice (some ⟨T, 0, none⟩) (ts.length + 8) (ts.length + 8), .slice lva Ls.length lvc] 71)) ((w1.alloc (.cells #[.int .i64 x1, .int .i64 x2, .int .i64 x3, .int .i64 x4, .int .i64 x5, .slice (some ⟨T, 0, none⟩) ts.length (ts.length + 8)] 40)).alloc (.cells #[.slice (some ⟨T, 0, none⟩) (ts.length + 8) (ts.length + 8), .slice lva Ls.length lvc] 71)).heap.size (.agg #[.int .i64 x1, .int .i64 x2, .int .i64 x3, .int .i64 x4, .int .i64 x5, .slice (some ⟨T, 0, none⟩) ts.length (ts.length + 8)]) ⟨x1, x2, x3, x4, x5, ts⟩) := ⟨_, rfl, HLA2.out.tasksC⟩
  have HO2 := hide (HO1.out.later HB2.out (by omega))
  have HCB : Hid (Blk ((w1.alloc (.cells #[.int .i64 x1, .int .i64 x2, .int .i64 x3, .int .i64 x4, .int .i64 x5, .slice (some ⟨T, 0, none⟩) ts.length (ts.length + 8)] 40)).alloc (.cells #[.slice (some ⟨T, 0, none⟩) (ts.length + 8) (ts.length + 8), .slice lva Ls.length lvc] 71)) w1.heap.size #[.int .i64 x1, .int .i64 x2, .int .i64 x3, .int .i64 x4, .int .i64 x5, .slice (some ⟨T, 0, none⟩) ts.length (ts.length + 8)] 40) := (Blk.new _ _ _).alloc _
  have HLB : Hid (Blk ((w1.alloc (.cells #[.int .i64 x1, .int .i64 x2, .int .i64 x3, .int .i64 x4, .int .i64 x5, .slice (some ⟨T, 0, none⟩) ts.length (ts.length + 8)] 40)).alloc (.cells #[.slice (some ⟨T, 0, none⟩) (ts.length + 8) (ts.length + 8), .slice lva Ls.length lvc] 71)) (w1.heap.size + 1) #[.slice (some ⟨T, 0, none⟩) (ts.length + 8) (ts.length + 8), .slice lva Ls.length lvc] 71) := by
    have := Blk.new (w1.alloc (.cells #[.int .i64 x1, .int .i64 x2, .int .i64 x3, .int .i64 x4, .int .i64 x5, .slice (some ⟨T, 0, none⟩) ts.length (ts.length + 8)] 40)) #[.slice (some ⟨T, 0, none⟩) (ts.length + 8) (ts.length + 8), .slice lva Ls.length lvc] 71
    simpa [Hid] using this
  go_wp2_with fail
  generalize hW3 : ((w1.alloc (.cells #[.int .i64 x1, .int .i64 x2, .int .i64 x3, .int .i64 x4, .int .i64 x5, .slice (some ⟨T, 0, none⟩) ts.length (ts.length + 8)] 40)).alloc (.cells #[.slice (some ⟨T, 0, none⟩) (ts.length + 8) (ts.length + 8), .slice lva Ls.length lvc] 71)) = W3 at *
  clear hW3
  have hz2' : w1.heap.size + 2 ≤ W3.heap.size := by omega
  clear hz2
  refine (HCK.out _ _ W3 HCFL.out (Nat.le_refl _)).mono ?_
  rintro e w4 ⟨a4, c4, rfl, o4, q4⟩
  have hz4 := q4.size
  have HQ4 : Hid (Below W3.heap.size W3 (w4.alloc (.cells #[.int .i64 wh, .slice a4 n c4, .int .i64 nd] 86))) := q4.alloc (by omega) _
  have HOW4 := hide (World.ownsRow.alloc o4 (.cells #[.int .i64 wh, .slice a4 n c4, .int .i64 nd] 86))
  have HK4 := hide (World.ownsRow.lt o4)
  have HR4 := hide (Blk.new w4 #[.int .i64 wh, .slice a4 n c4, .int .i64 nd] 86)
  have hza4 : w4.heap.size < (w4.alloc (.cells #[.int .i64 wh, .slice a4 n c4, .int .i64 nd] 86)).heap.size := by simp
  have HCB4 := hide (HCB.out.later HQ4.out (by omega))
  have k0 : (w4.alloc (.cells #[.int .i64 wh, .slice a4 n c4, .int .i64 nd] 86)).cell? ⟨w1.heap.size, 0, none⟩ = some (.int .i64 x1) := HCB4.out.cell 0
  have k1 : (w4.alloc (.cells #[.int .i64 wh, .slice a4 n c4, .int .i64 nd] 86)).cell? ⟨w1.heap.size, 1, none⟩ = some (.int .i64 x2) := HCB4.out.cell 1
  have k2 : (w4.alloc (.cells #[.int .i64 wh, .slice a4 n c4, .int .i64 nd] 86)).cell? ⟨w1.heap.size, 2, none⟩ = some (.int .i64 x3) := HCB4.out.cell 2
  have k3 : (w4.alloc (.cells #[.int .i64 wh, .slice a4 n c4, .int .i64 nd] 86)).cell? ⟨w1.heap.size, 3, none⟩ = some (.int .i64 x4) := HCB4.out.cell 3
  have k4 : (w4.alloc (.cells #[.int .i64 wh, .slice a4 n c4, .int .i64 nd] 86)).cell? ⟨w1.heap.size, 4, none⟩ = some (.int .i64 x5) := HCB4.out.cell 4
  have k5 : (w4.alloc (.cells #[.int .i64 wh, .slice a4 n c4, .int .i64 nd] 86)).cell? ⟨w1.heap.size, 5, none⟩ = some (.slice (some ⟨T, 0, none⟩) ts.length (ts.length + 8)) := HCB4.out.cell 5
  have hlw1 : w1.heap.size < w4.heap.size := by omega
  clear o4 q4
  go_wp2_with fail
  generalize hW4 : w4.alloc (.cells #[.int .i64 wh, .slice a4 n c4, .int .i64 nd] 86) = W4 at *
  clear hW4
  refine (HCK.out _ _ W4 (HCFL.out.later HQ4.out (Nat.le_refl _)) (by omega)).mono ?_
  rintro e w5 ⟨a5, c5, rfl, o5, q5⟩
  have hz5 := q5.size
  have HQ5 : Hid (Below W4.heap.size W4 (w5.alloc (.cells #[.int .i64 wh, .slice a5 n c5, .int .i64 nd] 86))) := q5.alloc (by omega) _
  have HOW5 := hide (World.ownsRow.alloc o5 (.cells #[.int .i64 wh, .slice a5 n c5, .int .i64 nd] 86))
  have HK5 := hide (World.ownsRow.lt o5)
  have HR5 := hide (Blk.new w5 #[.int .i64 wh, .slice a5 n c5, .int .i64 nd] 86)
  have hza5 : w5.heap.size < (w5.alloc (.cells #[.int .i64 wh, .slice a5 n c5, .int .i64 nd] 86)).heap.size := by simp
  have HO5 := hide ((HO2.out.later HQ4.out (by omega)).later HQ5.out (by omega))
  have HLB5 := hide ((HLB.out.later HQ4.out (by omega)).later HQ5.out (by omega))
  have HLA5 := hide ((HLA2.out.below HQ4.out).below HQ5.out)
  have HBW5 : Hid (Below w.heap.size w (w5.alloc (.cells #[.int .i64 wh, .slice a5 n c5, .int .i64 nd] 86))) := ((HBW1.out.trans (HB2.out.mono (by omega))).trans (HQ4.out.mono (by omega))).trans (HQ5.out.mono (by omega))
  have HR45 := hide (HR4.out.later HQ5.out (by omega))
  have HOW45 := hide (owns_below HOW4.out HQ5.out)
  clear o5 q5 k0 k1 k2 k3 k4 k5
  have m0 : (w5.alloc (.cells #[.int .i64 wh, .slice a5 n c5, .int .i64 nd] 86)).cell? ⟨w1.heap.size + 1, 0, none⟩ = some (.slice (some ⟨T, 0, none⟩) (ts.length + 8) (ts.length + 8)) := HLB5.out.cell 0
  have m1 : (w5.alloc (.cells #[.int .i64 wh, .slice a5 n c5, .int .i64 nd] 86)).cell? ⟨w1.heap.size + 1, 1, none⟩ = some (.slice lva Ls.length lvc) := HLB5.out.cell 1
  have k5 : (w5.alloc (.cells #[.int .i64 wh, .slice a5 n c5, .int .i64 nd] 86)).cell? ⟨w.heap.size, 5, none⟩ = some (.int .i64 x1) := HO5.out.cell 5
  have k6 : (w5.alloc (.cells #[.int .i64 wh, .slice a5 n c5, .int .i64 nd] 86)).cell? ⟨w.heap.size, 6, none⟩ = some (.int .i64 x2) := HO5.out.cell 6
  have k7 : (w5.alloc (.cells #[.int .i64 wh, .slice a5 n c5, .int .i64 nd] 86)).cell? ⟨w.heap.size, 7, none⟩ = some (.int .i64 x3) := HO5.out.cell 7
  have k8 : (w5.alloc (.cells #[.int .i64 wh, .slice a5 n c5, .int .i64 nd] 86)).cell? ⟨w.heap.size, 8, none⟩ = some (.int .i64 x4) := HO5.out.cell 8
  have k9 : (w5.alloc (.cells #[.int .i64 wh, .slice a5 n c5, .int .i64 nd] 86)).cell? ⟨w.heap.size, 9, none⟩ = some (.int .i64 x5) := HO5.out.cell 9
  have k10 : (w5.alloc (.cells #[.int .i64 wh, .slice a5 n c5, .int .i64 nd] 86)).cell? ⟨w.heap.size, 10, none⟩ = some (.slice ta ts.length tc) := HO5.out.cell 10
  have hlw5 : w1.heap.size + 1 < w5.heap.size := by omega
  have hlw5' : w.heap.size < w5.heap.size := by omega
  go_wp2_with fail
  generalize hW5 : w5.alloc (.cells #[.int .i64 wh, .slice a5 n c5, .int .i64 nd] 86) = W5 at *
  clear hW5
  refine (backConfig_true B0 (w.heap.size + 1) T (.agg #[.int .i64 x1, .int .i64 x2, .int .i64 x3, .int .i64 x4, .int .i64 x5, .slice ta ts.length tc]) (.slice lva Ls.length lvc) ⟨x1, x2, x3, x4, x5, ts⟩ Ls W5 (HCF.out.later HBW5.out (by omega)) (by omega) (by omega) HLA5.out hl HL2.out).mono ?_
  rintro e w6 ⟨rfl, hf6⟩
  have hz6 := hf6.size
  have HBW6 : Hid (Below w.heap.size w w6) := HBW5.out.trans (hf6.below (by omega) (by rintro k (rfl | hk); omega; have := (HLs.out k hk).1; omega))
  have kf : ∀ k, k < W5.heap.size → (k = w.heap.size ∨ w1.heap.size ≤ k) → w6.heap[k]? = W5.heap[k]? := fun k hk hor => hf6.block k hk (by
    rintro (h | h)
    · omega
    · have := HLs.out k h; omega)
  have HO6 : Hid (Blk w6 w.heap.size #[.int .i64 kind, .int .i64 a, .int .i64 b, .int .i64 c, .string s, .int .i64 x1, .int .i64 x2, .int .i64 x3, .int .i64 x4, .int .i64 x5, .slice ta ts.length tc] 43) := (kf _ (by omega) (.inl rfl)).trans HO5.out
  have HR46 : Hid (Blk w6 w4.heap.size #[.int .i64 wh, .slice a4 n c4, .int .i64 nd] 86) := (kf _ (by omega) (.inr (by omega))).trans HR45.out
  have HR56 : Hid (Blk w6 w5.heap.size #[.int .i64 wh, .slice a5 n c5, .int .i64 nd] 86) := (kf _ (by omega) (.inr (by omega))).trans HR5.out
  have HOW46 := hide (owns_same (w' := w6) HOW45.out fun k hk => kf k (by have := HK4.out k hk; omega) (.inr (by have := HK4.out k hk; omega)))
  have HOW56 := hide (owns_same (w' := w6) HOW5.out fun k hk => kf k (by have := HK5.out k hk; omega) (.inr (by have := HK5.out k hk; omega)))
  have n5 : w6.cell? ⟨w.heap.size, 5, none⟩ = some (.int .i64 x1) := HO6.out.cell 5
  have n6 : w6.cell? ⟨w.heap.size, 6, none⟩ = some (.int .i64 x2) := HO6.out.cell 6
  have n7 : w6.cell? ⟨w.heap.size, 7, none⟩ = some (.int .i64 x3) := HO6.out.cell 7
  have n8 : w6.cell? ⟨w.heap.size, 8, none⟩ = some (.int .i64 x4) := HO6.out.cell 8
  have n9 : w6.cell? ⟨w.heap.size, 9, none⟩ = some (.int .i64 x5) := HO6.out.cell 9
  have n10 : w6.cell? ⟨w.heap.size, 10, none⟩ = some (.slice ta ts.length tc) := HO6.out.cell 10
  clear hf6 kf m0 m1 k5 k6 k7 k8 k9 k10
  go_wp2_with fail
  refine (HRK.out B0 (.agg #[.int .i64 x1, .int .i64 x2, .int .i64 x3, .int .i64 x4, .int .i64 x5, .slice ta ts.length tc]) w6 (HCF.out.later HBW6.out (by omega)) (by omega)).mono ?_
  rintro e w7 ⟨a7, c7, rfl, o7, q7⟩
  have hz7 := q7.size
  have HQ7 : Hid (Below w6.heap.size w6 (w7.alloc (.cells #[.int .i64 wh, .slice a7 n c7, .int .i64 nd] 86))) := q7.alloc (by omega) _
  have HOW7 := hide (World.ownsRow.alloc o7 (.cells #[.int .i64 wh, .slice a7 n c7, .int .i64 nd] 86))
  have HR77 := hide (Blk.new w7 #[.int .i64 wh, .slice a7 n c7, .int .i64 nd] 86)
  have HR47 := hide (HR46.out.later HQ7.out (by omega))
  have HR57 := hide (HR56.out.later HQ7.out (by omega))
  have HOW47 := hide (owns_below HOW46.out HQ7.out)
  have HOW57 := hide (owns_below HOW56.out HQ7.out)
  have HBW7 : Hid (Below w.heap.size w (w7.alloc (.cells #[.int .i64 wh, .slice a7 n c7, .int .i64 nd] 86))) := HBW6.out.trans (HQ7.out.mono (by omega))
  have hza7 : w7.heap.size < (w7.alloc (.cells #[.int .i64 wh, .slice a7 n c7, .int .i64 nd] 86)).heap.size := by simp
  clear o7 q7 n5 n6 n7 n8 n9 n10
  have r40 : (w7.alloc (.cells #[.int .i64 wh, .slice a7 n c7, .int .i64 nd] 86)).cell? ⟨w4.heap.size, 0, none⟩ = some (.int .i64 wh) := HR47.out.cell 0
  have r41 : (w7.alloc (.cells #[.int .i64 wh, .slice a7 n c7, .int .i64 nd] 86)).cell? ⟨w4.heap.size, 1, none⟩ = some (.slice a4 n c4) := HR47.out.cell 1
  have r42 : (w7.alloc (.cells #[.int .i64 wh, .slice a7 n c7, .int .i64 nd] 86)).cell? ⟨w4.heap.size, 2, none⟩ = some (.int .i64 nd) := HR47.out.cell 2
  have r50 : (w7.alloc (.cells #[.int .i64 wh, .slice a7 n c7, .int .i64 nd] 86)).cell? ⟨w5.heap.size, 0, none⟩ = some (.int .i64 wh) := HR57.out.cell 0
  have r51 : (w7.alloc (.cells #[.int .i64 wh, .slice a7 n c7, .int .i64 nd] 86)).cell? ⟨w5.heap.size, 1, none⟩ = some (.slice a5 n c5) := HR57.out.cell 1
  have r52 : (w7.alloc (.cells #[.int .i64 wh, .slice a7 n c7, .int .i64 nd] 86)).cell? ⟨w5.heap.size, 2, none⟩ = some (.int .i64 nd) := HR57.out.cell 2
  have hl47 : w4.heap.size < w7.heap.size := by omega
  have hl57 : w5.heap.size < w7.heap.size := by omega
  go_wp2_with fail
  generalize hW7 : w7.alloc (.cells #[.int .i64 wh, .slice a7 n c7, .int .i64 nd] 86) = W7 at *
  clear hW7 r40 r41 r42 r50 r51 r52
  go_loopw [11, 14] (fun k i wr => ∃ q : Nat, i = .int .i64 q ∧ q ≤ n ∧ k = .bool true ∧ Below W7.heap.size W7 wr) (fun _ i _ => n - (intOf i).toNat)
  case atStart => exact ⟨0, rfl, Nat.zero_le _, by first | rfl | simp, Below.refl _ _⟩
  case round =>
    obtain ⟨q, rfl, hq, rfl, hbe⟩ := hrel
    have HBE := hide hbe
    have hsz := hbe.size
    have r41 : wr.cell? ⟨w4.heap.size, 1, none⟩ = some (.slice a4 n c4) := (HR47.out.later hbe (by omega)).cell 1
    have r51 : wr.cell? ⟨w5.heap.size, 1, none⟩ = some (.slice a5 n c5) := (HR57.out.later hbe (by omega)).cell 1
    have r71 : wr.cell? ⟨w7.heap.size, 1, none⟩ = some (.slice a7 n c7) := (HR77.out.later hbe (by omega)).cell 1
    by_cases hlt : q < n
    · obtain ⟨x, hx⟩ := get_of_lt (l := bs) (k := q) (by rw [HN.out]; exact hlt)
      have hxv : (intsV bs)[q]? = some (.int .i64 x) := by rw [intsV, List.getElem?_map, hx]; rfl
      obtain ⟨g4, _, e4, _, hg4, y4, _⟩ := owns_cell1 (owns_below HOW47.out hbe) hxv
      obtain ⟨g5, _, e5, _, hg5, y5, _⟩ := owns_cell1 (owns_below HOW57.out hbe) hxv
      obtain ⟨g7, _, e7, _, hg7, y7, _⟩ := owns_cell1 (owns_below HOW7.out hbe) hxv
      cases e4
      cases e5
      cases e7
      have hqi : (q : Int) < (n : Int) := by omega
      have hd : decide (x = x) = true := by simp
      clear hbe hx hxv
      go_wp2_with fail
      go_quiet ((fail))
      go_wp2
      go_roundw
      case rel => exact ⟨q + 1, by go_num, by omega, by first | rfl | simp, Below.drewN HBE.out _⟩
      case measure => simp [intOf]; omega
    · have hqi : ¬ (q : Int) < (n : Int) := by omega
      have HR4r := hide (HR47.out.later hbe (by omega))
      have HR5r := hide (HR57.out.later hbe (by omega))
      have HOW4r := hide (owns_below HOW47.out hbe)
      have HOW5r := hide (owns_below HOW57.out hbe)
      have HBWr : Hid (Below w.heap.size w wr) := HBW7.out.trans (HBE.out.mono (by omega))
      have HBK8 : Hid (BookAt wr.drew S B W ps nb ni ne nl nt) := HBK.out.same (w' := wr.drew) (fun k hk => HBWr.out.block k (HS.out k hk).2) (show w.heap.size ≤ wr.heap.size by omega)
      have HT1 := hide (bookI_any S B W ps nb ni ne nl nt (.slice a4 n c4) n (intsV bs) wr.drew HBK8.out (show B ≤ wr.heap.size by omega) (show wr.ownsRow B 3 1 (.slice a4 n c4) n (intsV bs) from owns_lower HOW4r.out (by omega)) (fun k hk hs => by have h1 := (HS.out k hs).2; have h2 := HK4.out k hk; omega) (by omega) (by omega))
      clear hbe
      go_wp2_with fail
      apply wp_someW (fun (w8 : World) => ∃ S', BookAt w8 S' B W ps nb (ni + 1) ne nl nt ∧ (∀ k, S k → S' k) ∧ (∀ k, S' k → S k ∨ (Value.slice a4 n c4).ownBlock = some k ∨ wr.heap.size ≤ k) ∧ Fr (fun k => S k ∨ (Value.slice a4 n c4).ownBlock = some k) wr w8)
      case h =>
        go_region_with (go_at_call 35; refine HT1.out.mono ?_; rintro e w8 ⟨rfl, hpost⟩; have HP := hide hpost; clear hpost)
        all_goals
          obtain ⟨S', p1, p2, p3, p4⟩ := HP.out
          exact ⟨w8, ⟨S', p1, p2, p3, ⟨p4.os, p4.tape, p4.output, p4.size, p4.block⟩⟩, rfl, rfl⟩
      rintro w8 ⟨S2, p1, p2, p3, p4⟩
      have hz8 := p4.size
      have HF8 := hide p4
      have HBK9 : Hid (BookAt w8.drew S2 B W ps nb (ni + 1) ne nl nt) := p1.same (w' := w8.drew) (fun _ _ => rfl) (Nat.le_refl _)
      have HS2 : Hid (∀ k, S2 k → B ≤ k ∧ k < w8.heap.size) := p1.1
      have HP3 := hide p3
      have kf : ∀ k, W4.heap.size ≤ k → k < wr.heap.size → w8.heap[k]? = wr.heap[k]? := fun k h0 hk => HF8.out.block k hk (by
        rintro (h | h)
        · have := (HS.out k h).2; omega
        · have := (HK4.out k h).2; omega)
      have HR58 : Hid (Blk w8 w5.heap.size #[.int .i64 wh, .slice a5 n c5, .int .i64 nd] 86) := (kf _ (by omega) (by omega)).trans HR5r.out
      have HOW58 := hide (owns_same (w' := w8) HOW5r.out fun k hk => kf k (HK5.out k hk).1 (by have := (HK5.out k hk).2; omega))
      have HBW8 : Hid (Below B w w8) := (HBWr.out.mono hB).trans (p4.below (by omega) (by
        rintro k (hk | hk)
        · exact (HS.out k hk).1
        · have := (HK4.out k hk).1; omega))
      have HNS : Hid (∀ k, W4.heap.size ≤ k → k < w5.heap.size → ¬ S2 k) := by
        intro k h1 h2 hs
        rcases HP3.out k hs with h | h | h
        · have := (HS.out k h).2; omega
        · have := (HK4.out k h).2; omega
        · omega
      have HT2 := hide (bookI_any S2 B W ps nb (ni + 1) ne nl nt (.slice a5 n c5) n (intsV bs) w8.drew HBK9.out (show B ≤ w8.heap.size by omega) (show w8.ownsRow B 3 1 (.slice a5 n c5) n (intsV bs) from owns_lower HOW58.out (by omega)) (fun k hk => HNS.out k (HK5.out k hk).1 (HK5.out k hk).2) (by omega) (by omega))
      have r58 : w8.cell? ⟨w5.heap.size, 1, none⟩ = some (.slice a5 n c5) := HR58.out.cell 1
      have hl58 : w5.heap.size < w8.heap.size := by omega
      clear p1 p2 p3 p4 kf r41 r51 r71
      go_wp2_with fail
      apply wp_someW (fun (w9 : World) => ∃ S', BookAt w9 S' B W ps nb (ni + 1 + 1) ne nl nt ∧ Fr (fun k => S2 k ∨ (Value.slice a5 n c5).ownBlock = some k) w8 w9)
      case h =>
        go_region_with (go_at_call 35; refine HT2.out.mono ?_; rintro e w9 ⟨rfl, hpost⟩; have HP := hide hpost; clear hpost)
        all_goals
          obtain ⟨S', p1, p2, p3, p4⟩ := HP.out
          exact ⟨w9, ⟨S', p1, ⟨p4.os, p4.tape, p4.output, p4.size, p4.block⟩⟩, rfl, rfl⟩
      rintro w9 ⟨S3, p1, p4⟩
      have HBK3 := hide p1
      have HBW9 : Hid (Below B w w9) := HBW8.out.trans (p4.below (by omega) (by
        rintro k (hk | hk)
        · exact (HS2.out k hk).1
        · have := (HK5.out k hk).1; omega))
      clear p1 p4
      go_wp2
      go_ret
      exact ⟨rfl, S3, HBK3.out, HBW9.out⟩

end Go.Proofs.YthloffgebebijaaGreat
