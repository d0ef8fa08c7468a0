/- StepC: the walks of tillerlaw's step at Encode and Decode, and of Codes. -/
import Derived.Test.YthloffgebebijaaGreatPlays
import Derived.Test.YthloffgebebijaaGreatLooks
import Derived.Test.YthloffgebebijaaGreatStepB
import Derived.Test.YthloffgebebijaaGreatDecW
namespace Go.Proofs.YthloffgebebijaaGreat
open Go.RowKit

set_option maxRecDepth 100000 in
set_option maxHeartbeats 800000 in
theorem stepEnc (S : Nat → Prop) (B0 B W : Nat) (ps : Value) (nb ni ne nl nt : Nat) (v : Value) (o : Stp) (w : World) (h : BookAt w S B W ps nb ni ne nl nt) (hB : B ≤ w.heap.size) (hv : Op1 w B0 v o) (hB0 : B0 ≤ w.heap.size) (hok : StpOk o) (hnb : nb ≤ 1000000000) (hkind : o.kind = 1) :
    Calls Tryz.prog 8 #[.pointer (some ⟨W, 0, none⟩), v] w fun e w' => e = .returned (.bool true) ∧ ∃ S', BookAt w' S' B W ps (nb + 1) ni ne nl nt ∧ Below B w w' := by
  have HV := hide hv
  obtain ⟨t, rfl, ht⟩ := hv
  obtain ⟨kind, a, b, c, s, cfg⟩ := o
  obtain ⟨x1, x2, x3, x4, x5, ts⟩ := cfg
  simp only at ht hkind ⊢
  subst hkind
  obtain ⟨ta, tc, rfl⟩ := ht.slice
  have HB1 : Hid (Below w.heap.size w (w.alloc (.cells #[.int .i64 1, .int .i64 a, .int .i64 b, .int .i64 c, .string s, .int .i64 x1, .int .i64 x2, .int .i64 x3, .int .i64 x4, .int .i64 x5, .slice ta ts.length tc] 43))) := (Below.refl _ _).alloc (Nat.le_refl _) _
  have HC := hide (encodeW_true S B0 B W ps nb ni ne nl nt _ _ (w.alloc (.cells #[.int .i64 1, .int .i64 a, .int .i64 b, .int .i64 c, .string s, .int .i64 x1, .int .i64 x2, .int .i64 x3, .int .i64 x4, .int .i64 x5, .slice ta ts.length tc] 43)) (h.later HB1.out) (by simp; omega) (show Op1 _ B0 _ ⟨1, a, b, c, s, ⟨x1, x2, x3, x4, x5, ts⟩⟩ from ⟨_, rfl, ht.later HB1.out hB0⟩) (by simp; omega) hok hnb)
  have hBW := hB
  clear h ht
  go_enter Tryz.func8, Tryz.ntmps8
  go_wp2_with fail
  refine HC.out.mono ?_
  rintro e w2 ⟨rfl, hp⟩
  have HP := hide hp
  clear hp
  go_wp2
  go_ret
  obtain ⟨S', p1, p2⟩ := HP.out
  exact ⟨rfl, S', p1, (HB1.out.mono hB).trans p2⟩

set_option maxRecDepth 100000 in
set_option maxHeartbeats 800000 in
theorem stepDec (S : Nat → Prop) (B0 B W : Nat) (ps : Value) (nb ni ne nl nt : Nat) (v : Value) (o : Stp) (w : World) (h : BookAt w S B W ps nb ni ne nl nt) (hB : B ≤ w.heap.size) (hv : Op1 w B0 v o) (hB0 : B0 ≤ w.heap.size) (hok : StpOk o) (hnl : nl ≤ 100000000) (hnt : nt ≤ 100000000) (hkind : o.kind = 2) :
    Calls Tryz.prog 8 #[.pointer (some ⟨W, 0, none⟩), v] w fun e w' => e = .returned (.bool true) ∧ ∃ S' nl', nl' ≤ nl + 12 ∧ BookAt w' S' B W ps nb ni ne nl' (nt + 2) ∧ Below B w w' := by
  have HV := hide hv
  obtain ⟨t, rfl, ht⟩ := hv
  obtain ⟨kind, a, b, c, s, cfg⟩ := o
  obtain ⟨x1, x2, x3, x4, x5, ts⟩ := cfg
  simp only at ht hkind ⊢
  subst hkind
  obtain ⟨ta, tc, rfl⟩ := ht.slice
  have HB1 : Hid (Below w.heap.size w (w.alloc (.cells #[.int .i64 2, .int .i64 a, .int .i64 b, .int .i64 c, .string s, .int .i64 x1, .int .i64 x2, .int .i64 x3, .int .i64 x4, .int .i64 x5, .slice ta ts.length tc] 43))) := (Below.refl _ _).alloc (Nat.le_refl _) _
  have HC := hide (decodeW_true S B0 B W ps nb ni ne nl nt _ _ (w.alloc (.cells #[.int .i64 2, .int .i64 a, .int .i64 b, .int .i64 c, .string s, .int .i64 x1, .int .i64 x2, .int .i64 x3, .int .i64 x4, .int .i64 x5, .slice ta ts.length tc] 43)) (h.later HB1.out) (by simp; omega) (show Op1 _ B0 _ ⟨2, a, b, c, s, ⟨x1, x2, x3, x4, x5, ts⟩⟩ from ⟨_, rfl, ht.later HB1.out hB0⟩) (by simp; omega) hok hnl hnt)
  have hBW := hB
  clear h ht
  go_enter Tryz.func8, Tryz.ntmps8
  go_wp2_with fail
  refine HC.out.mono ?_
  rintro e w2 ⟨rfl, hp⟩
  have HP := hide hp
  clear hp
  go_wp2
  go_ret
  obtain ⟨S', nl', p0, p1, p2⟩ := HP.out
  exact ⟨rfl, S', nl', p0, p1, (HB1.out.mono hB).trans p2⟩

theorem planC : Plan StB [1, 2] where
  init := StB.init
  later := StB.later
  looks := StB.looks
  step := by
    intro B w n v o B0 hst hn hB hv hB0 hok hmem
    obtain ⟨S, nb, ni, ne, nl, nt, hk, h1, h2, h3, h4, h5⟩ := hst
    rcases (by simpa using hmem : o.kind = 1 ∨ o.kind = 2) with hkd | hkd
    · refine (stepEnc S B0 B B _ nb ni ne nl nt v o w hk hB hv hB0 hok (by omega) hkd).mono ?_
      rintro e w' ⟨rfl, S', p1, p2⟩
      exact ⟨rfl, ⟨S', _, _, _, _, _, p1, by omega, by omega, by omega, by omega, by omega⟩, p2⟩
    · refine (stepDec S B0 B B _ nb ni ne nl nt v o w hk hB hv hB0 hok (by omega) (by omega) hkd).mono ?_
      rintro e w' ⟨rfl, S', nl', p0, p1, p2⟩
      exact ⟨rfl, ⟨S', _, _, _, _, _, p1, by omega, by omega, by omega, by omega, by omega⟩, p2⟩

set_option maxRecDepth 100000 in
set_option maxHeartbeats 400000 in
theorem codes_true (B0 : Nat) (sv : Value) (os : List Stp) (w : World) (hs : Script w B0 sv os) (hB : B0 ≤ w.heap.size) (hn : os.length ≤ 1999999) (hok : ∀ o ∈ os, StpOk o) :
    Calls Tryz.prog 3 #[sv] w fun e w' => e = .returned (.bool true) ∧ Below w.heap.size w w' := by
  obtain ⟨sa, sc, rfl, hs⟩ := hs
  have HB1 : Hid (Below w.heap.size w (w.alloc (.cells #[.int .i64 1, .int .i64 2] 3))) := (Below.refl _ _).alloc (Nat.le_refl _) _
  have HP := hide (plays_true planC B0 (.slice sa os.length sc) (.slice (some ⟨w.heap.size, 0, none⟩) 2 2) os (w.alloc (.cells #[.int .i64 1, .int .i64 2] 3)) ⟨sa, sc, rfl, hs.imp id fun ⟨b, o, h1, h2, h3⟩ => ⟨b, o, h1, h2, fun i s hi => (h3 i s hi).later HB1.out hB (by omega)⟩⟩
    ⟨w.heap.size, 2, rfl, by simp, fun i x hi => by
      have hb := Blk.new w #[.int .i64 1, .int .i64 2] 3
      match i, hi with
      | 0, hi => simp at hi; subst hi; exact hb.cell 0
      | 1, hi => simp at hi; subst hi; exact hb.cell 1
      | i + 2, hi => simp at hi⟩ (by simp) (by simp) (by simp; omega) hn hok)
  clear hs hok
  go_enter Tryz.func3, Tryz.ntmps3
  go_wp2_with fail
  refine HP.out.mono ?_
  rintro e w2 ⟨rfl, q2⟩
  have HQ : Hid (Below w.heap.size w w2) := HB1.out.trans (q2.mono (by simp))
  clear q2
  go_wp2
  go_ret
  exact ⟨rfl, HQ.out⟩

end Go.Proofs.YthloffgebebijaaGreat
