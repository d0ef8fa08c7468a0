/- AheadB: the walks of package ahead's atMost, most, price, longest. -/
import Derived.Test.YthloffgebebijaaGreatRows
import Derived.Test.YthloffgebebijaaGreatAheadA
import Derived.Test.YthloffgebebijaaGreatMark
import Derived.Deep.DeepMust
import Derived.Deep.QuietTactic
import Derived.BigQuiet
namespace Go.Proofs.YthloffgebebijaaGreat
open Go.RowKit

set_option maxRecDepth 100000 in
set_option maxHeartbeats 400000 in
theorem atMost_any (a b k : Int) (w : World) (ha : 1 ≤ a) (ha2 : a ≤ 500) (hb : 1 ≤ b) (hb2 : b ≤ 20) (hk : 1 ≤ k) (hk2 : k ≤ 30000000) :
    Calls Tryz.prog 101 #[.agg #[.int .i64 a, .int .i64 b], .int .i64 k] w fun e w' => e = .returned (.int .i64 (atMostI (a, b) k)) ∧ Below w.heap.size w w' := by
  have HE : Hid (atMostI (a, b) k = b * (k + a - 1).tdiv a) := rfl
  have hbd := atMost_bounds (l := (a, b)) hk ha hb hb2
  rw [HE.out] at hbd
  have h0 : 0 ≤ (k + a - 1).tdiv a := Int.tdiv_nonneg (by omega) (by omega)
  have hle : (k + a - 1).tdiv a ≤ k + a - 1 := by
    rw [Int.tdiv_eq_ediv_of_nonneg (by omega)]
    exact Int.ediv_le_self _ (by omega)
  have hne : ¬ a = 0 := by omega
  have HB : Hid (Below w.heap.size w (w.alloc (.cells #[.int .i64 a, .int .i64 b] 52))) := (Below.refl _ _).alloc (Nat.le_refl _) _
  generalize hq : (k + a - 1).tdiv a = q at *
  have HQ := hide hq
  obtain ⟨hbd0, hbd1⟩ := hbd
  go_enter Tryz.func101, Tryz.ntmps101
  go_wp2_with fail
  go_quiet ((fail))
  go_wp2
  go_ret
  exact ⟨ret_int HE.out.symm, ⟨HB.out.os, HB.out.tape, HB.out.output, HB.out.size, HB.out.block⟩⟩

/-- As Lims, Tasks and Cf, with the room that a slice tells. -/
def LimsC (w : World) (B : Nat) (v : Value) (ls : List (Int × Int)) : Prop :=
  ∃ a cap, v = .slice a ls.length cap ∧ ls.length < cap ∧ (ls = [] ∨ ∃ b o, a = some ⟨b, o, none⟩ ∧ b < B ∧ ∀ i l, ls[i]? = some l → LimAt w b (o + i * 2) l)
def TaskC (w : World) (B : Nat) (v : Value) (t : Tk) : Prop := ∃ s, v = .agg #[.int .i64 t.cost, .int .i64 t.due, s] ∧ LimsC w B s t.lims
def TaskAtC (w : World) (B b o : Nat) (t : Tk) : Prop :=
  w.cell? ⟨b, o, none⟩ = some (.int .i64 t.cost) ∧ w.cell? ⟨b, o + 1, none⟩ = some (.int .i64 t.due) ∧ ∃ s, w.cell? ⟨b, o + 2, none⟩ = some s ∧ LimsC w B s t.lims
def TasksC (w : World) (B : Nat) (v : Value) (ts : List Tk) : Prop :=
  ∃ a cap, v = .slice a ts.length cap ∧ (ts = [] ∨ ∃ b o, a = some ⟨b, o, none⟩ ∧ b < B ∧ ∀ i t, ts[i]? = some t → TaskAtC w B b (o + i * 3) t)
def CfC (w : World) (B : Nat) (v : Value) (c : Cfg) : Prop :=
  ∃ s, v = .agg #[.int .i64 c.lines, .int .i64 c.room, .int .i64 c.poll, .int .i64 c.idle, .int .i64 c.sw, s] ∧ TasksC w B s c.tasks
theorem LimsC.later {w w' : World} {B B' : Nat} {v : Value} {ls : List (Int × Int)} (h : LimsC w B v ls) (hb : Below B' w w') (hle : B ≤ B') : LimsC w' B v ls := by
  obtain ⟨a, cap, hv, hc, h⟩ := h
  exact ⟨a, cap, hv, hc, h.imp id fun ⟨b, o, ha, hlt, hcc⟩ => ⟨b, o, ha, hlt, fun i l hi => (hcc i l hi).later hb (by omega)⟩⟩
theorem TaskAtC.later {w w' : World} {B B' b o : Nat} {t : Tk} (h : TaskAtC w B b o t) (hb : Below B' w w') (hle : B ≤ B') (hlt : b < B') : TaskAtC w' B b o t := by
  obtain ⟨h1, h2, s, h3, h4⟩ := h
  exact ⟨(hb.cell (p := ⟨b, o, none⟩) hlt).trans h1, (hb.cell (p := ⟨b, o + 1, none⟩) hlt).trans h2, s, (hb.cell (p := ⟨b, o + 2, none⟩) hlt).trans h3, h4.later hb hle⟩
theorem TasksC.later {w w' : World} {B B' : Nat} {v : Value} {ts : List Tk} (h : TasksC w B v ts) (hb : Below B' w w') (hle : B ≤ B') : TasksC w' B v ts := by
  obtain ⟨a, cap, hv, h⟩ := h
  exact ⟨a, cap, hv, h.imp id fun ⟨b, o, ha, hlt, hc⟩ => ⟨b, o, ha, hlt, fun i l hi => (hc i l hi).later hb hle (by omega)⟩⟩
theorem CfC.later {w w' : World} {B B' : Nat} {v : Value} {c : Cfg} (h : CfC w B v c) (hb : Below B' w w') (hle : B ≤ B') : CfC w' B v c := by
  obtain ⟨s, hv, hl⟩ := h
  exact ⟨s, hv, hl.later hb hle⟩
theorem LimsC.lims {w : World} {B : Nat} {v : Value} {ls : List (Int × Int)} (h : LimsC w B v ls) : Lims w B v ls := by
  obtain ⟨a, cap, hv, _, h⟩ := h
  exact ⟨a, cap, hv, h⟩
theorem CfC.cf {w : World} {B : Nat} {v : Value} {c : Cfg} (h : CfC w B v c) : Cf w B v c := by
  obtain ⟨s, hv, a, cap, hs, h⟩ := h
  refine ⟨s, hv, a, cap, hs, h.imp id fun ⟨b, o, ha, hb, hc⟩ => ⟨b, o, ha, hb, fun i t hi => ?_⟩⟩
  obtain ⟨h1, h2, s', h3, h4⟩ := hc i t hi
  exact ⟨h1, h2, s', h3, h4.lims⟩

set_option maxRecDepth 100000 in
set_option maxHeartbeats 800000 in
theorem most_any (B : Nat) (v : Value) (t : Tk) (k : Int) (w : World) (hv : TaskC w B v t) (hB : B ≤ w.heap.size) (ht : TkIn t) (hk : k ≤ 30000000) (hk0 : -2000 ≤ k) :
    Calls Tryz.prog 83 #[v, .int .i64 k] w fun e w' => e = .returned (.int .i64 (mostI t k)) ∧ Below w.heap.size w w' := by
  obtain ⟨s, rfl, a, cap, rfl, hcap, hls⟩ := hv
  obtain ⟨cost, due, lims⟩ := t
  simp only at hcap hls ⊢
  by_cases hk1 : k ≤ 0
  · have HE : Hid (mostI ⟨cost, due, lims⟩ k = 0) := by simp [Hid, mostI, hk1]
    go_enter Tryz.func83, Tryz.ntmps83
    go_wp2
    go_ret
    exact ⟨ret_int HE.out.symm, (Below.refl _ _).alloc (Nat.le_refl _) _⟩
  · have hlen := ht.l1
    have hin := ht.ls
    simp only at hlen hin
    cases hl : lims with
    | nil => rw [hl] at hlen; simp at hlen
    | cons l0 r =>
      subst hl
      rcases hls with h0 | ⟨b, o, rfl, hb, hc⟩
      · cases h0
      obtain ⟨l1, l2⟩ := l0
      have HE : Hid (mostI ⟨cost, due, (l1, l2) :: r⟩ k = r.foldl (fun m l => min m (atMostI l k)) (atMostI (l1, l2) k)) := by simp [Hid, mostI, hk1, mostL]
      obtain ⟨c0, c1⟩ := hc 0 _ rfl
      have hi0 := hin (l1, l2) (by simp)
      obtain ⟨i1, i2, i3, i4⟩ := hi0
      simp only at i1 i2 i3 i4 c0 c1
      simp only [Nat.zero_mul, Nat.add_zero] at c0 c1
      have HC := hide hc
      have HIN := hide hin
      have hbw : b < w.heap.size := by omega
      simp only [List.length_cons] at hcap hlen
      have hr3 : r.length + 1 ≤ 3 := ht.l2
      have hcap1 : ¬ cap = 1 := by omega
      have HAM := hide (fun w' => atMost_any l1 l2 k w' i1 i2 i3 i4 (by omega) hk)
      have HB1 : Hid (Below w.heap.size w (w.alloc (.cells #[.int .i64 cost, .int .i64 due, .slice (some ⟨b, o, none⟩) (r.length + 1) cap] 55))) := (Below.refl _ _).alloc (Nat.le_refl _) _
      have HK1 := hide (Blk.new w #[.int .i64 cost, .int .i64 due, .slice (some ⟨b, o, none⟩) (r.length + 1) cap] 55)
      clear hc hin
      go_enter Tryz.func83, Tryz.ntmps83
      go_wp2_with fail
      refine (HAM.out _).mono ?_
      rintro e w2 ⟨rfl, q2⟩
      have HB2 := hide (HB1.out.trans (q2.mono (by simp)))
      have HK2 := hide (HK1.out.later q2 (by simp))
      have hz2 := q2.size
      simp only [World.size_alloc] at hz2
      have x2 : w2.cell? ⟨w.heap.size, 2, none⟩ = some (.slice (some ⟨b, o, none⟩) (r.length + 1) cap) := HK2.out.cell 2
      clear q2
      go_wp2_with fail
      go_loopw [5, 20] (fun m i wr => ∃ q : Nat, i = .int .i64 q ∧ q ≤ r.length ∧ m = .int .i64 ((r.take q).foldl (fun m l => min m (atMostI l k)) (atMostI (l1, l2) k)) ∧ Below w.heap.size w wr) (fun _ i _ => r.length - (intOf i).toNat)
      case atStart => exact ⟨0, rfl, Nat.zero_le _, by simp, HB2.out⟩
      case round =>
        obtain ⟨q, rfl, hq, rfl, hbe⟩ := hrel
        have HBE := hide hbe
        have hsz := hbe.size
        clear hbe
        have hbd := foldl_min_bounds (k := k) (B := 20 * k) (by omega) (Int.le_refl _) (r.take q) (atMostI (l1, l2) k) (atMost_bounds (by omega) i1 i3 i4).1 (atMost_bounds (by omega) i1 i3 i4).2 (fun x hx => HIN.out x (by simp [List.mem_of_mem_take hx]))
        obtain ⟨hbd0, hbd1⟩ := hbd
        by_cases hlt : q < r.length
        · obtain ⟨⟨m1, m2⟩, hg⟩ := get_of_lt (l := r) (k := q) hlt
          obtain ⟨d0, d1⟩ := (HC.out (q + 1) _ (by simpa using hg)).later HBE.out (by omega)
          simp only at d0 d1
          have hi := HIN.out (m1, m2) (by simp [List.mem_of_getElem? hg])
          obtain ⟨j1, j2, j3, j4⟩ := hi
          simp only at j1 j2 j3 j4
          have HTK := hide (take_snoc hg)
          have HAM2 := hide (fun w' => atMost_any m1 m2 k w' j1 j2 j3 j4 (by omega) hk)
          have hqi : (q : Int) < (r.length : Int) := by omega
          have hbr : b < wr.heap.size := by omega
          rw [show o + (q + 1) * 2 = o + 2 + q * 2 from by omega] at d0 d1
          generalize hM : (r.take q).foldl (fun m l => min m (atMostI l k)) (atMostI (l1, l2) k) = M at *
          have HMM := hide hM
          have hb2 := atMost_bounds (l := (m1, m2)) (k := k) (by omega) j1 j3 j4
          obtain ⟨hb20, hb21⟩ := hb2
          clear hg hM
          go_wp2_with fail
          refine (HAM2.out _).mono ?_
          rintro e w3 ⟨rfl, q3⟩
          have HB3 : Hid (Below w.heap.size w w3) := (HBE.out.alloc hsz _).trans (q3.mono (by simp; omega))
          clear q3
          go_wp2
          go_roundw
          case rel =>
            refine ⟨q + 1, by go_num, by omega, ?_, HB3.out⟩
            rw [HTK.out, List.foldl_append, HMM.out]
            show Value.int .i64 _ = Value.int .i64 (min M (atMostI (m1, m2) k))
            congr 1
            split <;> omega
          case measure => simp [intOf]; omega
        · have hqe : q = r.length := by omega
          have hqi : ¬ (q : Int) < (r.length : Int) := by omega
          rw [hqe, List.take_length]
          go_wp2
          go_ret
          exact ⟨ret_int HE.out.symm, HBE.out⟩

end Go.Proofs.YthloffgebebijaaGreat
