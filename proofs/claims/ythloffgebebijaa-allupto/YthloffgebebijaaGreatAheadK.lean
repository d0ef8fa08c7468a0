/- AheadB: the walks of package ahead's atMost, most, price, longest. -/
import Derived.Test.YthloffgebebijaaGreatRows
import Derived.Test.YthloffgebebijaaGreatAheadA
import Derived.Test.YthloffgebebijaaGreatMark
import Derived.Deep.DeepMust
import Derived.Deep.QuietTactic
import Derived.BigQuiet
import Derived.Deep.RegionHeld3
import Derived.Test.YthloffgebebijaaGreatReadK
import Derived.Test.YthloffgebebijaaGreatValidK
import Derived.Test.YthloffgebebijaaGreatSetA
import Derived.Test.YthloffgebebijaaGreatLists
import Derived.Test.YthloffgebebijaaGreatBytesB
namespace Go.Proofs.YthloffgebebijaaGreat
open Go.RowKit

set_option maxRecDepth 100000 in
set_option maxHeartbeats 400000 in
theorem atMost_any (a b k : Int) (w : World) (ha : 1 ≤ a) (ha2 : a ≤ 500) (hb : 1 ≤ b) (hb2 : b ≤ 20) (hk : 1 ≤ k) (hk2 : k ≤ 30000000) :
    Calls Tryz.prog 101 #[.agg #[.int .i64 a, .int .i64 b], .int .i64 k] w fun e w' => e = .returned (.int .i64 (atMostI (a, b) k)) ∧ Below w.heap.size w w' := by
  have HE : Hid (atMostI (a, b) k = b * (k + a - 1).tdiv a) := rfl
  have hbd := atMost_bounds (l := (a, b)) hk ha hb hb2
  rw [HE.out] at hbd
  have h0 : 0 ≤ (k + a - 1).tdiv a := Int.tdiv_nonneg (by omega) (by omega)
  have hle : (k + a - 1).tdiv a ≤ k + a - 1 := by
    rw [Int.tdiv_eq_ediv_of_nonneg (by omega)]
    exact Int.ediv_le_self _ (by omega)
  have hne : ¬ a = 0 := by omega
  have HB : Hid (Below w.heap.size w (w.alloc (.cells #[.int .i64 a, .int .i64 b] 52))) := (Below.refl _ _).alloc (Nat.le_refl _) _
  generalize hq : (k + a - 1).tdiv a = q at *
  have HQ := hide hq
  obtain ⟨hbd0, hbd1⟩ := hbd
  go_enter Tryz.func101, Tryz.ntmps101
  go_wp2_with fail
  go_quiet ((fail))
  go_wp2
  go_ret
  exact ⟨ret_int HE.out.symm, ⟨HB.out.os, HB.out.tape, HB.out.output, HB.out.size, HB.out.block⟩⟩

/-- As Lims, Tasks and Cf, with the room that a slice tells. -/
def LimsC (w : World) (B : Nat) (v : Value) (ls : List (Int × Int)) : Prop :=
  ∃ a cap, v = .slice a ls.length cap ∧ ls.length ≤ cap ∧ (ls = [] ∨ ∃ b o, a = some ⟨b, o, none⟩ ∧ b < B ∧ ∀ i l, ls[i]? = some l → LimAt w b (o + i * 2) l)
def TaskC (w : World) (B : Nat) (v : Value) (t : Tk) : Prop := ∃ s, v = .agg #[.int .i64 t.cost, .int .i64 t.due, s] ∧ LimsC w B s t.lims
def TaskAtC (w : World) (B b o : Nat) (t : Tk) : Prop :=
  w.cell? ⟨b, o, none⟩ = some (.int .i64 t.cost) ∧ w.cell? ⟨b, o + 1, none⟩ = some (.int .i64 t.due) ∧ ∃ s, w.cell? ⟨b, o + 2, none⟩ = some s ∧ LimsC w B s t.lims
def TasksC (w : World) (B : Nat) (v : Value) (ts : List Tk) : Prop :=
  ∃ a cap, v = .slice a ts.length cap ∧ (ts = [] ∨ ∃ b o, a = some ⟨b, o, none⟩ ∧ b < B ∧ ∀ i t, ts[i]? = some t → TaskAtC w B b (o + i * 3) t)
def CfC (w : World) (B : Nat) (v : Value) (c : Cfg) : Prop :=
  ∃ s, v = .agg #[.int .i64 c.lines, .int .i64 c.room, .int .i64 c.poll, .int .i64 c.idle, .int .i64 c.sw, s] ∧ TasksC w B s c.tasks
theorem LimsC.later {w w' : World} {B B' : Nat} {v : Value} {ls : List (Int × Int)} (h : LimsC w B v ls) (hb : Below B' w w') (hle : B ≤ B') : LimsC w' B v ls := by
  obtain ⟨a, cap, hv, hc, h⟩ := h
  exact ⟨a, cap, hv, hc, h.imp id fun ⟨b, o, ha, hlt, hcc⟩ => ⟨b, o, ha, hlt, fun i l hi => (hcc i l hi).later hb (by omega)⟩⟩
theorem TaskAtC.later {w w' : World} {B B' b o : Nat} {t : Tk} (h : TaskAtC w B b o t) (hb : Below B' w w') (hle : B ≤ B') (hlt : b < B') : TaskAtC w' B b o t := by
  obtain ⟨h1, h2, s, h3, h4⟩ := h
  exact ⟨(hb.cell (p := ⟨b, o, none⟩) hlt).trans h1, (hb.cell (p := ⟨b, o + 1, none⟩) hlt).trans h2, s, (hb.cell (p := ⟨b, o + 2, none⟩) hlt).trans h3, h4.later hb hle⟩
theorem TasksC.later {w w' : World} {B B' : Nat} {v : Value} {ts : List Tk} (h : TasksC w B v ts) (hb : Below B' w w') (hle : B ≤ B') : TasksC w' B v ts := by
  obtain ⟨a, cap, hv, h⟩ := h
  exact ⟨a, cap, hv, h.imp id fun ⟨b, o, ha, hlt, hc⟩ => ⟨b, o, ha, hlt, fun i l hi => (hc i l hi).later hb hle (by omega)⟩⟩
theorem CfC.later {w w' : World} {B B' : Nat} {v : Value} {c : Cfg} (h : CfC w B v c) (hb : Below B' w w') (hle : B ≤ B') : CfC w' B v c := by
  obtain ⟨s, hv, hl⟩ := h
  exact ⟨s, hv, hl.later hb hle⟩
theorem LimsC.lims {w : World} {B : Nat} {v : Value} {ls : List (Int × Int)} (h : LimsC w B v ls) : Lims w B v ls := by
  obtain ⟨a, cap, hv, _, h⟩ := h
  exact ⟨a, cap, hv, h⟩
theorem CfC.cf {w : World} {B : Nat} {v : Value} {c : Cfg} (h : CfC w B v c) : Cf w B v c := by
  obtain ⟨s, hv, a, cap, hs, h⟩ := h
  refine ⟨s, hv, a, cap, hs, h.imp id fun ⟨b, o, ha, hb, hc⟩ => ⟨b, o, ha, hb, fun i t hi => ?_⟩⟩
  obtain ⟨h1, h2, s', h3, h4⟩ := hc i t hi
  exact ⟨h1, h2, s', h3, h4.lims⟩

set_option maxRecDepth 100000 in
set_option maxHeartbeats 800000 in
theorem most_any (B : Nat) (v : Value) (t : Tk) (k : Int) (w : World) (hv : TaskC w B v t) (hB : B ≤ w.heap.size) (ht : TkIn t) (hk : k ≤ 30000000) (hk0 : -2000 ≤ k) :
    Calls Tryz.prog 83 #[v, .int .i64 k] w fun e w' => e = .returned (.int .i64 (mostI t k)) ∧ Below w.heap.size w w' := by
  obtain ⟨s, rfl, a, cap, rfl, hcap, hls⟩ := hv
  obtain ⟨cost, due, lims⟩ := t
  simp only at hcap hls ⊢
  by_cases hk1 : k ≤ 0
  · have HE : Hid (mostI ⟨cost, due, lims⟩ k = 0) := by simp [Hid, mostI, hk1]
    go_enter Tryz.func83, Tryz.ntmps83
    go_wp2
    go_ret
    exact ⟨ret_int HE.out.symm, (Below.refl _ _).alloc (Nat.le_refl _) _⟩
  · have hlen := ht.l1
    have hin := ht.ls
    simp only at hlen hin
    cases hl : lims with
    | nil => rw [hl] at hlen; simp at hlen
    | cons l0 r =>
      subst hl
      rcases hls with h0 | ⟨b, o, rfl, hb, hc⟩
      · cases h0
      obtain ⟨l1, l2⟩ := l0
      have HE : Hid (mostI ⟨cost, due, (l1, l2) :: r⟩ k = r.foldl (fun m l => min m (atMostI l k)) (atMostI (l1, l2) k)) := by simp [Hid, mostI, hk1, mostL]
      obtain ⟨c0, c1⟩ := hc 0 _ rfl
      have hi0 := hin (l1, l2) (by simp)
      obtain ⟨i1, i2, i3, i4⟩ := hi0
      simp only at i1 i2 i3 i4 c0 c1
      simp only [Nat.zero_mul, Nat.add_zero] at c0 c1
      have HC := hide hc
      have HIN := hide hin
      have hbw : b < w.heap.size := by omega
      simp only [List.length_cons] at hcap hlen
      have hr3 : r.length + 1 ≤ 3 := ht.l2
      by_cases hcap1 : cap = 1
      · subst hcap1
        obtain rfl : r = [] := List.length_eq_zero_iff.1 (by omega)
        have HAM := hide (fun w' => atMost_any l1 l2 k w' i1 i2 i3 i4 (by omega) hk)
        have HB1 : Hid (Below w.heap.size w (w.alloc (.cells #[.int .i64 cost, .int .i64 due, .slice (some ⟨b, o, none⟩) 1 1] 55))) := (Below.refl _ _).alloc (Nat.le_refl _) _
        have HK1 := hide (Blk.new w #[.int .i64 cost, .int .i64 due, .slice (some ⟨b, o, none⟩) 1 1] 55)
        simp only [List.foldl_nil] at HE ⊢
        clear hc hin hlen hcap hr3 HC HIN
        go_enter Tryz.func83, Tryz.ntmps83
        go_wp2_with fail
        refine (HAM.out _).mono ?_
        rintro e w2 ⟨rfl, q2⟩
        have HB2 := hide (HB1.out.trans (q2.mono (by simp)))
        have HK2 := hide (HK1.out.later q2 (by simp))
        have hz2 := q2.size
        simp only [World.size_alloc] at hz2
        have x2 : w2.cell? ⟨w.heap.size, 2, none⟩ = some (.slice (some ⟨b, o, none⟩) 1 1) := HK2.out.cell 2
        clear q2
        go_wp2_with fail
        go_loopw [5, 20] (fun m i wr => m = .int .i64 (atMostI (l1, l2) k) ∧ i = .int .i64 0 ∧ Below w.heap.size w wr) (fun _ _ _ => 0)
        case atStart => exact ⟨rfl, rfl, HB2.out⟩
        case round =>
          obtain ⟨rfl, rfl, hbe⟩ := hrel
          have HBE := hide hbe
          clear hbe
          go_wp2
          go_ret
          exact ⟨ret_int HE.out.symm, HBE.out⟩
      · have HAM := hide (fun w' => atMost_any l1 l2 k w' i1 i2 i3 i4 (by omega) hk)
        have HB1 : Hid (Below w.heap.size w (w.alloc (.cells #[.int .i64 cost, .int .i64 due, .slice (some ⟨b, o, none⟩) (r.length + 1) cap] 55))) := (Below.refl _ _).alloc (Nat.le_refl _) _
        have HK1 := hide (Blk.new w #[.int .i64 cost, .int .i64 due, .slice (some ⟨b, o, none⟩) (r.length + 1) cap] 55)
        clear hc hin
        go_enter Tryz.func83, Tryz.ntmps83
        go_wp2_with fail
        refine (HAM.out _).mono ?_
        rintro e w2 ⟨rfl, q2⟩
        have HB2 := hide (HB1.out.trans (q2.mono (by simp)))
        have HK2 := hide (HK1.out.later q2 (by simp))
        have hz2 := q2.size
        simp only [World.size_alloc] at hz2
        have x2 : w2.cell? ⟨w.heap.size, 2, none⟩ = some (.slice (some ⟨b, o, none⟩) (r.length + 1) cap) := HK2.out.cell 2
        clear q2
        go_wp2_with fail
        go_loopw [5, 20] (fun m i wr => ∃ q : Nat, i = .int .i64 q ∧ q ≤ r.length ∧ m = .int .i64 ((r.take q).foldl (fun m l => min m (atMostI l k)) (atMostI (l1, l2) k)) ∧ Below w.heap.size w wr) (fun _ i _ => r.length - (intOf i).toNat)
        case atStart => exact ⟨0, rfl, Nat.zero_le _, by simp, HB2.out⟩
        case round =>
          obtain ⟨q, rfl, hq, rfl, hbe⟩ := hrel
          have HBE := hide hbe
          have hsz := hbe.size
          clear hbe
          have hbd := foldl_min_bounds (k := k) (B := 20 * k) (by omega) (Int.le_refl _) (r.take q) (atMostI (l1, l2) k) (atMost_bounds (by omega) i1 i3 i4).1 (atMost_bounds (by omega) i1 i3 i4).2 (fun x hx => HIN.out x (by simp [List.mem_of_mem_take hx]))
          obtain ⟨hbd0, hbd1⟩ := hbd
          by_cases hlt : q < r.length
          · obtain ⟨⟨m1, m2⟩, hg⟩ := get_of_lt (l := r) (k := q) hlt
            obtain ⟨d0, d1⟩ := (HC.out (q + 1) _ (by simpa using hg)).later HBE.out (by omega)
            simp only at d0 d1
            have hi := HIN.out (m1, m2) (by simp [List.mem_of_getElem? hg])
            obtain ⟨j1, j2, j3, j4⟩ := hi
            simp only at j1 j2 j3 j4
            have HTK := hide (take_snoc hg)
            have HAM2 := hide (fun w' => atMost_any m1 m2 k w' j1 j2 j3 j4 (by omega) hk)
            have hqi : (q : Int) < (r.length : Int) := by omega
            have hbr : b < wr.heap.size := by omega
            rw [show o + (q + 1) * 2 = o + 2 + q * 2 from by omega] at d0 d1
            generalize hM : (r.take q).foldl (fun m l => min m (atMostI l k)) (atMostI (l1, l2) k) = M at *
            have HMM := hide hM
            have hb2 := atMost_bounds (l := (m1, m2)) (k := k) (by omega) j1 j3 j4
            obtain ⟨hb20, hb21⟩ := hb2
            clear hg hM
            go_wp2_with fail
            refine (HAM2.out _).mono ?_
            rintro e w3 ⟨rfl, q3⟩
            have HB3 : Hid (Below w.heap.size w w3) := (HBE.out.alloc hsz _).trans (q3.mono (by simp; omega))
            clear q3
            go_wp2
            go_roundw
            case rel =>
              refine ⟨q + 1, by go_num, by omega, ?_, HB3.out⟩
              rw [HTK.out, List.foldl_append, HMM.out]
              show Value.int .i64 _ = Value.int .i64 (min M (atMostI (m1, m2) k))
              congr 1
              split <;> omega
            case measure => simp [intOf]; omega
          · have hqe : q = r.length := by omega
            have hqi : ¬ (q : Int) < (r.length : Int) := by omega
            rw [hqe, List.take_length]
            go_wp2
            go_ret
            exact ⟨ret_int HE.out.symm, HBE.out⟩

end Go.Proofs.YthloffgebebijaaGreat

/- AheadC: the walks of package ahead's price, longest, demand. -/
namespace Go.Proofs.YthloffgebebijaaGreat
open Go.RowKit

set_option maxRecDepth 100000 in
set_option maxHeartbeats 400000 in
theorem aPrice_any (x1 x2 x3 x4 x5 : Int) (s s2 : Value) (cost due : Int) (w : World) (h3 : 1 ≤ x3 ∧ x3 ≤ 20) (h5 : 0 ≤ x5 ∧ x5 ≤ 20) (hc : 1 ≤ cost ∧ cost ≤ 50) (sa sb : Option Addr) (n m ca cb : Nat) (hs : s = .slice sa n ca) (hs2 : s2 = .slice sb m cb) :
    Calls Tryz.prog 115 #[.agg #[.int .i64 x1, .int .i64 x2, .int .i64 x3, .int .i64 x4, .int .i64 x5, s], .agg #[.int .i64 cost, .int .i64 due, s2]] w fun e w' => e = .returned (.int .i64 (x3 + x5 + cost)) ∧ Below w.heap.size w w' := by
  subst hs
  subst hs2
  obtain ⟨h3, h3'⟩ := h3; obtain ⟨h5, h5'⟩ := h5; obtain ⟨hc, hc'⟩ := hc
  go_enter Tryz.func115, Tryz.ntmps115
  go_wp2
  go_ret
  exact ⟨rfl, ((Below.refl _ _).alloc (Nat.le_refl _) _).alloc (by simp) _⟩

set_option maxRecDepth 100000 in
set_option maxHeartbeats 800000 in
theorem aLongest_any (B : Nat) (v : Value) (c : Cfg) (w : World) (hv : CfC w B v c) (hB : B ≤ w.heap.size) (hc : CfIn c) :
    Calls Tryz.prog 100 #[v] w fun e w' => e = .returned (.int .i64 (longestI c)) ∧ Below w.heap.size w w' := by
  have HCI := hide hc
  have HLT := hide (fun k => longest_take hc k)
  have HE : Hid (longestI c = c.tasks.foldl (fun m t => max m (priceI c t)) (c.poll + c.idle)) := rfl
  obtain ⟨s, rfl, sa, scap, rfl, hs⟩ := hv
  obtain ⟨x1, x2, x3, x4, x5, ts⟩ := c
  have h1 := hc.p1; have h2 := hc.p2; have h3 := hc.i1; have h4 := hc.i2; have h5 := hc.s1; have h6 := hc.s2; have hn := hc.n2
  simp only at hs h1 h2 h3 h4 h5 h6 hn HLT HE ⊢
  have HC := hide hs
  generalize hN : ts.length = n at *
  have HN := hide hN
  have HB1 : Hid (Below w.heap.size w (w.alloc (.cells #[.int .i64 x1, .int .i64 x2, .int .i64 x3, .int .i64 x4, .int .i64 x5, .slice sa n scap] 40))) := (Below.refl _ _).alloc (Nat.le_refl _) _
  have HK1 := hide (Blk.new w #[.int .i64 x1, .int .i64 x2, .int .i64 x3, .int .i64 x4, .int .i64 x5, .slice sa n scap] 40)
  clear hN hs hc
  go_enter Tryz.func100, Tryz.ntmps100
  go_wp2_with fail
  go_loopw [3, 14] (fun m i wr => ∃ q : Nat, i = .int .i64 q ∧ q ≤ n ∧ m = .int .i64 ((ts.take q).foldl (fun m t => max m (priceI ⟨x1, x2, x3, x4, x5, ts⟩ t)) (x3 + x4)) ∧ Below w.heap.size w wr ∧ Blk wr w.heap.size #[.int .i64 x1, .int .i64 x2, .int .i64 x3, .int .i64 x4, .int .i64 x5, .slice sa n scap] 40) (fun _ i _ => n - (intOf i).toNat)
  case atStart => exact ⟨0, rfl, Nat.zero_le _, by simp, HB1.out, HK1.out⟩
  case round =>
    obtain ⟨q, rfl, hq, rfl, hbe, hk⟩ := hrel
    have HBE := hide hbe
    have HK := hide hk
    have hsz := hbe.size
    have hzk := hk.lt
    obtain ⟨hm0, hm1⟩ := HLT.out q
    have k0 : wr.cell? ⟨w.heap.size, 0, none⟩ = some (.int .i64 x1) := hk.cell 0
    have k1 : wr.cell? ⟨w.heap.size, 1, none⟩ = some (.int .i64 x2) := hk.cell 1
    have k2 : wr.cell? ⟨w.heap.size, 2, none⟩ = some (.int .i64 x3) := hk.cell 2
    have k3 : wr.cell? ⟨w.heap.size, 3, none⟩ = some (.int .i64 x4) := hk.cell 3
    have k4 : wr.cell? ⟨w.heap.size, 4, none⟩ = some (.int .i64 x5) := hk.cell 4
    have k5 : wr.cell? ⟨w.heap.size, 5, none⟩ = some (.slice sa n scap) := hk.cell 5
    clear hbe hk
    by_cases hlt : q < n
    · obtain ⟨t, hg⟩ := get_of_lt (l := ts) (k := q) (by rw [HN.out]; exact hlt)
      have hti := HCI.out.ts t (List.mem_of_getElem? hg)
      rcases HC.out with he | ⟨sb, so, rfl, hsb, hsc⟩
      · rw [he] at hg; simp at hg
      obtain ⟨d0, d1, sl, d2, hls⟩ := (hsc q _ hg).later HBE.out hB (by omega)
      have HTK := hide (take_snoc hg)
      have ht1 := hti.c1; have ht2 := hti.c2
      obtain ⟨cost, due, lims⟩ := t
      simp only at d0 d1 ht1 ht2
      obtain ⟨la, lc, rfl, _, _⟩ := hls
      have hqi : (q : Int) < (n : Int) := by omega
      have hsbw : sb < wr.heap.size := by omega
      generalize hM : (ts.take q).foldl (fun m t => max m (priceI ⟨x1, x2, x3, x4, x5, ts⟩ t)) (x3 + x4) = M at *
      have HMM := hide hM
      clear hg hM hsc
      go_wp2_with fail
      refine (aPrice_any x1 x2 x3 x4 x5 _ _ cost due _ ⟨h1, h2⟩ ⟨h5, h6⟩ ⟨ht1, ht2⟩ _ _ _ _ _ _ rfl rfl).mono ?_
      rintro e w3 ⟨rfl, q3⟩
      have HB3 : Hid (Below w.heap.size w w3) := (HBE.out.alloc hsz _).trans (q3.mono (by simp; omega))
      have HK3 := hide ((HK.out.alloc (.cells #[.int .i64 cost, .int .i64 due, .slice la lims.length lc] 55)).later q3 (by simp; omega))
      clear q3 k0 k1 k2 k3 k4 k5 d0 d1 d2
      go_wp2
      go_roundw
      case rel =>
        refine ⟨q + 1, by go_num, by omega, ?_, HB3.out, HK3.out⟩
        rw [HTK.out, List.foldl_append, HMM.out]
        show Value.int .i64 _ = Value.int .i64 (max M (x3 + x5 + cost))
        congr 1
        split <;> omega
      case measure => simp [intOf]; omega
    · have hqi : ¬ (q : Int) < (n : Int) := by omega
      rw [List.take_of_length_le (by rw [HN.out]; omega)]
      go_wp2
      go_ret
      exact ⟨ret_int HE.out.symm, HBE.out⟩

end Go.Proofs.YthloffgebebijaaGreat

/- AheadD: the walk of package ahead's demand. -/
namespace Go.Proofs.YthloffgebebijaaGreat
open Go.RowKit

theorem undrewB {w w' : World} (h : Below w.drew.heap.size w.drew w') : Below w.heap.size w w' := ⟨h.os, h.tape, h.output, h.size, h.block⟩

set_option maxRecDepth 100000 in
set_option maxHeartbeats 1600000 in
theorem aDemand_any (B : Nat) (v : Value) (c : Cfg) (nn : Int) (w : World) (hv : CfC w B v c) (hB : B ≤ w.heap.size) (hc : CfIn c) (hn0 : 0 ≤ nn) (hn1 : nn ≤ 1400) :
    Calls Tryz.prog 99 #[v, .int .i64 nn] w fun e w' => e = .returned (.int .i64 (demandI c nn)) ∧ Below w.heap.size w w' := by
  have HCI := hide hc
  have HLT := hide (fun k => demand_take hc hn1 k)
  have HTM : Hid (∀ t, TkIn t → 0 ≤ mostI t (nn - t.due) * priceI c t ∧ mostI t (nn - t.due) * priceI c t ≤ 1800 * 1400) := fun t ht => term_bounds hc ht (by have := ht.d1; omega) (by decide)
  have HE : Hid (demandI c nn = c.tasks.foldl (fun s t => s + mostI t (nn - t.due) * priceI c t) 0) := rfl
  obtain ⟨s, rfl, sa, scap, rfl, hs⟩ := hv
  obtain ⟨x1, x2, x3, x4, x5, ts⟩ := c
  have h1 := hc.p1; have h2 := hc.p2; have h5 := hc.s1; have h6 := hc.s2; have hn := hc.n2
  simp only at hs h1 h2 h5 h6 hn HLT HE HTM ⊢
  have HC := hide hs
  generalize hN : ts.length = n at *
  have HN := hide hN
  have HB1 : Hid (Below w.heap.size w (w.alloc (.cells #[.int .i64 x1, .int .i64 x2, .int .i64 x3, .int .i64 x4, .int .i64 x5, .slice sa n scap] 40))) := (Below.refl _ _).alloc (Nat.le_refl _) _
  have HK1 := hide (Blk.new w #[.int .i64 x1, .int .i64 x2, .int .i64 x3, .int .i64 x4, .int .i64 x5, .slice sa n scap] 40)
  clear hN hs hc
  go_enter Tryz.func99, Tryz.ntmps99
  go_wp2_with fail
  go_loopw [5, 11] (fun m i wr => ∃ q : Nat, i = .int .i64 q ∧ q ≤ n ∧ m = .int .i64 ((ts.take q).foldl (fun s t => s + mostI t (nn - t.due) * priceI ⟨x1, x2, x3, x4, x5, ts⟩ t) 0) ∧ Below w.heap.size w wr ∧ Blk wr w.heap.size #[.int .i64 x1, .int .i64 x2, .int .i64 x3, .int .i64 x4, .int .i64 x5, .slice sa n scap] 40) (fun _ i _ => n - (intOf i).toNat)
  case atStart => exact ⟨0, rfl, Nat.zero_le _, by simp, HB1.out, HK1.out⟩
  case round =>
    obtain ⟨q, rfl, hq, rfl, hbe, hk⟩ := hrel
    have HBE := hide hbe
    have HK := hide hk
    have hsz := hbe.size
    have hzk := hk.lt
    obtain ⟨hm0, hm1⟩ := HLT.out q
    clear hbe hk
    by_cases hlt : q < n
    · obtain ⟨t, hg⟩ := get_of_lt (l := ts) (k := q) (by rw [HN.out]; exact hlt)
      have hti := HCI.out.ts t (List.mem_of_getElem? hg)
      have HTI := hide hti
      rcases HC.out with he | ⟨sb, so, rfl, hsb, hsc⟩
      · rw [he] at hg; simp at hg
      obtain ⟨d0, d1, sl, d2, hls⟩ := (hsc q _ hg).later HBE.out hB (by omega)
      have HTK := hide (take_snoc hg)
      have ht1 := hti.c1; have ht2 := hti.c2; have ht3 := hti.d1; have ht4 := hti.d2
      obtain ⟨htm0, htm1⟩ := HTM.out t hti
      have hmb := most_bounds hti.ls (k := nn - t.due) (K := 1400) (by omega) (by decide)
      obtain ⟨hmb0, hmb1⟩ := hmb
      obtain ⟨cost, due, lims⟩ := t
      simp only at d0 d1 ht1 ht2 ht3 ht4 hls hmb0 hmb1
      have HLC := hide hls
      obtain ⟨la, lc, rfl, _, _⟩ := hls
      have hqi : (q : Int) < (n : Int) := by omega
      have hsbw : sb < wr.heap.size := by omega
      have HBA : Hid (Below wr.heap.size wr (wr.alloc (.cells #[.int .i64 cost, .int .i64 due, .slice la lims.length lc] 55))) := (Below.refl _ _).alloc (Nat.le_refl _) _
      have HPE : Hid (priceI ⟨x1, x2, x3, x4, x5, ts⟩ ⟨cost, due, lims⟩ = x3 + x5 + cost) := rfl
      have HMO := hide (fun (w' : World) (hb' : Below wr.heap.size wr w') => most_any B (.agg #[.int .i64 cost, .int .i64 due, .slice la lims.length lc]) ⟨cost, due, lims⟩ (nn - due) w' ⟨_, rfl, HLC.out.later hb' (by omega)⟩ (by have := hb'.size; omega) HTI.out (by omega) (by omega))
      have HPR := hide (fun w' => aPrice_any x1 x2 x3 x4 x5 (.slice (some ⟨sb, so, none⟩) n scap) (.slice la lims.length lc) cost due w' ⟨h1, h2⟩ ⟨h5, h6⟩ ⟨ht1, ht2⟩ _ _ _ _ _ _ rfl rfl)
      rw [HPE.out] at htm0 htm1
      generalize hS : (ts.take q).foldl (fun s t => s + mostI t (nn - t.due) * priceI ⟨x1, x2, x3, x4, x5, ts⟩ t) 0 = Sm at *
      generalize hM : mostI ⟨cost, due, lims⟩ (nn - due) = M at *
      have HSS := hide hS
      have HMM := hide hM
      have we0 : IntKind.i64.wrap (nn - due) = nn - due := IntWalk.i64_in _ ⟨by omega, by omega⟩
      have we1 : IntKind.i64.wrap (M * (x3 + x5 + cost)) = M * (x3 + x5 + cost) := IntWalk.i64_in _ ⟨by omega, by omega⟩
      have we2 : IntKind.i64.wrap (Sm + M * (x3 + x5 + cost)) = Sm + M * (x3 + x5 + cost) := IntWalk.i64_in _ ⟨by omega, by omega⟩
      clear hg hM hS hsc
      go_wp2_with fail
      have k0 : (wr.alloc (.cells #[.int .i64 cost, .int .i64 due, .slice la lims.length lc] 55)).cell? ⟨w.heap.size, 0, none⟩ = some (.int .i64 x1) := (HK.out.alloc _).cell 0
      have k1 : (wr.alloc (.cells #[.int .i64 cost, .int .i64 due, .slice la lims.length lc] 55)).cell? ⟨w.heap.size, 1, none⟩ = some (.int .i64 x2) := (HK.out.alloc _).cell 1
      have k2 : (wr.alloc (.cells #[.int .i64 cost, .int .i64 due, .slice la lims.length lc] 55)).cell? ⟨w.heap.size, 2, none⟩ = some (.int .i64 x3) := (HK.out.alloc _).cell 2
      have k3 : (wr.alloc (.cells #[.int .i64 cost, .int .i64 due, .slice la lims.length lc] 55)).cell? ⟨w.heap.size, 3, none⟩ = some (.int .i64 x4) := (HK.out.alloc _).cell 3
      have k4 : (wr.alloc (.cells #[.int .i64 cost, .int .i64 due, .slice la lims.length lc] 55)).cell? ⟨w.heap.size, 4, none⟩ = some (.int .i64 x5) := (HK.out.alloc _).cell 4
      have k5 : (wr.alloc (.cells #[.int .i64 cost, .int .i64 due, .slice la lims.length lc] 55)).cell? ⟨w.heap.size, 5, none⟩ = some (.slice (some ⟨sb, so, none⟩) n scap) := (HK.out.alloc _).cell 5
      have kt0 : (wr.alloc (.cells #[.int .i64 cost, .int .i64 due, .slice la lims.length lc] 55)).cell? ⟨wr.heap.size, 0, none⟩ = some (.int .i64 cost) := (Blk.new wr _ _).cell 0
      have kt1 : (wr.alloc (.cells #[.int .i64 cost, .int .i64 due, .slice la lims.length lc] 55)).cell? ⟨wr.heap.size, 1, none⟩ = some (.int .i64 due) := (Blk.new wr _ _).cell 1
      have kt2 : (wr.alloc (.cells #[.int .i64 cost, .int .i64 due, .slice la lims.length lc] 55)).cell? ⟨wr.heap.size, 2, none⟩ = some (.slice la lims.length lc) := (Blk.new wr _ _).cell 2
      have hza : (wr.alloc (.cells #[.int .i64 cost, .int .i64 due, .slice la lims.length lc] 55)).heap.size = wr.heap.size + 1 := by simp
      have HKA := hide (HK.out.alloc (.cells #[.int .i64 cost, .int .i64 due, .slice la lims.length lc] 55))
      generalize hWA : wr.alloc (.cells #[.int .i64 cost, .int .i64 due, .slice la lims.length lc] 55) = WA at *
      clear hWA
      go_region_held3 (fun w' => w'.cell? ⟨w.heap.size, 0, none⟩ = some (.int .i64 x1) ∧ w'.cell? ⟨w.heap.size, 1, none⟩ = some (.int .i64 x2) ∧ w'.cell? ⟨w.heap.size, 2, none⟩ = some (.int .i64 x3) ∧ w'.cell? ⟨w.heap.size, 3, none⟩ = some (.int .i64 x4) ∧ w'.cell? ⟨w.heap.size, 4, none⟩ = some (.int .i64 x5) ∧ w'.cell? ⟨w.heap.size, 5, none⟩ = some (.slice (some ⟨sb, so, none⟩) n scap) ∧ w'.cell? ⟨wr.heap.size, 0, none⟩ = some (.int .i64 cost) ∧ w'.cell? ⟨wr.heap.size, 1, none⟩ = some (.int .i64 due) ∧ w'.cell? ⟨wr.heap.size, 2, none⟩ = some (.slice la lims.length lc)) (first | exact ⟨k0, k1, k2, k3, k4, k5, kt0, kt1, kt2⟩ | exact ⟨z0, z1, z2, z3, z4, z5, zt0, zt1, zt2⟩ | exact ⟨u0, u1, u2, u3, u4, u5, ut0, ut1, ut2⟩)
        (first
          | (go_at_call 83; refine (HMO.out WA.drew HBA.out.drew).mono ?_; rintro e w3 ⟨rfl, b3⟩; have z0 := (b3.cell (p := ⟨w.heap.size, 0, none⟩) (by simp; omega)).trans k0; have z1 := (b3.cell (p := ⟨w.heap.size, 1, none⟩) (by simp; omega)).trans k1; have z2 := (b3.cell (p := ⟨w.heap.size, 2, none⟩) (by simp; omega)).trans k2; have z3 := (b3.cell (p := ⟨w.heap.size, 3, none⟩) (by simp; omega)).trans k3; have z4 := (b3.cell (p := ⟨w.heap.size, 4, none⟩) (by simp; omega)).trans k4; have z5 := (b3.cell (p := ⟨w.heap.size, 5, none⟩) (by simp; omega)).trans k5; have zt0 := (b3.cell (p := ⟨wr.heap.size, 0, none⟩) (by simp; omega)).trans kt0; have zt1 := (b3.cell (p := ⟨wr.heap.size, 1, none⟩) (by simp; omega)).trans kt1; have zt2 := (b3.cell (p := ⟨wr.heap.size, 2, none⟩) (by simp; omega)).trans kt2; have hz3 : WA.heap.size ≤ w3.heap.size := b3.size; have HB3 := hide b3; clear b3)
          | (go_at_call 115; refine (HPR.out w3).mono ?_; rintro e w4 ⟨rfl, b4⟩; have u0 := (b4.cell (p := ⟨w.heap.size, 0, none⟩) (by simp; omega)).trans z0; have u1 := (b4.cell (p := ⟨w.heap.size, 1, none⟩) (by simp; omega)).trans z1; have u2 := (b4.cell (p := ⟨w.heap.size, 2, none⟩) (by simp; omega)).trans z2; have u3 := (b4.cell (p := ⟨w.heap.size, 3, none⟩) (by simp; omega)).trans z3; have u4 := (b4.cell (p := ⟨w.heap.size, 4, none⟩) (by simp; omega)).trans z4; have u5 := (b4.cell (p := ⟨w.heap.size, 5, none⟩) (by simp; omega)).trans z5; have ut0 := (b4.cell (p := ⟨wr.heap.size, 0, none⟩) (by simp; omega)).trans zt0; have ut1 := (b4.cell (p := ⟨wr.heap.size, 1, none⟩) (by simp; omega)).trans zt1; have ut2 := (b4.cell (p := ⟨wr.heap.size, 2, none⟩) (by simp; omega)).trans zt2; have HB4 := hide b4; clear b4))
      have HBF : Hid (Below WA.heap.size WA w4) := (undrewB HB3.out).trans (HB4.out.mono hz3)
      have HKF := hide (HKA.out.later HBF.out (by omega))
      have HBW : Hid (Below w.heap.size w w4) := (HBE.out.trans (HBA.out.mono hsz)).trans (HBF.out.mono (by omega))
      go_wp2
      go_roundw
      case rel =>
        refine ⟨q + 1, by go_num, by omega, ?_, HBW.out, HKF.out⟩
        rw [HTK.out, List.foldl_append, HSS.out]
        show Value.int .i64 _ = Value.int .i64 (Sm + mostI ⟨cost, due, lims⟩ (nn - due) * priceI ⟨x1, x2, x3, x4, x5, ts⟩ ⟨cost, due, lims⟩)
        rw [HMM.out, HPE.out]
      case measure => simp [intOf]; omega
    · have hqi : ¬ (q : Int) < (n : Int) := by omega
      rw [List.take_of_length_le (by rw [HN.out]; omega)]
      go_wp2
      go_ret
      exact ⟨ret_int HE.out.symm, HBE.out⟩

end Go.Proofs.YthloffgebebijaaGreat

/- AheadE: the walk of package ahead's bound. -/
namespace Go.Proofs.YthloffgebebijaaGreat
open Go.RowKit

set_option maxRecDepth 100000 in
set_option maxHeartbeats 1600000 in
theorem aBound_any (B : Nat) (v vt : Value) (c : Cfg) (t : Tk) (w : World) (hv : CfC w B v c) (hvt : TaskC w B vt t) (hB : B ≤ w.heap.size) (hc : CfIn c) (ht : TkIn t) :
    Calls Tryz.prog 82 #[v, vt] w fun e w' => e = .returned (.int .i64 (boundI c t)) ∧ Below w.heap.size w w' := by
  have HCI := hide hc
  have HV := hide hv
  have HDB : Hid (∀ n : Int, n ≤ 1400 → 0 ≤ demandI c n ∧ demandI c n ≤ 20000000) := fun n hn => demand_bounds hc hn
  have HWB : Hid (∀ i : Nat, t.due + 1 + i ≤ 1400 → -1400 ≤ worstI c (t.due + 1) i ∧ worstI c (t.due + 1) i ≤ 20000000) := fun i hi => worst_bounds hc (by have := ht.d1; omega) i hi
  have HLB := hide (longest_bounds hc)
  have HE : Hid (boundI c t = t.due + longestI c + worstI c (t.due + 1) 999) := rfl
  have HDM := hide (fun (nn : Int) (w' : World) (hb' : Below w.heap.size w w') (h0 : 0 ≤ nn) (h1 : nn ≤ 1400) => aDemand_any B v c nn w' (hv.later hb' hB) (by have := hb'.size; omega) hc h0 h1)
  have HLG := hide (fun (w' : World) (hb' : Below w.heap.size w w') => aLongest_any B v c w' (hv.later hb' hB) (by have := hb'.size; omega) hc)
  have ht3 := ht.d1; have ht4 := ht.d2
  have HWS : Hid (∀ i : Nat, worstI c (t.due + 1) (i + 1) = max (worstI c (t.due + 1) i) (demandI c (t.due + 1 + (i + 1)) - (t.due + 1 + (i + 1)))) := fun _ => rfl
  have HW0 : Hid (worstI c (t.due + 1) 0 = demandI c (t.due + 1) - (t.due + 1)) := rfl
  obtain ⟨s, rfl, sa, scap, rfl, hs⟩ := hv
  obtain ⟨s2, rfl, la, lc, rfl, hl1, hl2⟩ := hvt
  obtain ⟨x1, x2, x3, x4, x5, ts⟩ := c
  obtain ⟨cost, due, lims⟩ := t
  simp only at ht3 ht4 HE HWB HWS HW0 HDM HLG HV ⊢
  generalize hN : ts.length = n at *
  generalize hC : (⟨x1, x2, x3, x4, x5, ts⟩ : Cfg) = C at *
  have HB1 : Hid (Below w.heap.size w ((w.alloc (.cells #[.int .i64 x1, .int .i64 x2, .int .i64 x3, .int .i64 x4, .int .i64 x5, .slice sa n scap] 40)).alloc (.cells #[.int .i64 cost, .int .i64 due, .slice la lims.length lc] 55))) := ((Below.refl _ _).alloc (Nat.le_refl _) _).alloc (by simp) _
  have HK1 : Hid (Blk ((w.alloc (.cells #[.int .i64 x1, .int .i64 x2, .int .i64 x3, .int .i64 x4, .int .i64 x5, .slice sa n scap] 40)).alloc (.cells #[.int .i64 cost, .int .i64 due, .slice la lims.length lc] 55)) w.heap.size #[.int .i64 x1, .int .i64 x2, .int .i64 x3, .int .i64 x4, .int .i64 x5, .slice sa n scap] 40) := (Blk.new _ _ _).alloc _
  have HT1 : Hid (Blk ((w.alloc (.cells #[.int .i64 x1, .int .i64 x2, .int .i64 x3, .int .i64 x4, .int .i64 x5, .slice sa n scap] 40)).alloc (.cells #[.int .i64 cost, .int .i64 due, .slice la lims.length lc] 55)) (w.heap.size + 1) #[.int .i64 cost, .int .i64 due, .slice la lims.length lc] 55) := by
    have := Blk.new (w.alloc (.cells #[.int .i64 x1, .int .i64 x2, .int .i64 x3, .int .i64 x4, .int .i64 x5, .slice sa n scap] 40)) #[.int .i64 cost, .int .i64 due, .slice la lims.length lc] 55
    simpa [Hid] using this
  clear hN hC hs hl1 hl2 hc ht
  go_enter Tryz.func82, Tryz.ntmps82
  go_wp2_with fail
  refine (HDM.out (due + 1) _ HB1.out (by omega) (by omega)).mono ?_
  rintro e w2 ⟨rfl, q2⟩
  have HB2 := hide (HB1.out.trans (q2.mono (by simp; omega)))
  have HK2 := hide (HK1.out.later q2 (by simp; omega))
  have HT2 := hide (HT1.out.later q2 (by simp))
  obtain ⟨hd0, hd1⟩ := HDB.out (due + 1) (by omega)
  generalize hD0 : demandI C (due + 1) = D0 at *
  clear q2 hD0
  go_wp2_with fail
  go_loopw [7, 8] (fun m i wr => ∃ q : Nat, i = .int .i64 (due + 1 + (q + 1)) ∧ q ≤ 999 ∧ m = .int .i64 (worstI C (due + 1) q) ∧ Below w.heap.size w wr ∧ Blk wr w.heap.size #[.int .i64 x1, .int .i64 x2, .int .i64 x3, .int .i64 x4, .int .i64 x5, .slice sa n scap] 40 ∧ Blk wr (w.heap.size + 1) #[.int .i64 cost, .int .i64 due, .slice la lims.length lc] 55) (fun _ i _ => 1402 - (intOf i).toNat)
  case atStart => exact ⟨0, by go_num, by omega, by rw [HW0.out], HB2.out, HK2.out, HT2.out⟩
  case round =>
    obtain ⟨q, rfl, hq, rfl, hbe, hk, htb⟩ := hrel
    have HBE := hide hbe
    have HK := hide hk
    have HT := hide htb
    have hsz := hbe.size
    have hzk := htb.lt
    have k0 : wr.cell? ⟨w.heap.size, 0, none⟩ = some (.int .i64 x1) := hk.cell 0
    have k1 : wr.cell? ⟨w.heap.size, 1, none⟩ = some (.int .i64 x2) := hk.cell 1
    have k2 : wr.cell? ⟨w.heap.size, 2, none⟩ = some (.int .i64 x3) := hk.cell 2
    have k3 : wr.cell? ⟨w.heap.size, 3, none⟩ = some (.int .i64 x4) := hk.cell 3
    have k4 : wr.cell? ⟨w.heap.size, 4, none⟩ = some (.int .i64 x5) := hk.cell 4
    have k5 : wr.cell? ⟨w.heap.size, 5, none⟩ = some (.slice sa n scap) := hk.cell 5
    have kt : wr.cell? ⟨w.heap.size + 1, 1, none⟩ = some (.int .i64 due) := htb.cell 1
    clear hbe hk htb
    obtain ⟨hw0, hw1⟩ := HWB.out q (by omega)
    by_cases hlt : q < 999
    · have HWq := hide (HWS.out q)
      generalize hWv : worstI C (due + 1) q = Wv at *
      obtain ⟨hd2, hd3⟩ := HDB.out (due + 1 + (q + 1)) (by omega)
      have hle : due + 1 + ((q : Int) + 1) ≤ due + 1000 := by omega
      clear hWv
      go_wp2_with fail
      refine (HDM.out (due + 1 + (q + 1)) _ HBE.out (by omega) (by omega)).mono ?_
      rintro e w3 ⟨rfl, q3⟩
      have HB3 := hide (HBE.out.trans (q3.mono hsz))
      have HK3 := hide (HK.out.later q3 (by omega))
      have HT3 := hide (HT.out.later q3 (by omega))
      generalize hD1 : demandI C (due + 1 + (q + 1)) = D1 at *
      clear q3 hD1 k0 k1 k2 k3 k4 k5 kt
      go_wp2
      go_roundw
      case rel =>
        refine ⟨q + 1, by go_num, by omega, ?_, HB3.out, HK3.out, HT3.out⟩
        rw [HWq.out]
        congr 1
        split <;> omega
      case measure => simp [intOf]; omega
    · obtain rfl : q = 999 := by omega
      have hle : ¬ due + 1 + (((999 : Nat) : Int) + 1) ≤ due + 1000 := by omega
      generalize hWv : worstI C (due + 1) 999 = Wv at *
      obtain ⟨hlb0, hlb1⟩ := HLB.out
      have HLGr := hide (HLG.out wr.drew HBE.out.drew)
      generalize hL : longestI C = Lg at *
      have we1 : IntKind.i64.wrap (due + Lg) = due + Lg := IntWalk.i64_in _ ⟨by omega, by omega⟩
      have we2 : IntKind.i64.wrap (due + Lg + Wv) = due + Lg + Wv := IntWalk.i64_in _ ⟨by omega, by omega⟩
      clear hWv hL
      go_wp2_with fail
      go_region_held3 (fun w' => w'.cell? ⟨w.heap.size, 0, none⟩ = some (.int .i64 x1) ∧ w'.cell? ⟨w.heap.size, 1, none⟩ = some (.int .i64 x2) ∧ w'.cell? ⟨w.heap.size, 2, none⟩ = some (.int .i64 x3) ∧ w'.cell? ⟨w.heap.size, 3, none⟩ = some (.int .i64 x4) ∧ w'.cell? ⟨w.heap.size, 4, none⟩ = some (.int .i64 x5) ∧ w'.cell? ⟨w.heap.size, 5, none⟩ = some (.slice sa n scap) ∧ w'.cell? ⟨w.heap.size + 1, 1, none⟩ = some (.int .i64 due)) (first | exact ⟨k0, k1, k2, k3, k4, k5, kt⟩ | exact ⟨z0, z1, z2, z3, z4, z5, zt⟩)
        (first | (go_at_call 100; refine HLGr.out.mono ?_; rintro e w3 ⟨rfl, b3⟩; have z0 := (b3.cell (p := ⟨w.heap.size, 0, none⟩) (by simp; omega)).trans k0; have z1 := (b3.cell (p := ⟨w.heap.size, 1, none⟩) (by simp; omega)).trans k1; have z2 := (b3.cell (p := ⟨w.heap.size, 2, none⟩) (by simp; omega)).trans k2; have z3 := (b3.cell (p := ⟨w.heap.size, 3, none⟩) (by simp; omega)).trans k3; have z4 := (b3.cell (p := ⟨w.heap.size, 4, none⟩) (by simp; omega)).trans k4; have z5 := (b3.cell (p := ⟨w.heap.size, 5, none⟩) (by simp; omega)).trans k5; have zt := (b3.cell (p := ⟨w.heap.size + 1, 1, none⟩) (by simp; omega)).trans kt; have HB3 := hide b3; clear b3))
      have HBF : Hid (Below w.heap.size w w3) := HBE.out.trans ((undrewB HB3.out).mono hsz)
      go_wp2
      go_ret
      exact ⟨ret_int HE.out.symm, HBF.out⟩

end Go.Proofs.YthloffgebebijaaGreat

/- AheadF: the walk of package ahead's verdict. -/
namespace Go.Proofs.YthloffgebebijaaGreat
open Go.RowKit

/-- The value v reads as the ints xs. -/
def IntsR (w : World) (B : Nat) (v : Value) (xs : List Int) : Prop :=
  ∃ a cap, v = .slice a xs.length cap ∧ (xs = [] ∨ ∃ b o, a = some ⟨b, o, none⟩ ∧ b < B ∧ ∀ i x, xs[i]? = some x → w.cell? ⟨b, o + i, none⟩ = some (.int .i64 x))
theorem IntsR.later {w w' : World} {B B' : Nat} {v : Value} {xs : List Int} (h : IntsR w B v xs) (hb : Below B' w w') (hle : B ≤ B') : IntsR w' B v xs := by
  obtain ⟨a, cap, hv, h⟩ := h
  exact ⟨a, cap, hv, h.imp id fun ⟨b, o, ha, hlt, hc⟩ => ⟨b, o, ha, hlt, fun i x hi => (hb.cell (p := ⟨b, o + i, none⟩) (by simp; omega)).trans (hc i x hi)⟩⟩

set_option maxRecDepth 100000 in
set_option maxHeartbeats 1600000 in
theorem aVerdict_any (B : Nat) (v bv : Value) (c : Cfg) (need : Int) (w : World) (hv : CfC w B v c) (hbv : IntsR w B bv (c.tasks.map (boundI c))) (hB : B ≤ w.heap.size) (hc : CfIn c) (hne : need = needI c) :
    Calls Tryz.prog 84 #[v, bv, .int .i64 need] w fun e w' => e = .returned (.int .i64 (whatI c)) ∧ Below w.heap.size w w' := by
  have HE : Hid (whatI c = if c.tasks.any (fun t => decide (t.due < boundI c t)) = true then 2 else if c.room < need then 3 else 1) := by rw [hne]; rfl
  have HBB : Hid (∀ t ∈ c.tasks, TkIn t) := hc.ts
  obtain ⟨s, rfl, sa, scap, rfl, hs⟩ := hv
  obtain ⟨ba, bcap, rfl, hbs⟩ := hbv
  have HC := hide hs
  have HBS := hide hbs
  generalize hbf : boundI c = bf at *
  clear hbf
  obtain ⟨x1, x2, x3, x4, x5, ts⟩ := c
  have hn := hc.n2
  simp only [List.length_map] at hn HE HBB HC HBS ⊢
  generalize hN : ts.length = n at *
  have HN := hide hN
  have HB1 : Hid (Below w.heap.size w (w.alloc (.cells #[.int .i64 x1, .int .i64 x2, .int .i64 x3, .int .i64 x4, .int .i64 x5, .slice sa n scap] 40))) := (Below.refl _ _).alloc (Nat.le_refl _) _
  have HK1 := hide (Blk.new w #[.int .i64 x1, .int .i64 x2, .int .i64 x3, .int .i64 x4, .int .i64 x5, .slice sa n scap] 40)
  clear hN hs hbs hc hne
  go_enter Tryz.func84, Tryz.ntmps84
  go_wp2_with fail
  go_loopw [12] (fun i wr => ∃ q : Nat, i = .int .i64 q ∧ q ≤ n ∧ (ts.take q).any (fun t => decide (t.due < bf t)) = false ∧ Below w.heap.size w wr ∧ Blk wr w.heap.size #[.int .i64 x1, .int .i64 x2, .int .i64 x3, .int .i64 x4, .int .i64 x5, .slice sa n scap] 40) (fun i _ => n - (intOf i).toNat)
  case atStart => exact ⟨0, rfl, Nat.zero_le _, by simp, HB1.out, HK1.out⟩
  case round =>
    obtain ⟨q, rfl, hq, hany, hbe, hk⟩ := hrel
    have HANY := hide hany
    have HBE := hide hbe
    have HK := hide hk
    have hsz := hbe.size
    have hzk := hk.lt
    have k1 : wr.cell? ⟨w.heap.size, 1, none⟩ = some (.int .i64 x2) := hk.cell 1
    clear hbe hk hany
    by_cases hlt : q < n
    · obtain ⟨t, hg⟩ := get_of_lt (l := ts) (k := q) (by rw [HN.out]; exact hlt)
      rcases HC.out with he | ⟨sb, so, rfl, hsb, hsc⟩
      · rw [he] at hg; simp at hg
      obtain ⟨d0, d1, sl, d2, hls⟩ := (hsc q _ hg).later HBE.out hB (by omega)
      have hb0 : wr.heap.size = wr.heap.size := rfl
      rcases HBS.out with he | ⟨bb, bo, rfl, hbb, hbc⟩
      · have : ts = [] := by simpa using he
        rw [this] at hg; simp at hg
      have e0 : wr.cell? ⟨bb, bo + q, none⟩ = some (.int .i64 (bf t)) := (HBE.out.cell (p := ⟨bb, bo + q, none⟩) (by simp; omega)).trans (hbc q _ (by rw [List.getElem?_map, hg]; rfl))
      have HTK := hide (take_snoc hg)
      have HMEM := hide (List.mem_of_getElem? hg)
      generalize hX : bf t = X at *
      have HX := hide hX
      have HT0 := hide hg
      obtain ⟨cost, due, lims⟩ := t
      simp only at d0 d1
      obtain ⟨la, lc, rfl, _, _⟩ := hls
      have hqi : (q : Int) < (n : Int) := by omega
      have hsbw : sb < wr.heap.size := by omega
      have hbbw : bb < wr.heap.size := by omega
      clear hg hX hsc hbc hb0
      have HBA : Hid (Below w.heap.size w (wr.alloc (.cells #[.int .i64 cost, .int .i64 due, .slice la lims.length lc] 55))) := HBE.out.alloc hsz _
      by_cases hlate : due < X
      · go_wp2_with fail
        go_quiet ((fail))
        go_wp2
        go_ret
        refine ⟨ret_int ?_, ⟨HBA.out.os, HBA.out.tape, HBA.out.output, HBA.out.size, HBA.out.block⟩⟩
        rw [HE.out, if_pos]
        refine List.any_eq_true.2 ⟨_, HMEM.out, ?_⟩
        simp only [decide_eq_true_eq]
        rw [HX.out]
        exact hlate
      · have hlate' : X ≤ due := by omega
        go_wp2_with fail
        go_quiet ((fail))
        go_wp2
        go_roundw
        case rel =>
          refine ⟨q + 1, by go_num, by omega, ?_, ⟨HBA.out.os, HBA.out.tape, HBA.out.output, HBA.out.size, HBA.out.block⟩, HK.out.alloc (.cells #[.int .i64 cost, .int .i64 due, .slice la lims.length lc] 55)⟩
          rw [HTK.out, List.any_append, HANY.out]
          simp only [List.any_cons, List.any_nil, Bool.or_false, Bool.false_or, decide_eq_false_iff_not]
          rw [HX.out]
          omega
        case measure => simp [intOf]; omega
    · have hqi : ¬ (q : Int) < (n : Int) := by omega
      have hany := HANY.out
      rw [List.take_of_length_le (by rw [HN.out]; omega)] at hany
      have HE2 : Hid (whatI ⟨x1, x2, x3, x4, x5, ts⟩ = if x2 < need then 3 else 1) := by rw [Hid, HE.out, hany]; simp
      clear hany
      by_cases hroom : x2 < need
      · go_wp2
        go_ret
        exact ⟨ret_int (by rw [HE2.out, if_pos hroom]), HBE.out⟩
      · go_wp2
        go_ret
        exact ⟨ret_int (by rw [HE2.out, if_neg (by omega)]), HBE.out⟩

end Go.Proofs.YthloffgebebijaaGreat

/- AheadG: the walks of package ahead's Report and of tiller's Check. -/
namespace Go.Proofs.YthloffgebebijaaGreat
open Go.RowKit

theorem madeI (n : Nat) : (madeCells #[.int .i64 0] n).toList = List.replicate n (.int .i64 0) := by
  apply List.ext_getElem?
  intro i
  by_cases h : i < n
  · rw [List.getElem?_replicate, if_pos h]
    simp [madeCells, h, Nat.mod_one]
  · rw [List.getElem?_eq_none (by simp [madeCells]; omega), List.getElem?_eq_none (by simp; omega)]

theorem CfIn.of {c : Cfg} (h : cfgOk c = true) : CfIn c := by
  obtain ⟨h1, h2, h3, h4, h5, h6, h7⟩ := cfgOk_parts h
  exact ⟨h3.1, h3.2, h4.1, h4.2, h5.1, h5.2, h6.1, h6.2, fun t ht => TkIn.of (List.all_eq_true.1 h7 t ht), h2.1, h2.2⟩

theorem CfC.upC {w : World} {B B' : Nat} {v : Value} {c : Cfg} (h : CfC w B v c) (hle : B ≤ B') : CfC w B' v c := by
  obtain ⟨s, hv, a, cap, hs, h⟩ := h
  refine ⟨s, hv, a, cap, hs, h.imp id fun ⟨b, o, ha, hb, hc⟩ => ⟨b, o, ha, by omega, fun i t hi => ?_⟩⟩
  obtain ⟨h1, h2, s', h3, a', c', h4, h5, h6⟩ := hc i t hi
  exact ⟨h1, h2, s', h3, a', c', h4, h5, h6.imp id fun ⟨b', o', e1, e2, e3⟩ => ⟨b', o', e1, by omega, e3⟩⟩

def intsV (xs : List Int) : List Value := xs.map (Value.int .i64)

set_option maxRecDepth 100000 in
set_option maxHeartbeats 3200000 in
theorem report_any (B : Nat) (v : Value) (c : Cfg) (w : World) (hv : CfC w B v c) (hB : B ≤ w.heap.size) (hc : CfIn c) :
    Calls Tryz.prog 62 #[v] w fun e w' => ∃ g, e = .returned (.agg #[.int .i64 (whatI c), .slice (some ⟨g, 0, none⟩) c.tasks.length c.tasks.length, .int .i64 (needI c)]) ∧ w.heap.size ≤ g ∧ Blk w' g (intsV (c.tasks.map (boundI c))).toArray 3 ∧ Below w.heap.size w w' := by
  have HCI := hide hc
  have HV := hide hv
  have HBD : Hid (∀ t, TkIn t → -1400 ≤ boundI c t ∧ boundI c t ≤ 20001000) := fun t ht => bound_bounds hc ht
  have HND := hide (fun k => need_take hc k)
  have HNE : Hid (needI c = c.tasks.foldl (fun s t => s + mostI t (boundI c t)) 0) := rfl
  have HBO := hide (fun (w' : World) (hb' : Below w.heap.size w w') (vt : Value) (t : Tk) (hvt : TaskC w' B vt t) (ht : TkIn t) => aBound_any B v vt c t w' (hv.later hb' hB) hvt (by have := hb'.size; omega) hc ht)
  have HVE := hide (fun (w' : World) (hb' : Below w.heap.size w w') (B' : Nat) (hB' : B' ≤ w'.heap.size) (hBB : B ≤ B') (bv : Value) (hbv : IntsR w' B' bv (c.tasks.map (boundI c))) => aVerdict_any B' v bv c (needI c) w' ((hv.later hb' hB).upC hBB) hbv hB' hc rfl)
  obtain ⟨i0, hi, hz0, hzs, hzb⟩ := info_parts info_int
  have HI := hide (And.intro hi (And.intro hz0 (And.intro hzs hzb)))
  obtain ⟨s, rfl, sa, scap, rfl, hs⟩ := hv
  have hn := hc.n2
  have HC := hide hs
  have HTS : Hid (∀ t ∈ c.tasks, TkIn t) := hc.ts
  generalize hbf : boundI c = bf at *
  generalize hwh : whatI c = wh at *
  generalize hnd : needI c = nd at *
  clear hbf hwh hnd hi hz0 hzs hzb
  obtain ⟨x1, x2, x3, x4, x5, ts⟩ := c
  simp only at hn HND HNE HBO HVE HC HTS HV ⊢
  generalize hN : ts.length = n at *
  have HN := hide hN
  clear hN hs hc
  go_enter Tryz.func62, Tryz.ntmps62
  go_wp2_with (at_make; go_must (refine wpList_make_full _ rfl _ _ 24 rfl w.heap.size 3 i0 _ 1 Tryz.underlying24 HI.out.1 HI.out.2.1 HI.out.2.2.1 .i64 .i64 _ _ n rfl rfl rfl rfl ?_ ?_ ?_ ?_))
  · rw [HI.out.2.2.2]; omega
  · unfold maxLen; omega
  · simp; omega
  intro w4 o4 g4
  obtain ⟨L4, hg0⟩ := own_blk o4
  rw [madeI n] at L4
  have HB4 : Hid (Below w.heap.size w w4) := (show Below w.heap.size w ((w.alloc (.cells #[.int .i64 x1, .int .i64 x2, .int .i64 x3, .int .i64 x4, .int .i64 x5, .slice sa n scap] 40)).alloc (.cells #[.int .i64 0, .slice none 0 0, .int .i64 0] 86)) from ((Below.refl _ _).alloc (Nat.le_refl _) _).alloc (by simp) _).trans ⟨g4.os, g4.tape, g4.output, g4.size, fun k hk => g4.block k (by simp; omega) (by simp)⟩
  have K4 : Blk w4 w.heap.size #[.int .i64 x1, .int .i64 x2, .int .i64 x3, .int .i64 x4, .int .i64 x5, .slice sa n scap] 40 := Blk.grownRow ((Blk.new w #[.int .i64 x1, .int .i64 x2, .int .i64 x3, .int .i64 x4, .int .i64 x5, .slice sa n scap] 40).alloc (.cells #[.int .i64 0, .slice none 0 0, .int .i64 0] 86)) g4 (by simp)
  have R4 : Blk w4 (w.heap.size + 1) #[.int .i64 0, .slice none 0 0, .int .i64 0] 86 := Blk.grownRow (by simpa using Blk.new (w.alloc (.cells #[.int .i64 x1, .int .i64 x2, .int .i64 x3, .int .i64 x4, .int .i64 x5, .slice sa n scap] 40)) #[.int .i64 0, .slice none 0 0, .int .i64 0] 86) g4 (by simp)
  generalize hG : w.heap.size + 1 + 1 = G at *
  have hGw : w.heap.size + 1 < G := by omega
  have HL4 := hide L4; have HK4 := hide K4; have HR4 := hide R4
  have k5 : w4.cell? ⟨w.heap.size, 5, none⟩ = some (.slice sa n scap) := K4.cell 5
  have hz4 := L4.lt
  clear hG o4 g4 L4 K4 R4 hg0
  go_wp2_with fail
  go_loopw [4, 14] (fun nd i wr => ∃ q : Nat, i = .int .i64 q ∧ q ≤ n ∧ nd = .int .i64 ((ts.take q).foldl (fun s t => s + mostI t (bf t)) 0) ∧ Blk wr G (intsV ((ts.take q).map bf) ++ List.replicate (n - q) (Value.int .i64 0)).toArray 3 ∧ Below w.heap.size w wr ∧ Blk wr w.heap.size #[.int .i64 x1, .int .i64 x2, .int .i64 x3, .int .i64 x4, .int .i64 x5, .slice sa n scap] 40 ∧ Blk wr (w.heap.size + 1) #[.int .i64 0, .slice none 0 0, .int .i64 0] 86) (fun _ i _ => n - (intOf i).toNat)
  case atStart => exact ⟨0, rfl, Nat.zero_le _, by simp, by simpa [intsV] using HL4.out, HB4.out, HK4.out, HR4.out⟩
  case round =>
    obtain ⟨q, rfl, hq, rfl, hL, hbe, hk, hr⟩ := hrel
    have HL := hide hL; have HBE := hide hbe; have HK := hide hk; have HR := hide hr
    have hsz := hbe.size
    have hzG := hL.lt
    obtain ⟨hnd0, hnd1⟩ := HND.out q
    have k0 : wr.cell? ⟨w.heap.size, 0, none⟩ = some (.int .i64 x1) := hk.cell 0
    have k1 : wr.cell? ⟨w.heap.size, 1, none⟩ = some (.int .i64 x2) := hk.cell 1
    have k2 : wr.cell? ⟨w.heap.size, 2, none⟩ = some (.int .i64 x3) := hk.cell 2
    have k3 : wr.cell? ⟨w.heap.size, 3, none⟩ = some (.int .i64 x4) := hk.cell 3
    have k4 : wr.cell? ⟨w.heap.size, 4, none⟩ = some (.int .i64 x5) := hk.cell 4
    have k5 : wr.cell? ⟨w.heap.size, 5, none⟩ = some (.slice sa n scap) := hk.cell 5
    clear hL hbe hk hr
    by_cases hlt : q < n
    · obtain ⟨t, hg⟩ := get_of_lt (l := ts) (k := q) (by rw [HN.out]; exact hlt)
      have hti := HTS.out t (List.mem_of_getElem? hg)
      have HTI := hide hti
      rcases HC.out with he | ⟨sb, so, rfl, hsb, hsc⟩
      · rw [he] at hg; simp at hg
      obtain ⟨d0, d1, sl, d2, hls⟩ := (hsc q _ hg).later HBE.out hB (by omega)
      have HTK := hide (take_snoc hg)
      obtain ⟨hbd0, hbd1⟩ := HBD.out t hti
      have hmb := most_bounds hti.ls hbd1 (by decide)
      obtain ⟨hmb0, hmb1⟩ := hmb
      obtain ⟨cost, due, lims⟩ := t
      simp only at d0 d1 hls
      have HLC := hide hls
      obtain ⟨la, lc, rfl, _, _⟩ := hls
      have hqi : (q : Int) < (n : Int) := by omega
      have hsbw : sb < wr.heap.size := by omega
      have hwz : w.heap.size < wr.heap.size := by omega
      have HBA : Hid (Below wr.heap.size wr (wr.alloc (.cells #[.int .i64 cost, .int .i64 due, .slice la lims.length lc] 55))) := (Below.refl _ _).alloc (Nat.le_refl _) _
      have HBOr := hide (HBO.out (wr.alloc (.cells #[.int .i64 cost, .int .i64 due, .slice la lims.length lc] 55)) (HBE.out.trans (HBA.out.mono hsz)) (.agg #[.int .i64 cost, .int .i64 due, .slice la lims.length lc]) ⟨cost, due, lims⟩ ⟨_, rfl, HLC.out.later HBA.out (by omega)⟩ HTI.out)
      have HMO := hide (fun (w' : World) (hb' : Below wr.heap.size wr w') => most_any B (.agg #[.int .i64 cost, .int .i64 due, .slice la lims.length lc]) ⟨cost, due, lims⟩ (bf ⟨cost, due, lims⟩) w' ⟨_, rfl, HLC.out.later hb' (by omega)⟩ (by have := hb'.size; omega) HTI.out (by omega) (by omega))
      generalize hSm : (ts.take q).foldl (fun s t => s + mostI t (bf t)) 0 = Sm at *
      generalize hM : mostI ⟨cost, due, lims⟩ (bf ⟨cost, due, lims⟩) = M at *
      generalize hBv : bf ⟨cost, due, lims⟩ = Bv at *
      have HSS := hide hSm
      have HMM := hide hM
      have HBV := hide hBv
      have we2 : IntKind.i64.wrap (Sm + M) = Sm + M := IntWalk.i64_in _ ⟨by omega, by omega⟩
      obtain ⟨r, hr⟩ : ∃ r, n - q = r + 1 := ⟨n - q - 1, by omega⟩
      have hl := HL.out
      rw [hr] at hl
      have hlen : (intsV ((ts.take q).map bf)).length = q := by rw [intsV, List.length_map, List.length_map, List.length_take, HN.out]; omega
      have HLEN := hide hlen
      have HR1 := hide hr
      have hcell : (intsV ((ts.take q).map bf) ++ List.replicate (r + 1) (Value.int .i64 0))[q]? = some (.int .i64 0) := by rw [List.getElem?_append_right (by omega), hlen]; simp
      have HCE := hide hcell
      have HLq := hide hl
      clear hg hM hSm hBv hsc hl hlen hcell hr
      go_wp2_with fail
      refine HBOr.out.mono ?_
      rintro e w3 ⟨rfl, q3⟩
      have hz3 := q3.size
      simp only [World.size_alloc] at hz3
      have HQ3 : Hid (Below wr.heap.size wr w3) := HBA.out.trans (q3.mono (by simp))
      have HT3 := hide ((Blk.new wr #[.int .i64 cost, .int .i64 due, .slice la lims.length lc] 55).later q3 (by simp))
      have HL3 := hide (HLq.out.later HQ3.out hzG)
      have HK3 := hide (HK.out.later HQ3.out (by omega))
      have HR3 := hide (HR.out.later HQ3.out (by omega))
      have gq : w3.cell? ⟨G, q, none⟩ = some (.int .i64 0) := by rw [HL3.out.cell, List.getElem?_toArray]; exact HCE.out
      have gqf := HL3.out.free q
      clear q3 k0 k1 k2 k3 k4 k5 d0 d1 d2
      go_wp2_with fail
      have HLs := hide (HL3.out.set q (.int .i64 Bv))
      have HTs : Hid (Blk (w3.setCell ⟨G, q, none⟩ (.int .i64 Bv)) wr.heap.size #[.int .i64 cost, .int .i64 due, .slice la lims.length lc] 55) := HT3.out.other (by simp; omega) _
      have HKs : Hid (Blk (w3.setCell ⟨G, q, none⟩ (.int .i64 Bv)) w.heap.size #[.int .i64 x1, .int .i64 x2, .int .i64 x3, .int .i64 x4, .int .i64 x5, .slice (some ⟨sb, so, none⟩) n scap] 40) := HK3.out.other (by simp; omega) _
      have HRs : Hid (Blk (w3.setCell ⟨G, q, none⟩ (.int .i64 Bv)) (w.heap.size + 1) #[.int .i64 0, .slice none 0 0, .int .i64 0] 86) := HR3.out.other (by simp; omega) _
      have HBs : Hid (Below w.heap.size w (w3.setCell ⟨G, q, none⟩ (.int .i64 Bv))) := (HBE.out.trans (HQ3.out.mono hsz)).setCell (by simp; omega) _
      have hzs : (w3.setCell ⟨G, q, none⟩ (.int .i64 Bv)).heap.size = w3.heap.size := by simp
      have v0 : (w3.setCell ⟨G, q, none⟩ (.int .i64 Bv)).cell? ⟨G, q, none⟩ = some (.int .i64 Bv) := by rw [HLs.out.cell]; exact get_set_self (by have := lt_of_get HCE.out; simpa using this)
      have v1 : (w3.setCell ⟨G, q, none⟩ (.int .i64 Bv)).cell? ⟨wr.heap.size, 0, none⟩ = some (.int .i64 cost) := HTs.out.cell 0
      have v2 : (w3.setCell ⟨G, q, none⟩ (.int .i64 Bv)).cell? ⟨wr.heap.size, 1, none⟩ = some (.int .i64 due) := HTs.out.cell 1
      have v3 : (w3.setCell ⟨G, q, none⟩ (.int .i64 Bv)).cell? ⟨wr.heap.size, 2, none⟩ = some (.slice la lims.length lc) := HTs.out.cell 2
      have HMOs : Hid (Calls Tryz.prog 83 #[.agg #[.int .i64 cost, .int .i64 due, .slice la lims.length lc], .int .i64 Bv] (w3.setCell ⟨G, q, none⟩ (.int .i64 Bv)).drew fun e w' => e = .returned (.int .i64 M) ∧ Below (w3.setCell ⟨G, q, none⟩ (.int .i64 Bv)).drew.heap.size (w3.setCell ⟨G, q, none⟩ (.int .i64 Bv)).drew w') := by
        have h1 := most_any B (.agg #[.int .i64 cost, .int .i64 due, .slice la lims.length lc]) ⟨cost, due, lims⟩ Bv (w3.setCell ⟨G, q, none⟩ (.int .i64 Bv)).drew ⟨_, rfl, (HLC.out.later HQ3.out (by omega)).later (B' := w.heap.size) (((Below.refl _ _).setCell (by simp; omega) _).drew) hB⟩ (by simp; omega) HTI.out (by omega) (by omega)
        rw [HMM.out] at h1
        exact h1
      generalize hWs : w3.setCell ⟨G, q, none⟩ (.int .i64 Bv) = Ws at *
      clear hWs gq gqf
      go_region_held3 (fun w' => w'.cell? ⟨G, q, none⟩ = some (.int .i64 Bv) ∧ w'.cell? ⟨wr.heap.size, 0, none⟩ = some (.int .i64 cost) ∧ w'.cell? ⟨wr.heap.size, 1, none⟩ = some (.int .i64 due) ∧ w'.cell? ⟨wr.heap.size, 2, none⟩ = some (.slice la lims.length lc)) (first | exact ⟨v0, v1, v2, v3⟩ | exact ⟨z0, z1, z2, z3⟩)
        (first | (go_at_call 83; refine HMOs.out.mono ?_; rintro e w5 ⟨rfl, b5⟩; have z0 := (b5.cell (p := ⟨G, q, none⟩) (by simp; omega)).trans v0; have z1 := (b5.cell (p := ⟨wr.heap.size, 0, none⟩) (by simp; omega)).trans v1; have z2 := (b5.cell (p := ⟨wr.heap.size, 1, none⟩) (by simp; omega)).trans v2; have z3 := (b5.cell (p := ⟨wr.heap.size, 2, none⟩) (by simp; omega)).trans v3; have HB5 := hide b5; clear b5))
      have HQ5 := hide (undrewB HB5.out)
      go_wp2
      go_roundw
      case rel =>
        refine ⟨q + 1, by go_num, by omega, ?_, ?_, HBs.out.trans (HQ5.out.mono (by omega)), HKs.out.later HQ5.out (by omega), HRs.out.later HQ5.out (by omega)⟩
        · rw [HTK.out, List.foldl_append, HSS.out]
          show Value.int .i64 _ = Value.int .i64 (Sm + mostI ⟨cost, due, lims⟩ (bf ⟨cost, due, lims⟩))
          rw [HBV.out, HMM.out]
        · have h1 := HLs.out.later HQ5.out (by omega)
          rw [HTK.out, List.map_append, intsV, List.map_append, show n - (q + 1) = r from by have := HR1.out; omega]
          have h2 := set_next (a := Value.int .i64 Bv) (b := Value.int .i64 0) (r := r) HLEN.out
          simp only [List.map_cons, List.map_nil, HBV.out]
          unfold intsV at h1 h2
          rw [← h2]
          simpa using h1
      case measure => simp [intOf]; omega
    · have hqi : ¬ (q : Int) < (n : Int) := by omega
      have hqn : q = n := by omega
      have HLf : Hid (Blk wr G (intsV (ts.map bf)).toArray 3) := by
        have := HL.out
        rw [hqn, List.take_of_length_le (by rw [HN.out]; omega)] at this
        simpa [Hid] using this
      have HNf : Hid ((ts.take q).foldl (fun s t => s + mostI t (bf t)) 0 = nd) := by rw [Hid, HNE.out, List.take_of_length_le (by rw [HN.out]; omega)]
      rw [HNf.out]
      have HVEr := hide (HVE.out wr HBE.out wr.heap.size (Nat.le_refl _) (by omega) (.slice (some ⟨G, 0, none⟩) n n) ⟨_, n, by rw [List.length_map, HN.out], .inr ⟨G, 0, rfl, hzG, fun i x hi => by
        rw [Nat.zero_add, HLf.out.cell, intsV, List.getElem?_toArray, List.getElem?_map, hi]; rfl⟩⟩)
      go_wp2_with fail
      refine HVEr.out.mono ?_
      rintro e w5 ⟨rfl, q5⟩
      have HR5 := HR.out.later q5 (by omega)
      have HL5 := hide (HLf.out.later q5 hzG)
      have HB5 := hide (HBE.out.trans (q5.mono hsz))
      have a0 : w5.cell? ⟨w.heap.size + 1, 0, none⟩ = some (.int .i64 0) := HR5.cell 0
      have a1 : w5.cell? ⟨w.heap.size + 1, 1, none⟩ = some (.slice none 0 0) := HR5.cell 1
      have a2 : w5.cell? ⟨w.heap.size + 1, 2, none⟩ = some (.int .i64 0) := HR5.cell 2
      have a0f := HR5.free 0
      have a1f := HR5.free 1
      have a2f := HR5.free 2
      have HRR := hide HR5
      clear q5 HR5 k0 k1 k2 k3 k4 k5
      simp only []
      repeat (first | go_values | go_skip | go_guarded | go_step | go_upon)
      have HF := ((HRR.out.set 0 (.int .i64 wh)).set 1 (.slice (some ⟨G, 0, none⟩) n n)).set 2 (.int .i64 nd)
      have HF0 := HF.cell 0
      have HF1 := HF.cell 1
      have HF2 := HF.cell 2
      simp at HF0 HF1 HF2
      exact bodyPost_ret (v := .agg #[.int .i64 wh, .slice (some ⟨G, 0, none⟩) n n, .int .i64 nd]) (by simp [results, Tryz.results62, go_sem, HF0, HF1, HF2]) rfl ⟨G, rfl, by omega, ((HL5.out.other (by simp; omega) _).other (by simp; omega) _).other (by simp; omega) _, ((HB5.out.setCell (by simp) _).setCell (by simp) _).setCell (by simp) _⟩

end Go.Proofs.YthloffgebebijaaGreat

/- CheckA: the walk of tiller's Check. -/
namespace Go.Proofs.YthloffgebebijaaGreat
open Go.RowKit

/-- What Check answers: the verdict, the bounds, the need, the error. -/
def ckWhat (c : Cfg) : Int := if cfgOk c = true then whatI c else 0
def ckBounds (c : Cfg) : List Int := if cfgOk c = true then c.tasks.map (boundI c) else []
def ckNeed (c : Cfg) : Int := if cfgOk c = true then needI c else 0
def ckErr (c : Cfg) : Int := if cfgOk c = true then 0 else 1

set_option maxRecDepth 100000 in
set_option maxHeartbeats 800000 in
theorem check_yes (B : Nat) (v : Value) (c : Cfg) (w : World) (hv : CfC w B v c) (hB : B ≤ w.heap.size) (hok : cfgOk c = true) :
    Calls Tryz.prog 33 #[v] w fun e w' => ∃ g, e = .returned (.tuple #[.agg #[.int .i64 (whatI c), .slice (some ⟨g, 0, none⟩) c.tasks.length c.tasks.length, .int .i64 (needI c)], .int .i64 0]) ∧ w.heap.size ≤ g ∧ Blk w' g (intsV (c.tasks.map (boundI c))).toArray 3 ∧ Below w.heap.size w w' := by
  have HV := hide hv
  have hv' := hv
  obtain ⟨s, rfl, sa, scap, rfl, hs⟩ := hv'
  clear hs
  have HB0 : Hid (Below w.heap.size w ((w.alloc (.cells #[.int .i64 c.lines, .int .i64 c.room, .int .i64 c.poll, .int .i64 c.idle, .int .i64 c.sw, .slice sa c.tasks.length scap] 40)).alloc (.cells #[.int .i64 0, .slice none 0 0, .int .i64 0] 86))) := ((Below.refl _ _).alloc (Nat.le_refl _) _).alloc (by simp) _
  have HK0 : Hid (Blk ((w.alloc (.cells #[.int .i64 c.lines, .int .i64 c.room, .int .i64 c.poll, .int .i64 c.idle, .int .i64 c.sw, .slice sa c.tasks.length scap] 40)).alloc (.cells #[.int .i64 0, .slice none 0 0, .int .i64 0] 86)) w.heap.size #[.int .i64 c.lines, .int .i64 c.room, .int .i64 c.poll, .int .i64 c.idle, .int .i64 c.sw, .slice sa c.tasks.length scap] 40) := (Blk.new _ _ _).alloc _
  have HR0 : Hid (Blk ((w.alloc (.cells #[.int .i64 c.lines, .int .i64 c.room, .int .i64 c.poll, .int .i64 c.idle, .int .i64 c.sw, .slice sa c.tasks.length scap] 40)).alloc (.cells #[.int .i64 0, .slice none 0 0, .int .i64 0] 86)) (w.heap.size + 1) #[.int .i64 0, .slice none 0 0, .int .i64 0] 86) := by
    have := Blk.new (w.alloc (.cells #[.int .i64 c.lines, .int .i64 c.room, .int .i64 c.poll, .int .i64 c.idle, .int .i64 c.sw, .slice sa c.tasks.length scap] 40)) #[.int .i64 0, .slice none 0 0, .int .i64 0] 86
    simpa [Hid] using this
  clear hv
  go_enter Tryz.func33, Tryz.ntmps33
  go_wp2_with fail
  refine (valid_any _ B c _ ((HV.out.later HB0.out hB).cf) (by simp; omega)).mono ?_
  rintro e w1 ⟨rfl, q1⟩
  have hz1 := q1.size
  simp only [World.size_alloc] at hz1
  have HB1 : Hid (Below w.heap.size w w1) := HB0.out.trans (q1.mono (by simp; omega))
  have HK1 := hide (HK0.out.later q1 (by simp; omega))
  have HR1 := hide (HR0.out.later q1 (by simp))
  clear q1
  rw [hok]
  have k0 : w1.cell? ⟨w.heap.size, 0, none⟩ = some (.int .i64 c.lines) := HK1.out.cell 0
  have k1 : w1.cell? ⟨w.heap.size, 1, none⟩ = some (.int .i64 c.room) := HK1.out.cell 1
  have k2 : w1.cell? ⟨w.heap.size, 2, none⟩ = some (.int .i64 c.poll) := HK1.out.cell 2
  have k3 : w1.cell? ⟨w.heap.size, 3, none⟩ = some (.int .i64 c.idle) := HK1.out.cell 3
  have k4 : w1.cell? ⟨w.heap.size, 4, none⟩ = some (.int .i64 c.sw) := HK1.out.cell 4
  have k5 : w1.cell? ⟨w.heap.size, 5, none⟩ = some (.slice sa c.tasks.length scap) := HK1.out.cell 5
  go_wp2_with fail
  refine (report_any B _ c w1 (HV.out.later HB1.out hB) (by omega) (CfIn.of hok)).mono ?_
  rintro e w2 ⟨g, rfl, hg, hb, q2⟩
  have HR2 := hide (HR1.out.later q2 (by omega))
  have HG2 := hide hb
  have HB2 := hide (HB1.out.trans (q2.mono (by omega)))
  have a0 : w2.cell? ⟨w.heap.size + 1, 0, none⟩ = some (.int .i64 0) := HR2.out.cell 0
  have a0f := HR2.out.free 0
  have a1 : w2.cell? ⟨w.heap.size + 1, 1, none⟩ = some (.slice none 0 0) := HR2.out.cell 1
  have a1f := HR2.out.free 1
  have a2 : w2.cell? ⟨w.heap.size + 1, 2, none⟩ = some (.int .i64 0) := HR2.out.cell 2
  have a2f := HR2.out.free 2
  clear q2 hb k0 k1 k2 k3 k4 k5
  simp only []
  repeat (first | go_values | go_skip | go_guarded | go_step | go_upon)
  have HF := ((HR2.out.set 0 (.int .i64 (whatI c))).set 1 (.slice (some ⟨g, 0, none⟩) c.tasks.length c.tasks.length)).set 2 (.int .i64 (needI c))
  have HF0 := HF.cell 0
  have HF1 := HF.cell 1
  have HF2 := HF.cell 2
  simp at HF0 HF1 HF2
  exact bodyPost_ret (v := .tuple #[.agg #[.int .i64 (whatI c), .slice (some ⟨g, 0, none⟩) c.tasks.length c.tasks.length, .int .i64 (needI c)], .int .i64 0]) (by simp [results, Tryz.results33, go_sem, HF0, HF1, HF2]) rfl ⟨g, rfl, by omega, ((HG2.out.other (by simp; omega) _).other (by simp; omega) _).other (by simp; omega) _, ((HB2.out.setCell (by simp) _).setCell (by simp) _).setCell (by simp) _⟩

set_option maxRecDepth 100000 in
set_option maxHeartbeats 800000 in
theorem check_no (B : Nat) (v : Value) (c : Cfg) (w : World) (hv : CfC w B v c) (hB : B ≤ w.heap.size) (hok : cfgOk c = false) :
    Calls Tryz.prog 33 #[v] w fun e w' => e = .returned (.tuple #[.agg #[.int .i64 0, .slice none 0 0, .int .i64 0], .int .i64 1]) ∧ Below w.heap.size w w' := by
  have HV := hide hv
  have hv' := hv
  obtain ⟨s, rfl, sa, scap, rfl, hs⟩ := hv'
  clear hs
  have HB0 : Hid (Below w.heap.size w ((w.alloc (.cells #[.int .i64 c.lines, .int .i64 c.room, .int .i64 c.poll, .int .i64 c.idle, .int .i64 c.sw, .slice sa c.tasks.length scap] 40)).alloc (.cells #[.int .i64 0, .slice none 0 0, .int .i64 0] 86))) := ((Below.refl _ _).alloc (Nat.le_refl _) _).alloc (by simp) _
  have HK0 : Hid (Blk ((w.alloc (.cells #[.int .i64 c.lines, .int .i64 c.room, .int .i64 c.poll, .int .i64 c.idle, .int .i64 c.sw, .slice sa c.tasks.length scap] 40)).alloc (.cells #[.int .i64 0, .slice none 0 0, .int .i64 0] 86)) w.heap.size #[.int .i64 c.lines, .int .i64 c.room, .int .i64 c.poll, .int .i64 c.idle, .int .i64 c.sw, .slice sa c.tasks.length scap] 40) := (Blk.new _ _ _).alloc _
  have HR0 : Hid (Blk ((w.alloc (.cells #[.int .i64 c.lines, .int .i64 c.room, .int .i64 c.poll, .int .i64 c.idle, .int .i64 c.sw, .slice sa c.tasks.length scap] 40)).alloc (.cells #[.int .i64 0, .slice none 0 0, .int .i64 0] 86)) (w.heap.size + 1) #[.int .i64 0, .slice none 0 0, .int .i64 0] 86) := by
    have := Blk.new (w.alloc (.cells #[.int .i64 c.lines, .int .i64 c.room, .int .i64 c.poll, .int .i64 c.idle, .int .i64 c.sw, .slice sa c.tasks.length scap] 40)) #[.int .i64 0, .slice none 0 0, .int .i64 0] 86
    simpa [Hid] using this
  clear hv
  go_enter Tryz.func33, Tryz.ntmps33
  go_wp2_with fail
  refine (valid_any _ B c _ ((HV.out.later HB0.out hB).cf) (by simp; omega)).mono ?_
  rintro e w1 ⟨rfl, q1⟩
  have hz1 := q1.size
  simp only [World.size_alloc] at hz1
  have HB1 : Hid (Below w.heap.size w w1) := HB0.out.trans (q1.mono (by simp; omega))
  have HK1 := hide (HK0.out.later q1 (by simp; omega))
  have HR1 := hide (HR0.out.later q1 (by simp))
  clear q1
  rw [hok]
  have a0 : w1.cell? ⟨w.heap.size + 1, 0, none⟩ = some (.int .i64 0) := HR1.out.cell 0
  have a0f := HR1.out.free 0
  have a1 : w1.cell? ⟨w.heap.size + 1, 1, none⟩ = some (.slice none 0 0) := HR1.out.cell 1
  have a1f := HR1.out.free 1
  have a2 : w1.cell? ⟨w.heap.size + 1, 2, none⟩ = some (.int .i64 0) := HR1.out.cell 2
  have a2f := HR1.out.free 2
  simp only []
  repeat (first | go_values | go_skip | go_guarded | go_step | go_upon)
  have HF := ((HR1.out.set 0 (.int .i64 0)).set 1 (.slice none 0 0)).set 2 (.int .i64 0)
  have HF0 := HF.cell 0
  have HF1 := HF.cell 1
  have HF2 := HF.cell 2
  simp at HF0 HF1 HF2
  exact bodyPost_ret (v := .tuple #[.agg #[.int .i64 0, .slice none 0 0, .int .i64 0], .int .i64 1]) (by simp [results, Tryz.results33, go_sem, HF0, HF1, HF2]) rfl ⟨rfl, ((HB1.out.setCell (by simp) _).setCell (by simp) _).setCell (by simp) _⟩

theorem check_any (B : Nat) (v : Value) (c : Cfg) (w : World) (hv : CfC w B v c) (hB : B ≤ w.heap.size) :
    Calls Tryz.prog 33 #[v] w fun e w' => ∃ a cap, e = .returned (.tuple #[.agg #[.int .i64 (ckWhat c), .slice a (ckBounds c).length cap, .int .i64 (ckNeed c)], .int .i64 (ckErr c)]) ∧ w'.ownsRow w.heap.size 3 1 (.slice a (ckBounds c).length cap) (ckBounds c).length (intsV (ckBounds c)) ∧ Below w.heap.size w w' := by
  cases hok : cfgOk c with
  | true =>
    refine (check_yes B v c w hv hB hok).mono ?_
    rintro e w' ⟨g, rfl, hg, hb, hq⟩
    have hn := (CfIn.of hok).n2
    refine ⟨some ⟨g, 0, none⟩, c.tasks.length, by simp [ckWhat, ckBounds, ckNeed, ckErr, hok], ?_, hq⟩
    simp only [ckBounds, hok, if_true, List.length_map]
    refine ⟨by simp [intsV], .inr ⟨g, c.tasks.length, _, rfl, hg, hb, Nat.le_refl _, by unfold maxLen; omega, by simp [intsV], ?_⟩⟩
    simp only []
    rw [List.take_of_length_le (by simp [intsV])]
  | false =>
    refine (check_no B v c w hv hB hok).mono ?_
    rintro e w' ⟨rfl, hq⟩
    refine ⟨none, 0, by simp [ckWhat, ckBounds, ckNeed, ckErr, hok], ?_, hq⟩
    simpa [ckBounds, hok, intsV] using World.ownsRow_nil w' w.heap.size 3 1

end Go.Proofs.YthloffgebebijaaGreat
