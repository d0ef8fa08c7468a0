/- AheadC: the walks of package ahead's price, longest, demand. -/
import Derived.Test.YthloffgebebijaaGreatAheadB
namespace Go.Proofs.YthloffgebebijaaGreat
open Go.RowKit

set_option maxRecDepth 100000 in
set_option maxHeartbeats 400000 in
theorem aPrice_any (x1 x2 x3 x4 x5 : Int) (s s2 : Value) (cost due : Int) (w : World) (h3 : 1 ≤ x3 ∧ x3 ≤ 20) (h5 : 0 ≤ x5 ∧ x5 ≤ 20) (hc : 1 ≤ cost ∧ cost ≤ 50) (sa sb : Option Addr) (n m ca cb : Nat) (hs : s = .slice sa n ca) (hs2 : s2 = .slice sb m cb) :
    Calls Tryz.prog 115 #[.agg #[.int .i64 x1, .int .i64 x2, .int .i64 x3, .int .i64 x4, .int .i64 x5, s], .agg #[.int .i64 cost, .int .i64 due, s2]] w fun e w' => e = .returned (.int .i64 (x3 + x5 + cost)) ∧ Below w.heap.size w w' := by
  subst hs
  subst hs2
  obtain ⟨h3, h3'⟩ := h3; obtain ⟨h5, h5'⟩ := h5; obtain ⟨hc, hc'⟩ := hc
  go_enter Tryz.func115, Tryz.ntmps115
  go_wp2
  go_ret
  exact ⟨rfl, ((Below.refl _ _).alloc (Nat.le_refl _) _).alloc (by simp) _⟩

set_option maxRecDepth 100000 in
set_option maxHeartbeats 800000 in
theorem aLongest_any (B : Nat) (v : Value) (c : Cfg) (w : World) (hv : CfC w B v c) (hB : B ≤ w.heap.size) (hc : CfIn c) :
    Calls Tryz.prog 100 #[v] w fun e w' => e = .returned (.int .i64 (longestI c)) ∧ Below w.heap.size w w' := by
  have HCI := hide hc
  have HLT := hide (fun k => longest_take hc k)
  have HE : Hid (longestI c = c.tasks.foldl (fun m t => max m (priceI c t)) (c.poll + c.idle)) := rfl
  obtain ⟨s, rfl, sa, scap, rfl, hs⟩ := hv
  obtain ⟨x1, x2, x3, x4, x5, ts⟩ := c
  have h1 := hc.p1; have h2 := hc.p2; have h3 := hc.i1; have h4 := hc.i2; have h5 := hc.s1; have h6 := hc.s2; have hn := hc.n2
  simp only at hs h1 h2 h3 h4 h5 h6 hn HLT HE ⊢
  have HC := hide hs
  generalize hN : ts.length = n at *
  have HN := hide hN
  have HB1 : Hid (Below w.heap.size w (w.alloc (.cells #[.int .i64 x1, .int .i64 x2, .int .i64 x3, .int .i64 x4, .int .i64 x5, .slice sa n scap] 40))) := (Below.refl _ _).alloc (Nat.le_refl _) _
  have HK1 := hide (Blk.new w #[.int .i64 x1, .int .i64 x2, .int .i64 x3, .int .i64 x4, .int .i64 x5, .slice sa n scap] 40)
  clear hN hs hc
  go_enter Tryz.func100, Tryz.ntmps100
  go_wp2_with fail
  go_loopw [3, 14] (fun m i wr => ∃ q : Nat, i = .int .i64 q ∧ q ≤ n ∧ m = .int .i64 ((ts.take q).foldl (fun m t => max m (priceI ⟨x1, x2, x3, x4, x5, ts⟩ t)) (x3 + x4)) ∧ Below w.heap.size w wr ∧ Blk wr w.heap.size #[.int .i64 x1, .int .i64 x2, .int .i64 x3, .int .i64 x4, .int .i64 x5, .slice sa n scap] 40) (fun _ i _ => n - (intOf i).toNat)
  case atStart => exact ⟨0, rfl, Nat.zero_le _, by simp, HB1.out, HK1.out⟩
  case round =>
    obtain ⟨q, rfl, hq, rfl, hbe, hk⟩ := hrel
    have HBE := hide hbe
    have HK := hide hk
    have hsz := hbe.size
    have hzk := hk.lt
    obtain ⟨hm0, hm1⟩ := HLT.out q
    have k0 : wr.cell? ⟨w.heap.size, 0, none⟩ = some (.int .i64 x1) := hk.cell 0
    have k1 : wr.cell? ⟨w.heap.size, 1, none⟩ = some (.int .i64 x2) := hk.cell 1
    have k2 : wr.cell? ⟨w.heap.size, 2, none⟩ = some (.int .i64 x3) := hk.cell 2
    have k3 : wr.cell? ⟨w.heap.size, 3, none⟩ = some (.int .i64 x4) := hk.cell 3
    have k4 : wr.cell? ⟨w.heap.size, 4, none⟩ = some (.int .i64 x5) := hk.cell 4
    have k5 : wr.cell? ⟨w.heap.size, 5, none⟩ = some (.slice sa n scap) := hk.cell 5
    clear hbe hk
    by_cases hlt : q < n
    · obtain ⟨t, hg⟩ := get_of_lt (l := ts) (k := q) (by rw [HN.out]; exact hlt)
      have hti := HCI.out.ts t (List.mem_of_getElem? hg)
      rcases HC.out with he | ⟨sb, so, rfl, hsb, hsc⟩
      · rw [he] at hg; simp at hg
      obtain ⟨d0, d1, sl, d2, hls⟩ := (hsc q _ hg).later HBE.out hB (by omega)
      have HTK := hide (take_snoc hg)
      have ht1 := hti.c1; have ht2 := hti.c2
      obtain ⟨cost, due, lims⟩ := t
      simp only at d0 d1 ht1 ht2
      obtain ⟨la, lc, rfl, _, _⟩ := hls
      have hqi : (q : Int) < (n : Int) := by omega
      have hsbw : sb < wr.heap.size := by omega
      generalize hM : (ts.take q).foldl (fun m t => max m (priceI ⟨x1, x2, x3, x4, x5, ts⟩ t)) (x3 + x4) = M at *
      have HMM := hide hM
      clear hg hM hsc
      go_wp2_with fail
      refine (aPrice_any x1 x2 x3 x4 x5 _ _ cost due _ ⟨h1, h2⟩ ⟨h5, h6⟩ ⟨ht1, ht2⟩ _ _ _ _ _ _ rfl rfl).mono ?_
      rintro e w3 ⟨rfl, q3⟩
      have HB3 : Hid (Below w.heap.size w w3) := (HBE.out.alloc hsz _).trans (q3.mono (by simp; omega))
      have HK3 := hide ((HK.out.alloc (.cells #[.int .i64 cost, .int .i64 due, .slice la lims.length lc] 55)).later q3 (by simp; omega))
      clear q3 k0 k1 k2 k3 k4 k5 d0 d1 d2
      go_wp2
      go_roundw
      case rel =>
        refine ⟨q + 1, by go_num, by omega, ?_, HB3.out, HK3.out⟩
        rw [HTK.out, List.foldl_append, HMM.out]
        show Value.int .i64 _ = Value.int .i64 (max M (x3 + x5 + cost))
        congr 1
        split <;> omega
      case measure => simp [intOf]; omega
    · have hqi : ¬ (q : Int) < (n : Int) := by omega
      rw [List.take_of_length_le (by rw [HN.out]; omega)]
      go_wp2
      go_ret
      exact ⟨ret_int HE.out.symm, HBE.out⟩

end Go.Proofs.YthloffgebebijaaGreat
