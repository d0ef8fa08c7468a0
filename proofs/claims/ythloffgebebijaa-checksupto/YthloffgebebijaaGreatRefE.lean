/- RefE: the walks of the reference's price, Most, longest, demand: they answer the plain numbers. -/
import Derived.Test.YthloffgebebijaaGreatAheadD
import Derived.Test.YthloffgebebijaaGreatRefA
import Derived.Deep.QuietTactic
namespace Go.Proofs.YthloffgebebijaaGreat
open Go.RowKit

set_option maxRecDepth 100000 in
set_option maxHeartbeats 400000 in
theorem rPrice_any (x1 x2 x3 x4 x5 : Int) (s s2 : Value) (cost due : Int) (w : World) (h3 : 1 ≤ x3 ∧ x3 ≤ 20) (h5 : 0 ≤ x5 ∧ x5 ≤ 20) (hc : 1 ≤ cost ∧ cost ≤ 50) (sa sb : Option Addr) (n m ca cb : Nat) (hs : s = .slice sa n ca) (hs2 : s2 = .slice sb m cb) :
    Calls Tryz.prog 85 #[.agg #[.int .i64 x1, .int .i64 x2, .int .i64 x3, .int .i64 x4, .int .i64 x5, s], .agg #[.int .i64 cost, .int .i64 due, s2]] w fun e w' => e = .returned (.int .i64 (x3 + x5 + cost)) ∧ Below w.heap.size w w' := by
  subst hs
  subst hs2
  obtain ⟨h3, h3'⟩ := h3; obtain ⟨h5, h5'⟩ := h5; obtain ⟨hc, hc'⟩ := hc
  go_enter Tryz.func85, Tryz.ntmps85
  go_wp2
  go_ret
  exact ⟨rfl, ((Below.refl _ _).alloc (Nat.le_refl _) _).alloc (by simp) _⟩

/-- One step of the reference's Most. -/
def bestS (k m : Int) (l : Int × Int) : Int := if m < 0 ∨ atMostI l k < m then atMostI l k else m
theorem best_most {k : Int} (hk : 1 ≤ k) : ∀ (r : List (Int × Int)) (m : Int), 0 ≤ m → LimsIn r → r.foldl (bestS k) m = r.foldl (fun m l => min m (atMostI l k)) m
  | [], _, _, _ => rfl
  | l :: r, m, h0, hl => by
    have := hl l (by simp)
    have hb := atMost_bounds hk this.1 this.2.2.1 this.2.2.2
    have e : bestS k m l = min m (atMostI l k) := by unfold bestS; split <;> omega
    rw [List.foldl_cons, List.foldl_cons, e]
    exact best_most hk r _ (by omega) (fun x hx => hl x (by simp [hx]))
theorem best_eq {t : Tk} (h : LimsIn t.lims) (h1 : 1 ≤ t.lims.length) {k : Int} (hk : 1 ≤ k) : t.lims.foldl (bestS k) (-1) = mostI t k := by
  unfold mostI
  rw [if_neg (by omega)]
  cases hl : t.lims with
  | nil => rw [hl] at h1; simp at h1
  | cons l r =>
    rw [hl] at h
    have := h l (by simp)
    have hb := atMost_bounds hk this.1 this.2.2.1 this.2.2.2
    rw [List.foldl_cons, show bestS k (-1) l = atMostI l k from if_pos (Or.inl (by decide)), best_most hk r _ hb.1 (fun x hx => h x (by simp [hx]))]
    rfl
theorem best_bounds {k B : Int} (hk : 1 ≤ k) (hB : 20 * k ≤ B) : ∀ (r : List (Int × Int)) (m : Int), -1 ≤ m → m ≤ B → LimsIn r → -1 ≤ r.foldl (bestS k) m ∧ r.foldl (bestS k) m ≤ B
  | [], m, h0, h1, _ => ⟨h0, h1⟩
  | l :: r, m, h0, h1, hl => by
    have := hl l (by simp)
    have hb := atMost_bounds hk this.1 this.2.2.1 this.2.2.2
    have e : -1 ≤ bestS k m l ∧ bestS k m l ≤ B := by unfold bestS; split <;> omega
    exact best_bounds hk hB r _ e.1 e.2 (fun x hx => hl x (by simp [hx]))

set_option maxRecDepth 100000 in
set_option maxHeartbeats 1600000 in
theorem rMost_any (B : Nat) (v : Value) (t : Tk) (k : Int) (w : World) (hv : Task1 w B v t) (hB : B ≤ w.heap.size) (ht : TkIn t) (hk : k ≤ 30000000) (hk0 : -2000 ≤ k) :
    Calls Tryz.prog 65 #[v, .int .i64 k] w fun e w' => e = .returned (.int .i64 (mostI t k)) ∧ Below w.heap.size w w' := by
  have HBE0 := hide (fun hk : 1 ≤ k => best_eq ht.ls ht.l1 hk)
  obtain ⟨s, rfl, a, cap, rfl, hls⟩ := hv
  obtain ⟨cost, due, lims⟩ := t
  simp only at hls ⊢
  by_cases hk1 : k ≤ 0
  · have HE : Hid (mostI ⟨cost, due, lims⟩ k = 0) := by simp [Hid, mostI, hk1]
    go_enter Tryz.func65, Tryz.ntmps65
    go_wp2
    go_ret
    exact ⟨ret_int HE.out.symm, (Below.refl _ _).alloc (Nat.le_refl _) _⟩
  · have hin := ht.ls
    have hl3 := ht.l2
    simp only at hin hl3
    have HE : Hid (lims.foldl (bestS k) (-1) = mostI ⟨cost, due, lims⟩ k) := HBE0.out (by omega)
    have HC := hide hls
    have HIN := hide hin
    have HB1 : Hid (Below w.heap.size w (w.alloc (.cells #[.int .i64 cost, .int .i64 due, .slice a lims.length cap] 55))) := (Below.refl _ _).alloc (Nat.le_refl _) _
    have HK1 := hide (Blk.new w #[.int .i64 cost, .int .i64 due, .slice a lims.length cap] 55)
    generalize hN : lims.length = n at *
    have HN := hide hN
    clear hls hin ht HBE0 hN
    go_enter Tryz.func65, Tryz.ntmps65
    go_wp2_with fail
    go_loopw [5, 6] (fun m i wr => ∃ q : Nat, i = .int .i64 q ∧ q ≤ n ∧ m = .int .i64 ((lims.take q).foldl (bestS k) (-1)) ∧ Below w.heap.size w wr ∧ Blk wr w.heap.size #[.int .i64 cost, .int .i64 due, .slice a n cap] 55) (fun _ i _ => n - (intOf i).toNat)
    case atStart => exact ⟨0, rfl, Nat.zero_le _, by simp, HB1.out, HK1.out⟩
    case round =>
      obtain ⟨q, rfl, hq, rfl, hbe, hkb⟩ := hrel
      have HBE := hide hbe
      have HK := hide hkb
      have hsz := hbe.size
      have hzk := hkb.lt
      have k2 : wr.cell? ⟨w.heap.size, 2, none⟩ = some (.slice a n cap) := hkb.cell 2
      clear hbe hkb
      have hbd := best_bounds (k := k) (B := 20 * k) (by omega) (Int.le_refl _) (lims.take q) (-1) (by omega) (by omega) (fun x hx => HIN.out x (List.mem_of_mem_take hx))
      obtain ⟨hbd0, hbd1⟩ := hbd
      by_cases hlt : q < n
      · obtain ⟨⟨m1, m2⟩, hg⟩ := get_of_lt (l := lims) (k := q) (by rw [HN.out]; exact hlt)
        rcases HC.out with he | ⟨b, o, rfl, hb, hcc⟩
        · rw [he] at hg; simp at hg
        obtain ⟨d0, d1⟩ := (hcc q _ hg).later HBE.out (by omega)
        simp only at d0 d1
        obtain ⟨j1, j2, j3, j4⟩ := HIN.out (m1, m2) (List.mem_of_getElem? hg)
        simp only at j1 j2 j3 j4
        have HTK := hide (take_snoc hg)
        have hqi : (q : Int) < (n : Int) := by omega
        have hbr : b < wr.heap.size := by omega
        generalize hM : (lims.take q).foldl (bestS k) (-1) = M at *
        have HMM := hide hM
        have hb2 := atMost_bounds (l := (m1, m2)) (k := k) (by omega) j1 j3 j4
        have hup := tdiv_up (k := k) (w := m1) (by omega) j1
        have hq0 : 0 ≤ k.tdiv m1 := Int.tdiv_nonneg (by omega) (by omega)
        have hq1 : k.tdiv m1 ≤ k := by rw [Int.tdiv_eq_ediv_of_nonneg (by omega)]; exact Int.ediv_le_self _ (by omega)
        have hm0 : 0 ≤ k.tmod m1 := Int.tmod_nonneg _ (by omega)
        have hm1 : k.tmod m1 < m1 := Int.tmod_lt_of_pos _ (by omega)
        have hat : atMostI (m1, m2) k = m2 * (k.tdiv m1 + (if k.tmod m1 = 0 then 0 else 1)) := by unfold atMostI; rw [← hup]
        generalize hQ : k.tdiv m1 = Q at *
        generalize hR : k.tmod m1 = R at *
        have HQ := hide hQ
        have HR := hide hR
        have hne : ¬ m1 = 0 := by omega
        obtain ⟨hb20, hb21⟩ := hb2
        have HB3 : Hid (Below w.heap.size w (wr.alloc (.cells #[.int .i64 m1, .int .i64 m2] 52))) := HBE.out.alloc hsz _
        have HK3 := hide (HK.out.alloc (.cells #[.int .i64 m1, .int .i64 m2] 52))
        by_cases hR0 : R = 0
        · rw [if_pos hR0, Int.add_zero, Int.mul_comm] at hat
          have HAT := hide hat
          rw [hat] at hb20 hb21
          clear hat hcc hg hM hup
          by_cases hM0 : M < 0
          · go_wp2
            go_roundw
            case rel =>
              refine ⟨q + 1, by go_num, by omega, ?_, HB3.out, HK3.out⟩
              rw [HTK.out, List.foldl_append, HMM.out]
              show _ = Value.int .i64 (bestS k M (m1, m2))
              rw [bestS, if_pos (Or.inl hM0), HAT.out]
            case measure => simp [intOf]; omega
          · by_cases hlm : Q * m2 < M
            · go_wp2
              go_roundw
              case rel =>
                refine ⟨q + 1, by go_num, by omega, ?_, HB3.out, HK3.out⟩
                rw [HTK.out, List.foldl_append, HMM.out]
                show _ = Value.int .i64 (bestS k M (m1, m2))
                rw [bestS, if_pos (Or.inr (by rw [HAT.out]; exact hlm)), HAT.out]
              case measure => simp [intOf]; omega
            · go_wp2
              go_roundw
              case rel =>
                refine ⟨q + 1, by go_num, by omega, ?_, HB3.out, HK3.out⟩
                rw [HTK.out, List.foldl_append, HMM.out]
                show _ = Value.int .i64 (bestS k M (m1, m2))
                rw [bestS, if_neg (by rw [HAT.out]; omega)]
              case measure => simp [intOf]; omega
        · rw [if_neg hR0, Int.mul_comm] at hat
          have HAT := hide hat
          rw [hat] at hb20 hb21
          clear hat hcc hg hM hup
          by_cases hM0 : M < 0
          · go_wp2
            go_roundw
            case rel =>
              refine ⟨q + 1, by go_num, by omega, ?_, HB3.out, HK3.out⟩
              rw [HTK.out, List.foldl_append, HMM.out]
              show _ = Value.int .i64 (bestS k M (m1, m2))
              rw [bestS, if_pos (Or.inl hM0), HAT.out]
            case measure => simp [intOf]; omega
          · by_cases hlm : (Q + 1) * m2 < M
            · go_wp2
              go_roundw
              case rel =>
                refine ⟨q + 1, by go_num, by omega, ?_, HB3.out, HK3.out⟩
                rw [HTK.out, List.foldl_append, HMM.out]
                show _ = Value.int .i64 (bestS k M (m1, m2))
                rw [bestS, if_pos (Or.inr (by rw [HAT.out]; exact hlm)), HAT.out]
              case measure => simp [intOf]; omega
            · go_wp2
              go_roundw
              case rel =>
                refine ⟨q + 1, by go_num, by omega, ?_, HB3.out, HK3.out⟩
                rw [HTK.out, List.foldl_append, HMM.out]
                show _ = Value.int .i64 (bestS k M (m1, m2))
                rw [bestS, if_neg (by rw [HAT.out]; omega)]
              case measure => simp [intOf]; omega
      · have hqi : ¬ (q : Int) < (n : Int) := by omega
        rw [List.take_of_length_le (by rw [HN.out]; omega)]
        go_wp2
        go_ret
        exact ⟨ret_int HE.out, HBE.out⟩

end Go.Proofs.YthloffgebebijaaGreat
