/- LineC: the walks of package line's isMessage, message, fedBy. -/
import Derived.Test.YthloffgebebijaaLineB
import Derived.Deep.RegionWith
namespace Go.Proofs.Ythloffgebebijaa
open Go.RowKit

set_option maxRecDepth 100000 in
set_option maxHeartbeats 1600000 in
theorem isMsg_any (B : Nat) (lv : Value) (fs : List Fd) (w : World) (hl : FedsR w B lv fs) (hin : ∀ f ∈ fs, FdIn f) (hlen : fs.length ≤ 1000000) :
    Calls Try.prog 82 #[lv] w fun e w' => e = .returned (.bool (isMg fs)) ∧ Below w.heap.size w w' := by
  obtain ⟨a, c, rfl, hf⟩ := hl
  by_cases h4 : fs.length < 4
  · have HM : Hid (isMg fs = false) := by
      match fs, h4 with
      | [], _ => rfl
      | [_], _ => rfl
      | [_, _], _ => rfl
      | [_, _, _], _ => rfl
      | _ :: _ :: _ :: _ :: _, h4 => simp only [List.length_cons] at h4; omega
    clear hf hin
    generalize fs.length = n at *
    have hi : (n : Int) < 4 := by omega
    go_enter Try.func82, Try.ntmps82
    go_wp2
    go_ret
    exact ⟨ret_bool HM.out.symm, Below.refl _ _⟩
  · rcases hf with h0 | ⟨b, o, rfl, hb, hc⟩
    · rw [h0] at h4; simp at h4
    match fs, h4 with
    | [], h4 => simp at h4
    | [_], h4 => simp at h4
    | [_, _], h4 => simp at h4
    | [_, _, _], h4 => simp at h4
    | f0 :: f1 :: f2 :: f3 :: r, h4 =>
      obtain ⟨c0, _⟩ := hc 0 f0 rfl
      obtain ⟨c1, _⟩ := hc 1 f1 rfl
      obtain ⟨c2, _⟩ := hc 2 f2 rfl
      obtain ⟨c3, _⟩ := hc 3 f3 rfl
      obtain ⟨p0, p1, _, _⟩ := hin f1 (by simp)
      obtain ⟨q0, q1, _, _⟩ := hin f2 (by simp)
      have HX := hide (xor3 (p := f1.b) (q := f2.b) ⟨p0, p1⟩ ⟨q0, q1⟩)
      have HM : Hid (isMg (f0 :: f1 :: f2 :: f3 :: r) = (decide (f0.b = 126) && (decide (f2.b ≠ 0) && decide (f3.b = bits .xor .u8 (bits .xor .u8 f1.b f2.b) 85)))) := by rw [HX.out]; rfl
      have hn : (f0 :: f1 :: f2 :: f3 :: r).length = r.length + 4 := rfl
      rw [hn] at hlen ⊢
      simp only [Nat.zero_mul, Nat.add_zero, Nat.one_mul] at c0 c1 c2 c3
      generalize r.length = n at *
      have hi : ¬ (((n + 4 : Nat) : Int) < 4) := by omega
      have hi1 : (1 : Int) < ((n + 4 : Nat) : Int) := by omega
      have hi2 : (2 : Int) < ((n + 4 : Nat) : Int) := by omega
      have hi3 : (3 : Int) < ((n + 4 : Nat) : Int) := by omega
      clear hc hin h4 hn
      by_cases h1 : f0.b = 126
      · have e1 : (f0.b == 126) = true := by simp [h1]
        by_cases h2 : f2.b = 0
        · have e2 : (f2.b != 0) = false := by simp [h2]
          have HR : Hid (isMg (f0 :: f1 :: f2 :: f3 :: r) = false) := by rw [Hid, HM.out]; simp [h2]
          go_enter Try.func82, Try.ntmps82
          go_wp2_with fail
          go_quiet ((fail))
          go_wp2
          go_ret
          exact ⟨ret_bool HR.out.symm, below_drewN (Below.refl _ _) _⟩
        · have e2 : (f2.b != 0) = true := by simp [h2]
          by_cases h3 : f3.b = bits .xor .u8 (bits .xor .u8 f1.b f2.b) 85
          · have e3 : (f3.b == bits .xor .u8 (bits .xor .u8 f1.b f2.b) 85) = true := by simp [← h3]
            have HR : Hid (isMg (f0 :: f1 :: f2 :: f3 :: r) = true) := by rw [Hid, HM.out, h1, ← h3]; simp [h2]
            clear h3
            go_enter Try.func82, Try.ntmps82
            go_wp2_with fail
            go_quiet ((fail))
            go_wp2
            go_ret
            exact ⟨ret_bool HR.out.symm, below_drewN (Below.refl _ _) _⟩
          · have e3 : (f3.b == bits .xor .u8 (bits .xor .u8 f1.b f2.b) 85) = false := by simp [h3]
            have HR : Hid (isMg (f0 :: f1 :: f2 :: f3 :: r) = false) := by rw [Hid, HM.out]; simp [h3]
            clear h3
            go_enter Try.func82, Try.ntmps82
            go_wp2_with fail
            go_quiet ((fail))
            go_wp2
            go_ret
            exact ⟨ret_bool HR.out.symm, below_drewN (Below.refl _ _) _⟩
      · have e1 : (f0.b == 126) = false := by simp [h1]
        have HR : Hid (isMg (f0 :: f1 :: f2 :: f3 :: r) = false) := by rw [Hid, HM.out]; simp [h1]
        go_enter Try.func82, Try.ntmps82
        go_wp2_with fail
        go_quiet ((fail))
        go_wp2
        go_ret
        exact ⟨ret_bool HR.out.symm, below_drewN (Below.refl _ _) _⟩

set_option maxRecDepth 100000 in
set_option maxHeartbeats 1600000 in
theorem msg_any (B : Nat) (lv : Value) (fs : List Fd) (w : World) (hl : FedsR w B lv fs) (hB : B ≤ w.heap.size) (hin : ∀ f ∈ fs, FdIn f) (hm : isMg fs = true) (hlen : fs.length ≤ 1000000) :
    Calls Try.prog 83 #[lv] w fun e w' => e = .returned (.agg #[.int .i64 (mgOf fs).task, .int .i64 (mgOf fs).cost, .int .i64 (mgOf fs).tick]) ∧ Below w.heap.size w w' := by
  obtain ⟨a, c, rfl, hf⟩ := hl
  match fs, hm with
  | f0 :: f1 :: f2 :: f3 :: r, hm =>
    rcases hf with h0 | ⟨b, o, rfl, hb, hc⟩
    · cases h0
    obtain ⟨c0, d0⟩ := hc 0 f0 rfl
    obtain ⟨c1, d1⟩ := hc 1 f1 rfl
    obtain ⟨c2, d2⟩ := hc 2 f2 rfl
    obtain ⟨c3, d3⟩ := hc 3 f3 rfl
    obtain ⟨p0, p1, _, _⟩ := hin f1 (by simp)
    obtain ⟨q0, q1, _, _⟩ := hin f2 (by simp)
    have hn : (f0 :: f1 :: f2 :: f3 :: r).length = r.length + 4 := rfl
    rw [hn] at hlen ⊢
    simp only [Nat.zero_mul, Nat.add_zero, Nat.one_mul] at c0 c1 c2 c3 d0 d1 d2 d3
    simp only [mgOf]
    generalize r.length = n at *
    have hi1 : (1 : Int) < ((n + 4 : Nat) : Int) := by omega
    have hi2 : (2 : Int) < ((n + 4 : Nat) : Int) := by omega
    have hi3 : (3 : Int) < ((n + 4 : Nat) : Int) := by omega
    have hbl : b < w.heap.size := by omega
    clear hc hin hn hm
    go_enter Try.func83, Try.ntmps83
    go_wp2_with fail
    apply wp_once
    case h =>
      go_region
      all_goals exact ⟨rfl, rfl⟩
    repeat (first | go_values | go_skip | go_guarded | go_step | go_upon)
    have HF := (Blk.new w #[.int .i64 f1.b, .int .i64 f2.b, .int .i64 f3.tick] 148).drew
    have s0 := HF.cell 0
    have s1 := HF.cell 1
    have s2 := HF.cell 2
    simp at s0 s1 s2
    exact bodyPost_ret (v := .agg #[.int .i64 f1.b, .int .i64 f2.b, .int .i64 f3.tick]) (by simp [results, Try.results83, go_sem]) rfl ⟨rfl, ((Below.refl _ _).alloc (Nat.le_refl _) _).drew⟩

theorem fedBy_from (t : Int) (l : List Fd) (k : Nat) (hk : k ≤ fedBy t l) : (k < fedBy t l ↔ ∃ f, l[k]? = some f ∧ f.tick ≤ t) := by
  induction l generalizing k with
  | nil => simp [fedBy]
  | cons a l ih =>
    by_cases ha : a.tick ≤ t
    · rw [fedBy_cons_le ha] at hk ⊢
      cases k with
      | zero => simp [ha]
      | succ k => simpa using ih k (by omega)
    · rw [fedBy_cons_gt ha] at hk ⊢
      obtain rfl : k = 0 := by omega
      simp [ha]

set_option maxRecDepth 100000 in
set_option maxHeartbeats 1600000 in
theorem fedBy_any (base X o : Nat) (v : Value) (l : List Fd) (t : Int) (w : World) (hc : w.cell? ⟨X, o, none⟩ = some v) (h : FedP w base v l) (hlen : l.length ≤ 1000000) :
    Calls Try.prog 80 #[.pointer (some ⟨X, o, none⟩), .int .i64 t] w fun e w' => e = .returned (.int .i64 (fedBy t l)) ∧ w' = w := by
  obtain ⟨a, c, hv⟩ := ownsRow_slice h
  subst hv
  have HJ := hide h
  have hfl := fedBy_le t l
  have HFB := hide (fedBy_from t l)
  clear h
  generalize hN : l.length = n at *
  generalize hF : fedBy t l = fb at *
  have HN := hide hN
  clear hN hF
  go_enter Try.func80, Try.ntmps80
  go_wp2_with fail
  go_loopw [5] (fun nv wr => ∃ k : Nat, nv = .int .i64 k ∧ k ≤ fb ∧ wr = w) (fun nv _ => n - (intOf nv).toNat)
  case atStart => exact ⟨0, rfl, by omega, rfl⟩
  case round =>
    obtain ⟨k, rfl, hk, rfl⟩ := hrel
    by_cases hlt : k < n
    · have hi : (k : Int) < (n : Int) := by omega
      obtain ⟨f, hf⟩ := get_of_lt (l := l) (k := k) (by rw [HN.out]; exact hlt)
      obtain ⟨g, cap, hv, -⟩ := ownsRow_some HJ.out (by rw [HN.out]; omega)
      simp only [Value.slice.injEq] at hv
      obtain ⟨rfl, -, rfl⟩ := hv
      obtain ⟨_, d1⟩ := HJ.out.fd hf
      by_cases ht : f.tick ≤ t
      · have hkk : k < fb := (HFB.out k hk).2 ⟨f, hf, ht⟩
        clear hf
        go_wp2
        go_roundw
        case rel => exact ⟨k + 1, by go_num, by omega, by first | rfl | trivial⟩
        case measure => simp [intOf]; omega
      · have hkk : ¬ k < fb := fun h => by
          obtain ⟨f', hf', ht'⟩ := (HFB.out k hk).1 h
          rw [hf] at hf'; cases hf'; exact ht ht'
        have HKF : Hid ((k : Int) = (fb : Int)) := by rw [Hid]; omega
        clear hf hkk
        go_wp2
        go_ret
        exact ⟨ret_int HKF.out, rfl⟩
    · have hi : ¬ ((k : Int) < (n : Int)) := by omega
      have HKF : Hid ((k : Int) = (fb : Int)) := by rw [Hid]; omega
      go_wp2
      go_ret
      exact ⟨ret_int HKF.out, rfl⟩

end Go.Proofs.Ythloffgebebijaa
