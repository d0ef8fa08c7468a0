/- ExecB: the walk of the reference's first: the place of the job that must be done first. -/
import Derived.Test.YthloffgebebijaaGreatExecA
import Derived.Test.YthloffgebebijaaGreatRows
import Derived.Test.YthloffgebebijaaGreatBase
import Derived.Deep.QuietTactic
import Derived.BigQuiet
import Derived.Test.YthloffgebebijaaGreatAheadA
import Derived.Test.YthloffgebebijaaGreatDrewN
import Derived.Test.YthloffgebebijaaGreatPlainA
import Derived.Laws.Bits64
namespace Go.Proofs.YthloffgebebijaaGreat
open Go.RowKit

def JobAt (w : World) (b o : Nat) (j : Jb) : Prop := w.cell? ⟨b, o, none⟩ = some (.int .i64 j.number) ∧ w.cell? ⟨b, o + 1, none⟩ = some (.int .i64 j.task) ∧ w.cell? ⟨b, o + 2, none⟩ = some (.int .i64 j.deadline) ∧ w.cell? ⟨b, o + 3, none⟩ = some (.int .i64 j.cost)
theorem JobAt.later {w w' : World} {B b o : Nat} {j : Jb} (h : JobAt w b o j) (hb : Below B w w') (hlt : b < B) : JobAt w' b o j :=
  ⟨(hb.cell (p := ⟨b, o, none⟩) hlt).trans h.1, (hb.cell (p := ⟨b, o + 1, none⟩) hlt).trans h.2.1, (hb.cell (p := ⟨b, o + 2, none⟩) hlt).trans h.2.2.1, (hb.cell (p := ⟨b, o + 3, none⟩) hlt).trans h.2.2.2⟩
/-- The value reads as the jobs. -/
def JobsR (w : World) (B : Nat) (v : Value) (js : List Jb) : Prop :=
  ∃ a cap, v = .slice a js.length cap ∧ (js = [] ∨ ∃ b o, a = some ⟨b, o, none⟩ ∧ b < B ∧ ∀ i j, js[i]? = some j → JobAt w b (o + i * 4) j)
theorem JobsR.later {w w' : World} {B B' : Nat} {v : Value} {js : List Jb} (h : JobsR w B v js) (hb : Below B' w w') (hle : B ≤ B') : JobsR w' B v js := by
  obtain ⟨a, cap, hv, h⟩ := h
  exact ⟨a, cap, hv, h.imp id fun ⟨b, o, ha, hlt, hc⟩ => ⟨b, o, ha, hlt, fun i j hi => (hc i j hi).later hb (by omega)⟩⟩

set_option maxRecDepth 100000 in
set_option maxHeartbeats 1600000 in
theorem rFirst_any (X B : Nat) (jv : Value) (js : List Jb) (w : World) (hcell : w.cell? ⟨X, 7, none⟩ = some jv) (hj : JobsR w B jv js) (hX : X < w.heap.size) (hB : B ≤ w.heap.size) (hne : 1 ≤ js.length) (hlen : js.length ≤ 1000000) :
    Calls Tryz.prog 91 #[.pointer (some ⟨X, 0, none⟩)] w fun e w' => e = .returned (.int .i64 (firstJ js)) ∧ Below w.heap.size w w' := by
  obtain ⟨a, cap, rfl, hc⟩ := hj
  have HC := hide hc
  have HF : Hid (firstFrom js (js.length - 1) 1 0 = firstJ js) := rfl
  generalize hN : js.length = n at *
  have HN := hide hN
  have HX := hide hcell
  clear hc hN
  go_enter Tryz.func91, Tryz.ntmps91
  go_wp2_with fail
  go_loopw [3, 4] (fun kv iv wr => ∃ k i : Nat, kv = .int .i64 k ∧ iv = .int .i64 i ∧ 1 ≤ i ∧ i ≤ n ∧ k < n ∧ firstFrom js (n - i) i k = firstJ js ∧ Below w.heap.size w wr) (fun _ iv _ => n - (intOf iv).toNat)
  case atStart => exact ⟨0, 1, rfl, rfl, by omega, by omega, by omega, HF.out, Below.refl _ _⟩
  case round =>
    obtain ⟨k, i, rfl, rfl, hi1, hin, hkn, hff, hbe⟩ := hrel
    have HFF := hide hff
    have HBE := hide hbe
    have hsz := hbe.size
    have c7 : wr.cell? ⟨X, 7, none⟩ = some (.slice a n cap) := (hbe.cell (p := ⟨X, 7, none⟩) hX).trans HX.out
    have hXw : X < wr.heap.size := by omega
    clear hff hbe hcell
    by_cases hlt : i < n
    · obtain ⟨ja, hga⟩ := get_of_lt (l := js) (k := i) (by rw [HN.out]; exact hlt)
      obtain ⟨jb, hgb⟩ := get_of_lt (l := js) (k := k) (by rw [HN.out]; exact hkn)
      rcases HC.out with he | ⟨b, o, rfl, hb, hcc⟩
      · rw [he] at hga; simp at hga
      obtain ⟨a0, a1, a2, a3⟩ := (hcc i _ hga).later HBE.out (by omega)
      obtain ⟨b0, b1, b2, b3⟩ := (hcc k _ hgb).later HBE.out (by omega)
      have hii : (i : Int) < (n : Int) := by omega
      have hki : (k : Int) < (n : Int) := by omega
      have hbw : b < wr.heap.size := by omega
      have HST : Hid (firstFrom js (n - (i + 1)) (i + 1) (if jbBefore ja jb then i else k) = firstJ js) := by
        rw [Hid, ← HFF.out, show n - i = (n - (i + 1)) + 1 from by omega, firstFrom, hga, hgb]
      obtain ⟨an, at', ad, ac⟩ := ja
      obtain ⟨bn, bt, bd, bc⟩ := jb
      simp only at a0 a1 a2 a3 b0 b1 b2 b3
      have HBA : Hid (Below w.heap.size w ((wr.alloc (.cells #[.int .i64 an, .int .i64 at', .int .i64 ad, .int .i64 ac] 169)).alloc (.cells #[.int .i64 bn, .int .i64 bt, .int .i64 bd, .int .i64 bc] 169))) := (HBE.out.alloc hsz _).alloc (by simp; omega) _
      clear hga hgb hcc
      by_cases h1 : ad < bd
      · have hbf : jbBefore ⟨an, at', ad, ac⟩ ⟨bn, bt, bd, bc⟩ = true := by simp [jbBefore, h1]
        go_wp2
        go_roundw
        case rel =>
          refine ⟨i, i + 1, rfl, by go_num, by omega, by omega, by omega, ?_, HBA.out⟩
          have := HST.out
          rw [hbf] at this
          exact this
        case measure => simp [intOf]; omega
      · by_cases h2 : ad = bd
        · by_cases h3 : an < bn
          · have hbf : jbBefore ⟨an, at', ad, ac⟩ ⟨bn, bt, bd, bc⟩ = true := by simp [jbBefore, h2, h3]
            subst h2
            go_wp2
            go_roundw
            case rel =>
              refine ⟨i, i + 1, rfl, by go_num, by omega, by omega, by omega, ?_, HBA.out⟩
              have := HST.out
              rw [hbf] at this
              exact this
            case measure => simp [intOf]; omega
          · have hbf : jbBefore ⟨an, at', ad, ac⟩ ⟨bn, bt, bd, bc⟩ = false := by simp [jbBefore, h1, h3]
            subst h2
            go_wp2
            go_roundw
            case rel =>
              refine ⟨k, i + 1, rfl, by go_num, by omega, by omega, by omega, ?_, HBA.out⟩
              have := HST.out
              rw [hbf] at this
              exact this
            case measure => simp [intOf]; omega
        · have hbf : jbBefore ⟨an, at', ad, ac⟩ ⟨bn, bt, bd, bc⟩ = false := by simp [jbBefore, h1, h2]
          go_wp2
          go_roundw
          case rel =>
            refine ⟨k, i + 1, rfl, by go_num, by omega, by omega, by omega, ?_, HBA.out⟩
            have := HST.out
            rw [hbf] at this
            exact this
          case measure => simp [intOf]; omega
    · have hii : ¬ (i : Int) < (n : Int) := by omega
      have hfin : k = firstJ js := by
        have := HFF.out
        rw [show n - i = 0 from by omega, firstFrom] at this
        exact this
      go_wp2
      go_ret
      exact ⟨by first | rfl | (rw [hfin]), HBE.out⟩

end Go.Proofs.YthloffgebebijaaGreat

/- ExecC: the walk of the reference's message: what the bytes of a line begin with. -/
namespace Go.Proofs.YthloffgebebijaaGreat
open Go.RowKit

theorem exMsg_none {n : Nat} {f0 : Fd} {r : List Fd} (h126 : f0.b = 126) (h4 : r.length + 1 < 4) : exMsg n (f0 :: r) = none := by
  match r, h4 with
  | [], _ => simp [exMsg, h126]
  | [_], _ => simp [exMsg, h126]
  | [_, _], _ => simp [exMsg, h126]
  | _ :: _ :: _ :: _, h4 => simp only [List.length_cons] at h4; omega
theorem exMsg_four {n : Nat} {f0 f1 f2 f3 : Fd} {r : List Fd} (h126 : f0.b = 126) : exMsg n (f0 :: f1 :: f2 :: f3 :: r) = if f2.b = 0 ∨ f3.b ≠ ((((f1.b.toNat ^^^ f2.b.toNat) ^^^ 85 : Nat)) : Int) then some none else if (n : Int) ≤ f1.b then some (some none) else some (some (some (f1.b, f2.b, f3.tick))) := by
  simp [exMsg, h126]

/-- What message answers: the job, the kind. -/
def msgJ (c : Cfg) : Msg → Jb
  | some (some (some (k, cost, t))) => ⟨0, k, t + ((c.tasks.map Tk.due).getD k.toNat 0), cost⟩
  | _ => ⟨0, 0, 0, 0⟩
def msgK : Msg → Int
  | none => 0
  | some none => 1
  | some (some none) => 2
  | some (some (some (_, _, _))) => 3

set_option maxRecDepth 100000 in
set_option maxHeartbeats 3200000 in
theorem rMessage_any (X B : Nat) (tv lv : Value) (c : Cfg) (fs : List Fd) (w : World) (htc : w.cell? ⟨X, 5, none⟩ = some tv) (ht : Tasks w B tv c.tasks) (hl : FedsR w B lv fs) (hX : X < w.heap.size) (hB : B ≤ w.heap.size) (hne : fs ≠ []) (hin : ∀ f ∈ fs, FdIn f) (hdue : ∀ t ∈ c.tasks, 1 ≤ t.due ∧ t.due ≤ 400) (_hn : c.tasks.length ≤ 6) (hlen : fs.length ≤ 1000000) :
    Calls Tryz.prog 112 #[.pointer (some ⟨X, 0, none⟩), lv] w fun e w' => e = .returned (.tuple #[.agg #[.int .i64 (msgJ c (exMsg c.tasks.length fs)).number, .int .i64 (msgJ c (exMsg c.tasks.length fs)).task, .int .i64 (msgJ c (exMsg c.tasks.length fs)).deadline, .int .i64 (msgJ c (exMsg c.tasks.length fs)).cost], .int .i64 (msgK (exMsg c.tasks.length fs))]) ∧ Below w.heap.size w w' := by
  obtain ⟨la, lcap, rfl, hls⟩ := hl
  obtain ⟨ta, tcap, rfl, hts⟩ := ht
  have HB0 : Hid (Below w.heap.size w (w.alloc (.cells #[.int .i64 0, .int .i64 0, .int .i64 0, .int .i64 0] 169))) := (Below.refl _ _).alloc (Nat.le_refl _) _
  have HR0 := hide (Blk.new w #[.int .i64 0, .int .i64 0, .int .i64 0, .int .i64 0] 169)
  rcases hls with h0 | ⟨lb, lo, rfl, hlb, hlc⟩
  · exact absurd h0 hne
  cases fs with
  | nil => exact absurd rfl hne
  | cons f0 r =>
    obtain ⟨c00, c01⟩ := hlc 0 _ rfl
    have hi0 := hin f0 (by simp)
    have hi00 := hi0.b0; have hi01 := hi0.b1
    simp only [Nat.zero_mul, Nat.add_zero] at c00 c01
    have hlbw : lb < w.heap.size := by omega
    by_cases h126 : f0.b = 126
    · by_cases h4 : r.length + 1 < 4
      · have HM : Hid (exMsg c.tasks.length (f0 :: r) = none) := exMsg_none h126 h4
        rw [HM.out]
        simp only [msgJ, msgK]
        have hr : 0 < r.length + 1 := by omega
        have h4i : ((r.length : Int) + 1) < 4 := by omega
        simp only [List.length_cons] at hlen ⊢
        rw [h126] at c00
        go_enter Tryz.func112, Tryz.ntmps112
        repeat (first | go_values | go_skip | go_guarded | go_step | go_upon)
        exact bodyPost_ret (v := .tuple #[.agg #[.int .i64 0, .int .i64 0, .int .i64 0, .int .i64 0], .int .i64 0]) (by simp [results, Tryz.results112, go_sem]) rfl ⟨rfl, HB0.out⟩
      · match r, h4 with
        | [], h4 => exact absurd (show ([] : List Fd).length + 1 < 4 by simp) h4
        | [_], h4 => exact absurd (by simp) h4
        | [_, _], h4 => exact absurd (by simp) h4
        | f1 :: f2 :: f3 :: r, _ =>
          obtain ⟨c10, c11⟩ := hlc 1 _ rfl
          obtain ⟨c20, c21⟩ := hlc 2 _ rfl
          obtain ⟨c30, c31⟩ := hlc 3 _ rfl
          have hi1 := hin f1 (by simp)
          have hi2 := hin f2 (by simp)
          have hi3 := hin f3 (by simp)
          obtain ⟨p, pt⟩ := f1
          obtain ⟨q, qt⟩ := f2
          obtain ⟨z, zt⟩ := f3
          have p0 := hi1.b0; have p1 := hi1.b1; have q0 := hi2.b0; have q1 := hi2.b1; have z0 := hi3.b0; have z1 := hi3.b1; have zt0 := hi3.t0; have zt1 := hi3.t1
          simp only [Nat.one_mul] at c10 c11 c20 c21 c30 c31 p0 p1 q0 q1 z0 z1 zt0 zt1
          have HXX := hide (xor3 ⟨p0, p1⟩ ⟨q0, q1⟩)
          have HE : Hid (exMsg c.tasks.length (f0 :: ⟨p, pt⟩ :: ⟨q, qt⟩ :: ⟨z, zt⟩ :: r) = if q = 0 ∨ z ≠ ((((p.toNat ^^^ q.toNat) ^^^ 85 : Nat)) : Int) then some none else if (c.tasks.length : Int) ≤ p then some (some none) else some (some (some (p, q, zt)))) := by
            exact exMsg_four h126
          generalize hxv : ((((p.toNat ^^^ q.toNat) ^^^ 85 : Nat)) : Int) = xv at *
          have hxx : bits .xor .u8 (bits .xor .u8 p q) 85 = xv := HXX.out
          have hr : 0 < r.length + 1 + 1 + 1 + 1 := by omega
          have h4i : ¬ ((r.length : Int) + 1 + 1 + 1 + 1) < 4 := by omega
          have h1i : (1 : Int) < (r.length : Int) + 1 + 1 + 1 + 1 := by omega
          have h2i : (2 : Int) < (r.length : Int) + 1 + 1 + 1 + 1 := by omega
          have h3i : (3 : Int) < (r.length : Int) + 1 + 1 + 1 + 1 := by omega
          simp only [List.length_cons] at hlen ⊢
          rw [h126] at c00
          clear hlc hin hxv
          by_cases hq0 : q = 0
          · rw [HE.out, if_pos (.inl hq0)]
            simp only [msgJ, msgK]
            clear HE
            subst hq0
            go_enter Tryz.func112, Tryz.ntmps112
            go_wp2_with fail
            go_quiet ((fail))
            repeat (first | go_values | go_skip | go_guarded | go_step | go_upon)
            have HF := ((((show Blk ((w.alloc (.cells #[.int .i64 0, .int .i64 0, .int .i64 0, .int .i64 0] 169)).drewN nq) w.heap.size #[.int .i64 0, .int .i64 0, .int .i64 0, .int .i64 0] 169 from HR0.out).set 0 (.int .i64 0)).set 1 (.int .i64 0)).set 2 (.int .i64 0)).set 3 (.int .i64 0)
            have HF0 := HF.cell 0
            have HF1 := HF.cell 1
            have HF2 := HF.cell 2
            have HF3 := HF.cell 3
            simp at HF0 HF1 HF2 HF3
            exact bodyPost_ret (v := .tuple #[.agg #[.int .i64 0, .int .i64 0, .int .i64 0, .int .i64 0], .int .i64 1]) (by simp [results, Tryz.results112, go_sem, HF0, HF1, HF2, HF3]) rfl ⟨rfl, ((((Below.drewN HB0.out nq).setCell (by simp) _).setCell (by simp) _).setCell (by simp) _).setCell (by simp) _⟩
          · have hd : decide (q = 0) = false := by simp [hq0]
            have hdb : (q == 0) = false := by simp [hq0]
            by_cases hz : z = xv
            · have hd2 : decide (z = xv) = true := by simp [hz]
              have hdz : (z != xv) = false := by simp [hz]
              by_cases hnp : (c.tasks.length : Int) ≤ p
              · rw [HE.out, if_neg (by simp [hq0, hz]), if_pos hnp]
                simp only [msgJ, msgK]
                clear HE
                go_enter Tryz.func112, Tryz.ntmps112
                go_wp2_with fail
                go_quiet ((fail))
                repeat (first | go_values | go_skip | go_guarded | go_step | go_upon)
                have HF := ((((show Blk ((w.alloc (.cells #[.int .i64 0, .int .i64 0, .int .i64 0, .int .i64 0] 169)).drewN nq) w.heap.size #[.int .i64 0, .int .i64 0, .int .i64 0, .int .i64 0] 169 from HR0.out).set 0 (.int .i64 0)).set 1 (.int .i64 0)).set 2 (.int .i64 0)).set 3 (.int .i64 0)
                have HF0 := HF.cell 0
                have HF1 := HF.cell 1
                have HF2 := HF.cell 2
                have HF3 := HF.cell 3
                simp at HF0 HF1 HF2 HF3
                exact bodyPost_ret (v := .tuple #[.agg #[.int .i64 0, .int .i64 0, .int .i64 0, .int .i64 0], .int .i64 2]) (by simp [results, Tryz.results112, go_sem, HF0, HF1, HF2, HF3]) rfl ⟨rfl, ((((Below.drewN HB0.out nq).setCell (by simp) _).setCell (by simp) _).setCell (by simp) _).setCell (by simp) _⟩
              · rw [HE.out, if_neg (by simp [hq0, hz]), if_neg hnp]
                simp only [msgJ, msgK]
                clear HE
                obtain ⟨P, hP⟩ : ∃ P : Nat, p = P := ⟨p.toNat, by omega⟩
                subst hP
                obtain ⟨t, hgt⟩ := get_of_lt (l := c.tasks) (k := P) (by omega)
                have hdu : (c.tasks.map Tk.due).getD P 0 = t.due := by rw [List.getD_eq_getElem?_getD, List.getElem?_map, hgt]; rfl
                obtain ⟨du0, du1⟩ := hdue t (List.mem_of_getElem? hgt)
                rcases hts with he | ⟨tb, to, rfl, htb, htc'⟩
                · rw [he] at hgt; simp at hgt
                obtain ⟨-, t1, -⟩ := htc' P _ hgt
                rw [Int.toNat_natCast, hdu]
                generalize hdv : t.due = du at *
                have hPi : (P : Int) < (c.tasks.length : Int) := by omega
                have htbw : tb < w.heap.size := by omega
                generalize hN : c.tasks.length = n at *
                clear hdv hN hgt htc' hdu hdue
                go_enter Tryz.func112, Tryz.ntmps112
                go_wp2_with fail
                go_quiet ((fail))
                go_wp2_with fail
                go_region
                repeat (first | go_values | go_skip | go_guarded | go_step | go_upon)
                have HF := ((((show Blk ((w.alloc (.cells #[.int .i64 0, .int .i64 0, .int .i64 0, .int .i64 0] 169)).drewN (nq + 1)) w.heap.size #[.int .i64 0, .int .i64 0, .int .i64 0, .int .i64 0] 169 from HR0.out).set 0 (.int .i64 0)).set 1 (.int .i64 P)).set 2 (.int .i64 (zt + du))).set 3 (.int .i64 q)
                have HF0 := HF.cell 0
                have HF1 := HF.cell 1
                have HF2 := HF.cell 2
                have HF3 := HF.cell 3
                simp at HF0 HF1 HF2 HF3
                exact bodyPost_ret (v := .tuple #[.agg #[.int .i64 0, .int .i64 P, .int .i64 (zt + du), .int .i64 q], .int .i64 3]) (by simp [results, Tryz.results112, go_sem, HF0, HF1, HF2, HF3]) rfl ⟨rfl, ((((Below.drewN HB0.out (nq + 1)).setCell (by simp) _).setCell (by simp) _).setCell (by simp) _).setCell (by simp) _⟩
            · have hd2 : decide (z = xv) = false := by simp [hz]
              have hdz : (z != xv) = true := by simp [hz]
              rw [HE.out, if_pos (.inr hz)]
              simp only [msgJ, msgK]
              clear HE
              go_enter Tryz.func112, Tryz.ntmps112
              go_wp2_with fail
              go_quiet ((fail))
              repeat (first | go_values | go_skip | go_guarded | go_step | go_upon)
              have HF := ((((show Blk ((w.alloc (.cells #[.int .i64 0, .int .i64 0, .int .i64 0, .int .i64 0] 169)).drewN nq) w.heap.size #[.int .i64 0, .int .i64 0, .int .i64 0, .int .i64 0] 169 from HR0.out).set 0 (.int .i64 0)).set 1 (.int .i64 0)).set 2 (.int .i64 0)).set 3 (.int .i64 0)
              have HF0 := HF.cell 0
              have HF1 := HF.cell 1
              have HF2 := HF.cell 2
              have HF3 := HF.cell 3
              simp at HF0 HF1 HF2 HF3
              exact bodyPost_ret (v := .tuple #[.agg #[.int .i64 0, .int .i64 0, .int .i64 0, .int .i64 0], .int .i64 1]) (by simp [results, Tryz.results112, go_sem, HF0, HF1, HF2, HF3]) rfl ⟨rfl, ((((Below.drewN HB0.out nq).setCell (by simp) _).setCell (by simp) _).setCell (by simp) _).setCell (by simp) _⟩
    · have HM : Hid (exMsg c.tasks.length (f0 :: r) = some none) := by simp [Hid, exMsg, h126]
      rw [HM.out]
      simp only [msgJ, msgK]
      have hr : 0 < r.length + 1 := by omega
      simp only [List.length_cons] at hlen ⊢
      go_enter Tryz.func112, Tryz.ntmps112
      repeat (first | go_values | go_skip | go_guarded | go_step | go_upon)
      exact bodyPost_ret (v := .tuple #[.agg #[.int .i64 0, .int .i64 0, .int .i64 0, .int .i64 0], .int .i64 1]) (by simp [results, Tryz.results112, go_sem]) rfl ⟨rfl, HB0.out⟩

end Go.Proofs.YthloffgebebijaaGreat

/- ExecD: the walk of the reference's Counts. -/
namespace Go.Proofs.YthloffgebebijaaGreat
open Go.RowKit

/-- The value reads as a list of lists of such lengths. -/
def LensR (w : World) (B : Nat) (v : Value) (ns : List Nat) : Prop :=
  ∃ a cap, v = .slice a ns.length cap ∧ (ns = [] ∨ ∃ b o, a = some ⟨b, o, none⟩ ∧ b < B ∧ ∀ i n, ns[i]? = some n → ∃ a' c', w.cell? ⟨b, o + i, none⟩ = some (.slice a' n c'))

theorem sum_take_le : ∀ (ns : List Nat) (k : Nat), (∀ n ∈ ns, n ≤ 32) → (ns.take k).sum ≤ 32 * ns.length
  | [], k, _ => by simp
  | n :: r, 0, _ => by simp
  | n :: r, k + 1, h => by
    have h1 := h n (by simp)
    have h2 := sum_take_le r k (fun m hm => h m (by simp [hm]))
    simp only [List.take_succ_cons, List.sum_cons, List.length_cons]
    omega

set_option maxRecDepth 100000 in
set_option maxHeartbeats 3200000 in
theorem rCounts_any (X B : Nat) (x1 x2 x3 x4 x5 clock fed jobs done lost unknown bad spilled : Int) (tv lv : Value) (ja : Option Addr) (nj jc : Nat) (ns : List Nat) (w : World)
    (hX : Blk w X #[.int .i64 x1, .int .i64 x2, .int .i64 x3, .int .i64 x4, .int .i64 x5, tv, lv, .slice ja nj jc, .int .i64 clock, .int .i64 fed, .int .i64 0, .int .i64 jobs, .int .i64 done, .int .i64 0, .int .i64 lost, .int .i64 unknown, .int .i64 bad, .int .i64 spilled, .int .i64 0] 142)
    (hl : LensR w B lv ns) (hB : B ≤ w.heap.size) (hn : ns.length ≤ 4) (hns : ∀ n ∈ ns, n ≤ 32) :
    Calls Tryz.prog 38 #[.pointer (some ⟨X, 0, none⟩)] w fun e w' => e = .returned (.agg #[.int .i64 clock, .int .i64 jobs, .int .i64 done, .int .i64 nj, .int .i64 lost, .int .i64 unknown, .int .i64 bad, .int .i64 spilled, .int .i64 (ns.sum : Nat)]) ∧ Below w.heap.size w w' := by
  obtain ⟨la, lcap, rfl, hls⟩ := hl
  have HL := hide hls
  have HX := hide hX
  have HST := hide (fun k => sum_take_le ns k hns)
  have hXw := hX.lt
  have c6 : w.cell? ⟨X, 6, none⟩ = some (.slice la ns.length lcap) := hX.cell 6
  have c7 : w.cell? ⟨X, 7, none⟩ = some (.slice ja nj jc) := hX.cell 7
  have c8 : w.cell? ⟨X, 8, none⟩ = some (.int .i64 clock) := hX.cell 8
  have c10 : w.cell? ⟨X, 10, none⟩ = some (.int .i64 0) := hX.cell 10
  have c11 : w.cell? ⟨X, 11, none⟩ = some (.int .i64 jobs) := hX.cell 11
  have c12 : w.cell? ⟨X, 12, none⟩ = some (.int .i64 done) := hX.cell 12
  have c13 : w.cell? ⟨X, 13, none⟩ = some (.int .i64 0) := hX.cell 13
  have c14 : w.cell? ⟨X, 14, none⟩ = some (.int .i64 lost) := hX.cell 14
  have c15 : w.cell? ⟨X, 15, none⟩ = some (.int .i64 unknown) := hX.cell 15
  have c16 : w.cell? ⟨X, 16, none⟩ = some (.int .i64 bad) := hX.cell 16
  have c17 : w.cell? ⟨X, 17, none⟩ = some (.int .i64 spilled) := hX.cell 17
  have c18 : w.cell? ⟨X, 18, none⟩ = some (.int .i64 0) := hX.cell 18
  generalize hN : ns.length = n at *
  have HN := hide hN
  clear hX hls hns hN
  have HB0 : Hid (Below w.heap.size w ((w.alloc (.cells #[.int .i64 0, .int .i64 0, .int .i64 0, .int .i64 0, .int .i64 0, .int .i64 0, .int .i64 0, .int .i64 0, .int .i64 0] 95)).alloc (.cells #[.int .i64 clock, .int .i64 jobs, .int .i64 done, .int .i64 nj, .int .i64 lost, .int .i64 unknown, .int .i64 bad, .int .i64 spilled, .int .i64 0] 95))) := ((Below.refl _ _).alloc (Nat.le_refl _) _).alloc (by simp) _
  have HZ0 : Hid (Blk ((w.alloc (.cells #[.int .i64 0, .int .i64 0, .int .i64 0, .int .i64 0, .int .i64 0, .int .i64 0, .int .i64 0, .int .i64 0, .int .i64 0] 95)).alloc (.cells #[.int .i64 clock, .int .i64 jobs, .int .i64 done, .int .i64 nj, .int .i64 lost, .int .i64 unknown, .int .i64 bad, .int .i64 spilled, .int .i64 0] 95)) w.heap.size #[.int .i64 0, .int .i64 0, .int .i64 0, .int .i64 0, .int .i64 0, .int .i64 0, .int .i64 0, .int .i64 0, .int .i64 0] 95) := (Blk.new _ _ _).alloc _
  have HC0 : Hid (Blk ((w.alloc (.cells #[.int .i64 0, .int .i64 0, .int .i64 0, .int .i64 0, .int .i64 0, .int .i64 0, .int .i64 0, .int .i64 0, .int .i64 0] 95)).alloc (.cells #[.int .i64 clock, .int .i64 jobs, .int .i64 done, .int .i64 nj, .int .i64 lost, .int .i64 unknown, .int .i64 bad, .int .i64 spilled, .int .i64 0] 95)) (w.heap.size + 1) #[.int .i64 clock, .int .i64 jobs, .int .i64 done, .int .i64 nj, .int .i64 lost, .int .i64 unknown, .int .i64 bad, .int .i64 spilled, .int .i64 0] 95) := by
    have := Blk.new (w.alloc (.cells #[.int .i64 0, .int .i64 0, .int .i64 0, .int .i64 0, .int .i64 0, .int .i64 0, .int .i64 0, .int .i64 0, .int .i64 0] 95)) #[.int .i64 clock, .int .i64 jobs, .int .i64 done, .int .i64 nj, .int .i64 lost, .int .i64 unknown, .int .i64 bad, .int .i64 spilled, .int .i64 0] 95
    simpa [Hid] using this
  go_enter Tryz.func38, Tryz.ntmps38
  go_wp2_with fail
  clear c6 c7 c8 c10 c11 c12 c13 c14 c15 c16 c17 c18
  go_loopw [4] (fun i wr => ∃ q : Nat, i = .int .i64 q ∧ q ≤ n ∧ Below w.heap.size w wr ∧ Blk wr w.heap.size #[.int .i64 0, .int .i64 0, .int .i64 0, .int .i64 0, .int .i64 0, .int .i64 0, .int .i64 0, .int .i64 0, .int .i64 0] 95 ∧ Blk wr (w.heap.size + 1) #[.int .i64 clock, .int .i64 jobs, .int .i64 done, .int .i64 nj, .int .i64 lost, .int .i64 unknown, .int .i64 bad, .int .i64 spilled, .int .i64 ((ns.take q).sum : Nat)] 95) (fun i _ => n - (intOf i).toNat)
  case atStart => exact ⟨0, rfl, Nat.zero_le _, HB0.out, HZ0.out, by simpa using HC0.out⟩
  case round =>
    obtain ⟨q, rfl, hq, hbe, hz, hc⟩ := hrel
    have HBE := hide hbe; have HZ := hide hz; have HC := hide hc
    have hsz := hbe.size
    have hcl := hc.lt
    have c6 : wr.cell? ⟨X, 6, none⟩ = some (.slice la n lcap) := (HX.out.later hbe hXw).cell 6
    have hXr : X < wr.heap.size := by omega
    have hsm := HST.out q
    clear hbe hz
    by_cases hlt : q < n
    · obtain ⟨m, hg⟩ := get_of_lt (l := ns) (k := q) (by rw [HN.out]; exact hlt)
      rcases HL.out with he | ⟨b, o, rfl, hb, hcc⟩
      · rw [he] at hg; simp at hg
      obtain ⟨a', c', d0⟩ := hcc q m hg
      have d1 : wr.cell? ⟨b, o + q, none⟩ = some (.slice a' m c') := (HBE.out.cell (p := ⟨b, o + q, none⟩) (by simp; omega)).trans d0
      have HSM := hide (HST.out (q + 1))
      have HTK : Hid ((ns.take (q + 1)).sum = (ns.take q).sum + m) := by rw [Hid, take_snoc hg, List.sum_append]; simp
      have hsm2 := HSM.out
      rw [HTK.out] at hsm2
      generalize hS : (ns.take q).sum = Sn at *
      have r8 : wr.cell? ⟨w.heap.size + 1, 8, none⟩ = some (.int .i64 Sn) := HC.out.cell 8
      have r8f := HC.out.free 8
      have hqi : (q : Int) < (n : Int) := by omega
      have hbw : b < wr.heap.size := by omega
      have we : IntKind.i64.wrap ((Sn : Int) + m) = Sn + m := IntWalk.i64_in _ ⟨by omega, by omega⟩
      clear hc hg hcc d0 hS
      go_wp2_with fail
      go_region
      go_wp2
      go_roundw
      case rel =>
        refine ⟨q + 1, by go_num, by omega, Below.setCell HBE.out.drew (by simp) _, Blk.other HZ.out.drew (by simp) _, ?_⟩
        rw [HTK.out]
        have h1 := Blk.drew (HC.out.set 8 (.int .i64 ((Sn : Int) + m)))
        simpa using h1
      case measure => simp [intOf]; omega
    · have hqi : ¬ (q : Int) < (n : Int) := by omega
      have hfin : ns.take q = ns := List.take_of_length_le (by rw [HN.out]; omega)
      rw [hfin] at HC hc
      generalize hS : ns.sum = Sn at *
      have r0 : wr.cell? ⟨w.heap.size + 1, 0, none⟩ = some (.int .i64 clock) := HC.out.cell 0
      have y0 : wr.cell? ⟨w.heap.size, 0, none⟩ = some (.int .i64 0) := HZ.out.cell 0
      have yf0 := HZ.out.free 0
      have r1 : wr.cell? ⟨w.heap.size + 1, 1, none⟩ = some (.int .i64 jobs) := HC.out.cell 1
      have y1 : wr.cell? ⟨w.heap.size, 1, none⟩ = some (.int .i64 0) := HZ.out.cell 1
      have yf1 := HZ.out.free 1
      have r2 : wr.cell? ⟨w.heap.size + 1, 2, none⟩ = some (.int .i64 done) := HC.out.cell 2
      have y2 : wr.cell? ⟨w.heap.size, 2, none⟩ = some (.int .i64 0) := HZ.out.cell 2
      have yf2 := HZ.out.free 2
      have r3 : wr.cell? ⟨w.heap.size + 1, 3, none⟩ = some (.int .i64 nj) := HC.out.cell 3
      have y3 : wr.cell? ⟨w.heap.size, 3, none⟩ = some (.int .i64 0) := HZ.out.cell 3
      have yf3 := HZ.out.free 3
      have r4 : wr.cell? ⟨w.heap.size + 1, 4, none⟩ = some (.int .i64 lost) := HC.out.cell 4
      have y4 : wr.cell? ⟨w.heap.size, 4, none⟩ = some (.int .i64 0) := HZ.out.cell 4
      have yf4 := HZ.out.free 4
      have r5 : wr.cell? ⟨w.heap.size + 1, 5, none⟩ = some (.int .i64 unknown) := HC.out.cell 5
      have y5 : wr.cell? ⟨w.heap.size, 5, none⟩ = some (.int .i64 0) := HZ.out.cell 5
      have yf5 := HZ.out.free 5
      have r6 : wr.cell? ⟨w.heap.size + 1, 6, none⟩ = some (.int .i64 bad) := HC.out.cell 6
      have y6 : wr.cell? ⟨w.heap.size, 6, none⟩ = some (.int .i64 0) := HZ.out.cell 6
      have yf6 := HZ.out.free 6
      have r7 : wr.cell? ⟨w.heap.size + 1, 7, none⟩ = some (.int .i64 spilled) := HC.out.cell 7
      have y7 : wr.cell? ⟨w.heap.size, 7, none⟩ = some (.int .i64 0) := HZ.out.cell 7
      have yf7 := HZ.out.free 7
      have r8 : wr.cell? ⟨w.heap.size + 1, 8, none⟩ = some (.int .i64 Sn) := HC.out.cell 8
      have y8 : wr.cell? ⟨w.heap.size, 8, none⟩ = some (.int .i64 0) := HZ.out.cell 8
      have yf8 := HZ.out.free 8
      clear hc
      repeat (first | go_values | go_skip | go_guarded | go_step | go_upon)
      have HF := (((((((((HZ.out.set 0 (.int .i64 clock)).set 1 (.int .i64 jobs)).set 2 (.int .i64 done)).set 3 (.int .i64 nj)).set 4 (.int .i64 lost)).set 5 (.int .i64 unknown)).set 6 (.int .i64 bad)).set 7 (.int .i64 spilled)).set 8 (.int .i64 Sn))
      have HF0 := HF.cell 0
      have HF1 := HF.cell 1
      have HF2 := HF.cell 2
      have HF3 := HF.cell 3
      have HF4 := HF.cell 4
      have HF5 := HF.cell 5
      have HF6 := HF.cell 6
      have HF7 := HF.cell 7
      have HF8 := HF.cell 8
      simp at HF0 HF1 HF2 HF3 HF4 HF5 HF6 HF7 HF8
      exact bodyPost_ret (v := .agg #[.int .i64 clock, .int .i64 jobs, .int .i64 done, .int .i64 nj, .int .i64 lost, .int .i64 unknown, .int .i64 bad, .int .i64 spilled, .int .i64 Sn]) (by simp [results, Tryz.results38, go_sem, HF0, HF1, HF2, HF3, HF4, HF5, HF6, HF7, HF8]) rfl ⟨by rw [hS], (((((((((HBE.out.setCell (by simp) _).setCell (by simp) _).setCell (by simp) _).setCell (by simp) _).setCell (by simp) _).setCell (by simp) _).setCell (by simp) _).setCell (by simp) _).setCell (by simp) _)⟩

end Go.Proofs.YthloffgebebijaaGreat
