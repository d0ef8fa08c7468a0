/- RefC: the walk of the reference's at; its reading of bytes as a plain function. -/
import Derived.Test.YthloffgebebijaaGreatRefK
import Derived.Test.YthloffgebebijaaGreatMath
import Derived.Test.YthloffgebebijaaGreatSetA
import Derived.Test.YthloffgebebijaaGreatBookK
import Derived.Test.YthloffgebebijaaGreatStrK
import Derived.Deep.RegionLaw
import Derived.Deep.DeepMust
import Derived.Test.YthloffgebebijaaGreatAheadK
import Derived.Deep.QuietTactic
import Derived.Deep.RegionHeld3
import Derived.Test.YthloffgebebijaaGreatLentK
namespace Go.Proofs.YthloffgebebijaaGreat
open Go.RowKit

/-- A byte of some; 0 behind their end. -/
def atI (bs : List Int) (i : Nat) : Int := (bs[i]?).getD 0

theorem atI_bounds {bs : List Int} (h : AllB bs) (i : Nat) : 0 ≤ atI bs i ∧ atI bs i < 256 := by
  unfold atI
  cases hx : bs[i]? with
  | none => simp
  | some x => exact h x (List.mem_of_getElem? hx)

set_option maxRecDepth 100000 in
set_option maxHeartbeats 400000 in
theorem refAt_any (B : Nat) (v : Value) (bs : List Int) (i : Nat) (j : Int) (w : World) (h : Rd8 w B v bs) (hb : AllB bs) (_hl : bs.length ≤ 140737488355328) (hj : j = i) :
    Calls Tryz.prog 58 #[v, .int .i64 j] w fun e w' => e = .returned (.int .i64 (atI bs i)) ∧ w = w' := by
  subst hj
  obtain ⟨a, cap, rfl, hcap, hv⟩ := h
  by_cases hi : i < bs.length
  · obtain ⟨x, hx⟩ := get_of_lt hi
    have hxb := hb x (List.mem_of_getElem? hx)
    obtain ⟨hx0, hx1⟩ := hxb
    rcases hv with h0 | ⟨b, o, rfl, -, hc⟩
    · rw [h0] at hi; simp at hi
    have d0 := hc i x hx
    have HE : Hid (atI bs i = x) := by simp [Hid, atI, hx]
    generalize bs.length = n at *
    clear hc hb hx
    go_enter Tryz.func58, Tryz.ntmps58
    go_wp2
    go_ret
    exact ⟨ret_int HE.out.symm, rfl⟩
  · have HE : Hid (atI bs i = 0) := by simp [Hid, atI, List.getElem?_eq_none (Nat.le_of_not_lt hi)]
    generalize bs.length = n at *
    clear hb hv
    go_enter Tryz.func58, Tryz.ntmps58
    go_wp2
    go_ret
    exact ⟨ret_int HE.out.symm, rfl⟩

/-- The reference's reading of limits: from k on, at most m of them, as long as there are bytes. -/
def refLims (bs : List Int) : Nat → Nat → List (Int × Int) × Nat
  | 0, k => ([], k)
  | m + 1, k => if k < bs.length then ((256 * atI bs k + atI bs (k + 1), atI bs (k + 2)) :: (refLims bs m (k + 3)).1, (refLims bs m (k + 3)).2) else ([], k)
def refTask (bs : List Int) (i : Nat) : Tk × Nat :=
  (⟨atI bs i, 256 * atI bs (i + 1) + atI bs (i + 2), (refLims bs (atI bs (i + 3)).toNat (i + 4)).1⟩, (refLims bs (atI bs (i + 3)).toNat (i + 4)).2)
def refTasks (bs : List Int) : Nat → Nat → List Tk × Nat
  | 0, i => ([], i)
  | n + 1, i => if i < bs.length then ((refTask bs i).1 :: (refTasks bs n (refTask bs i).2).1, (refTasks bs n (refTask bs i).2).2) else ([], i)
def refCfg (bs : List Int) : Cfg := ⟨atI bs 1, atI bs 2, atI bs 3, atI bs 4, atI bs 5, (refTasks bs (atI bs 6).toNat 7).1⟩

theorem atI_app (p : List Int) (x : Int) (r : List Int) : atI (p ++ x :: r) p.length = x := by simp [atI]

theorem refLims_bytes (p : List Int) (ls : List (Int × Int)) (r : List Int) : refLims (p ++ limBytes ls ++ r) ls.length p.length = (ls, p.length + 3 * ls.length) := by
  induction ls generalizing p with
  | nil => rfl
  | cons l t ih =>
    have e : p ++ limBytes (l :: t) ++ r = (p ++ [l.1 / 256, l.1 % 256, l.2]) ++ limBytes t ++ r := by simp [limBytes]
    have hi := ih (p ++ [l.1 / 256, l.1 % 256, l.2])
    rw [← e] at hi
    simp only [List.length_append, List.length_cons, List.length_nil] at hi
    have a0 : atI (p ++ limBytes (l :: t) ++ r) p.length = l.1 / 256 := by simp [atI, limBytes]
    have a1 : atI (p ++ limBytes (l :: t) ++ r) (p.length + 1) = l.1 % 256 := by simp [atI, limBytes]
    have a2 : atI (p ++ limBytes (l :: t) ++ r) (p.length + 2) = l.2 := by simp [atI, limBytes]
    rw [List.length_cons, refLims, if_pos (by simp [limBytes]), a0, a1, a2, hi]
    have : 256 * (l.1 / 256) + l.1 % 256 = l.1 := by omega
    rw [this]
    simp; omega

theorem refTask_bytes (p : List Int) (t : Tk) (r : List Int) : refTask (p ++ taskBytes t ++ r) p.length = (t, p.length + (taskBytes t).length) := by
  obtain ⟨cost, due, ls⟩ := t
  have a0 : atI (p ++ taskBytes ⟨cost, due, ls⟩ ++ r) p.length = cost := by simp [atI, taskBytes]
  have a1 : atI (p ++ taskBytes ⟨cost, due, ls⟩ ++ r) (p.length + 1) = due / 256 := by simp [atI, taskBytes]
  have a2 : atI (p ++ taskBytes ⟨cost, due, ls⟩ ++ r) (p.length + 2) = due % 256 := by simp [atI, taskBytes]
  have a3 : atI (p ++ taskBytes ⟨cost, due, ls⟩ ++ r) (p.length + 3) = (ls.length : Int) := by simp [atI, taskBytes]
  have e : p ++ taskBytes ⟨cost, due, ls⟩ ++ r = (p ++ [cost, due / 256, due % 256, (ls.length : Int)]) ++ limBytes ls ++ r := by simp [taskBytes]
  have hl := refLims_bytes (p ++ [cost, due / 256, due % 256, (ls.length : Int)]) ls r
  rw [← e] at hl
  simp only [List.length_append, List.length_cons, List.length_nil] at hl
  have hd : 256 * (due / 256) + due % 256 = due := by omega
  unfold refTask
  rw [a0, a1, a2, a3, hd, Int.toNat_natCast, hl]
  simp [taskBytes, limBytes_length]; omega

theorem refTasks_bytes (p : List Int) (ts : List Tk) (r : List Int) : refTasks (p ++ ts.flatMap taskBytes ++ r) ts.length p.length = (ts, p.length + (ts.flatMap taskBytes).length) := by
  induction ts generalizing p with
  | nil => rfl
  | cons t u ih =>
    have e : p ++ (t :: u).flatMap taskBytes ++ r = p ++ taskBytes t ++ (u.flatMap taskBytes ++ r) := by simp
    have e2 : p ++ (t :: u).flatMap taskBytes ++ r = (p ++ taskBytes t) ++ u.flatMap taskBytes ++ r := by simp
    have h1 := refTask_bytes p t (u.flatMap taskBytes ++ r)
    have h2 := ih (p ++ taskBytes t)
    rw [← e] at h1
    rw [← e2, List.length_append] at h2
    have hlt : p.length < (p ++ (t :: u).flatMap taskBytes ++ r).length := by simp [taskBytes]
    rw [List.length_cons, refTasks, if_pos hlt, h1, h2]
    simp; omega

/-- Its reading of a configuration's bytes is the configuration. -/
theorem refCfg_bytes (c : Cfg) : refCfg (cfgBytes c) = c := by
  obtain ⟨x1, x2, x3, x4, x5, ts⟩ := c
  have e : cfgBytes ⟨x1, x2, x3, x4, x5, ts⟩ = [84, x1, x2, x3, x4, x5, (ts.length : Int)] ++ ts.flatMap taskBytes ++ [(-(bsum (cfgBytes0 ⟨x1, x2, x3, x4, x5, ts⟩))) % 256] := rfl
  have h := refTasks_bytes [84, x1, x2, x3, x4, x5, (ts.length : Int)] ts [(-(bsum (cfgBytes0 ⟨x1, x2, x3, x4, x5, ts⟩))) % 256]
  rw [← e] at h
  have a1 : atI (cfgBytes ⟨x1, x2, x3, x4, x5, ts⟩) 1 = x1 := by rw [e]; simp [atI]
  have a2 : atI (cfgBytes ⟨x1, x2, x3, x4, x5, ts⟩) 2 = x2 := by rw [e]; simp [atI]
  have a3 : atI (cfgBytes ⟨x1, x2, x3, x4, x5, ts⟩) 3 = x3 := by rw [e]; simp [atI]
  have a4 : atI (cfgBytes ⟨x1, x2, x3, x4, x5, ts⟩) 4 = x4 := by rw [e]; simp [atI]
  have a5 : atI (cfgBytes ⟨x1, x2, x3, x4, x5, ts⟩) 5 = x5 := by rw [e]; simp [atI]
  have a6 : atI (cfgBytes ⟨x1, x2, x3, x4, x5, ts⟩) 6 = (ts.length : Int) := by rw [e]; simp [atI]
  unfold refCfg
  rw [a1, a2, a3, a4, a5, a6, Int.toNat_natCast]
  simp only [List.length_cons, List.length_nil] at h
  rw [h]

/-- So what it answers is what the program answers. -/
theorem dec_eq_ref {bs : List Int} (hb : AllB bs) : dec bs = if cfgOk (refCfg bs) = true ∧ cfgBytes (refCfg bs) = bs then some (refCfg bs) else none := by
  split
  · rename_i h
    have := dec_cfg (refCfg bs) h.1
    rwa [h.2] at this
  · rename_i h
    cases hd : dec bs with
    | none => rfl
    | some c =>
      exfalso
      have := dec_inv hb hd
      apply h
      rw [← this.2, refCfg_bytes]
      exact ⟨this.1, rfl⟩

end Go.Proofs.YthloffgebebijaaGreat

/- RefD: the walk of the reference's Decode: it answers what the program answers. -/
namespace Go.Proofs.YthloffgebebijaaGreat
open Go.RowKit

/-- What the reference's Decode answers: a value that reads so. -/
def RefPost (w w' : World) (e : Ending) : Option Cfg → Prop
  | none => e = .returned (.tuple #[zeroCfg, .int .i64 2]) ∧ Below w.heap.size w w'
  | some c => ∃ v, e = .returned (.tuple #[v, .int .i64 0]) ∧ Cf w' w'.heap.size v c ∧ Below w.heap.size w w'

set_option maxRecDepth 100000 in
set_option maxHeartbeats 3200000 in
theorem refDecode_any (B : Nat) (v : Value) (bs : List Int) (w : World) (h : Rd8 w B v bs) (hB : B ≤ w.heap.size) (hb : AllB bs) (hlen : bs.length ≤ 1000000000) :
    Calls Tryz.prog 30 #[v] w fun e w' => RefPost w w' e (dec bs) := by
  have HH := hide h
  have HB := hide hb
  have HD := hide (dec_eq_ref hb)
  have HAT : Hid (∀ (i : Nat) (j : Int) (w' : World), Below w.heap.size w w' → j = i → Calls Tryz.prog 58 #[v, .int .i64 j] w' fun e w'' => e = .returned (.int .i64 (atI bs i)) ∧ w' = w'') := fun i j w' hb' hj => refAt_any B v bs i j w' (HH.out.later hb' hB) hb (by omega) hj
  obtain ⟨i0, hi, hz0, hzs, hzb⟩ := info_parts info_limit
  have HI := hide (And.intro hi (And.intro hz0 (And.intro hzs hzb)))
  obtain ⟨i1, hi1, hy0, hys, hyb⟩ := info_parts info_task
  have HI1 := hide (And.intro hi1 (And.intro hy0 (And.intro hys hyb)))
  clear hi hz0 hzs hzb hi1 hy0 hys hyb
  obtain ⟨va, vcap, rfl, hcap, hv⟩ := h
  have HX : Hid (refCfg bs = ⟨atI bs 1, atI bs 2, atI bs 3, atI bs 4, atI bs 5, (refTasks bs (atI bs 6).toNat 7).1⟩) := rfl
  have h6 := atI_bounds hb 6
  have hb0 : ∀ o, Below w.heap.size w (w.alloc o) := fun o => (Below.refl _ _).alloc (Nat.le_refl _) _
  have HB0 := hide hb0
  have HAB : Hid (∀ i, 0 ≤ atI bs i ∧ atI bs i < 256) := fun i => atI_bounds hb i
  generalize hn : bs.length = n at *
  have HN := hide hn
  clear hn hv hb hb0
  go_enter Tryz.func30, Tryz.ntmps30
  go_wp2_with fail
  refine (HAT.out 1 _ _ (HB0.out _) rfl).mono ?_
  rintro e w' ⟨rfl, rfl⟩
  go_wp2_with fail
  refine (HAT.out 2 _ _ (HB0.out _) rfl).mono ?_
  rintro e w' ⟨rfl, rfl⟩
  go_wp2_with fail
  refine (HAT.out 3 _ _ (HB0.out _) rfl).mono ?_
  rintro e w' ⟨rfl, rfl⟩
  go_wp2_with fail
  refine (HAT.out 4 _ _ (HB0.out _) rfl).mono ?_
  rintro e w' ⟨rfl, rfl⟩
  go_wp2_with fail
  refine (HAT.out 5 _ _ (HB0.out _) rfl).mono ?_
  rintro e w' ⟨rfl, rfl⟩
  go_wp2_with fail
  generalize hx1 : atI bs 1 = x1 at *
  generalize hx2 : atI bs 2 = x2 at *
  generalize hx3 : atI bs 3 = x3 at *
  generalize hx4 : atI bs 4 = x4 at *
  generalize hx5 : atI bs 5 = x5 at *
  clear hx1 hx2 hx3 hx4 hx5
  obtain ⟨h60, h61⟩ := h6
  obtain ⟨N, hN⟩ : ∃ N : Nat, atI bs 6 = N := ⟨(atI bs 6).toNat, by omega⟩
  have hN256 : N < 256 := by omega
  have HN6 := hide hN
  rw [hN, Int.toNat_natCast] at HX
  clear hN h60 h61
  go_loopw [5, 6] (fun i nn wr => ∃ (a r p : Nat) (done : List Tk) (tva : Option Addr) (tvc : Nat), i = .int .i64 p ∧ nn = .int .i64 a ∧ a + r = N ∧ p ≤ n + 7 ∧ refTasks bs N 7 = (done ++ (refTasks bs r p).1, (refTasks bs r p).2) ∧ done.length = a ∧ OwnT wr w.heap.size (.slice tva done.length tvc) done ∧ Below w.heap.size w wr ∧ Blk wr w.heap.size #[.int .i64 0, .int .i64 0, .int .i64 0, .int .i64 0, .int .i64 0, .slice none 0 0] 40 ∧ Blk wr (w.heap.size + 1) #[.int .i64 x1, .int .i64 x2, .int .i64 x3, .int .i64 x4, .int .i64 x5, .slice tva done.length tvc] 40) (fun _ nn _ => N - (intOf nn).toNat)
  case atStart =>
    refine ⟨0, N, 7, [], none, 0, rfl, rfl, by omega, by omega, by simp, rfl, ⟨[], by simpa [flat3] using World.ownsRow_nil _ _ _ _, rfl, by simp⟩, (HB0.out _).alloc (by simp) _, (Blk.new _ _ _).alloc _, ?_⟩
    have := Blk.new (w.alloc (.cells #[.int .i64 0, .int .i64 0, .int .i64 0, .int .i64 0, .int .i64 0, .slice none 0 0] 40)) #[.int .i64 x1, .int .i64 x2, .int .i64 x3, .int .i64 x4, .int .i64 x5, .slice none 0 0] 40
    simpa using this
  case round =>
    obtain ⟨a, r, p, done, tva, tvc, rfl, rfl, har, hp, hrt, hdl, hot, hbe, hA, hC⟩ := hrel
    have HAR := hide har; have HRT := hide hrt; have HDL := hide hdl; have HOT := hide hot; have HBE := hide hbe; have HA := hide hA; have HC := hide hC
    have hsz := hbe.size
    have hzc := hC.lt
    clear har hrt hdl hot hbe hA hC
    cases r with
    | zero =>
      have ha : ¬ a < N := by have := HAR.out; omega
      have hfin : refTasks bs N 7 = (done, p) := by rw [HRT.out]; simp [refTasks]
      go_wp2_with fail
      refine (HAT.out 6 _ _ HBE.out rfl).mono ?_
      rintro e w' ⟨rfl, rfl⟩
      rw [HN6.out]
      have HCFG : Hid (refCfg bs = ⟨x1, x2, x3, x4, x5, done⟩) := by rw [Hid, HX.out, hfin]
      clear hfin
      have b0 : wr.cell? ⟨w.heap.size + 1, 0, none⟩ = some (.int .i64 x1) := HC.out.cell 0
      have b1 : wr.cell? ⟨w.heap.size + 1, 1, none⟩ = some (.int .i64 x2) := HC.out.cell 1
      have b2 : wr.cell? ⟨w.heap.size + 1, 2, none⟩ = some (.int .i64 x3) := HC.out.cell 2
      have b3 : wr.cell? ⟨w.heap.size + 1, 3, none⟩ = some (.int .i64 x4) := HC.out.cell 3
      have b4 : wr.cell? ⟨w.heap.size + 1, 4, none⟩ = some (.int .i64 x5) := HC.out.cell 4
      have b5 : wr.cell? ⟨w.heap.size + 1, 5, none⟩ = some (.slice tva done.length tvc) := HC.out.cell 5
      have HCF : Hid (Cf wr wr.heap.size (.agg #[.int .i64 x1, .int .i64 x2, .int .i64 x3, .int .i64 x4, .int .i64 x5, .slice tva done.length tvc]) ⟨x1, x2, x3, x4, x5, done⟩) := ⟨_, rfl, HOT.out.tasks⟩
      go_wp2_with fail
      by_cases hok : cfgOk ⟨x1, x2, x3, x4, x5, done⟩ = true
      · refine (refEncode_yes wr.heap.size _ ⟨x1, x2, x3, x4, x5, done⟩ wr HCF.out (Nat.le_refl _) hok).mono ?_
        rintro e w5 ⟨v5, rfl, o5, q5⟩
        have HA5 := HA.out.later q5 (by omega)
        have HC5 := HC.out.later q5 hzc
        have hcv1 := conv_rd8 o5.rd
        have hcv2 := conv_rd8 (HH.out.later (HBE.out.trans (q5.mono hsz)) hB)
        have hz5 := q5.size
        have HBF := hide (HBE.out.trans (q5.mono hsz))
        have HOT5 := hide (HOT.out.below q5)
        have HCF5 := hide (HCF.out.later q5 (Nat.le_refl _))
        have HA5' := hide HA5
        have HC5' := hide HC5
        have HBY := hide (cfgBytes_allB hok)
        obtain ⟨xa, xc, hx5⟩ := o5.slice
        subst hx5
        generalize hL5 : (cfgBytes ⟨x1, x2, x3, x4, x5, done⟩).length = L5 at *
        clear hL5
        by_cases heq : cfgBytes ⟨x1, x2, x3, x4, x5, done⟩ = bs
        · have HDS : Hid (dec bs = some ⟨x1, x2, x3, x4, x5, done⟩) := by rw [Hid, HD.out, HCFG.out, if_pos ⟨hok, heq⟩]
          rw [heq] at hcv1
          generalize hst : strOfNums bs = st at *
          clear hst heq o5 q5
          have d0 : w5.cell? ⟨w.heap.size + 1, 0, none⟩ = some (.int .i64 x1) := HC5.cell 0
          have d1 : w5.cell? ⟨w.heap.size + 1, 1, none⟩ = some (.int .i64 x2) := HC5.cell 1
          have d2 : w5.cell? ⟨w.heap.size + 1, 2, none⟩ = some (.int .i64 x3) := HC5.cell 2
          have d3 : w5.cell? ⟨w.heap.size + 1, 3, none⟩ = some (.int .i64 x4) := HC5.cell 3
          have d4 : w5.cell? ⟨w.heap.size + 1, 4, none⟩ = some (.int .i64 x5) := HC5.cell 4
          have d5 : w5.cell? ⟨w.heap.size + 1, 5, none⟩ = some (.slice tva done.length tvc) := HC5.cell 5
          have ac0 : w5.cell? ⟨w.heap.size, 0, none⟩ = some (.int .i64 0) := HA5.cell 0
          have ac1 : w5.cell? ⟨w.heap.size, 1, none⟩ = some (.int .i64 0) := HA5.cell 1
          have ac2 : w5.cell? ⟨w.heap.size, 2, none⟩ = some (.int .i64 0) := HA5.cell 2
          have ac3 : w5.cell? ⟨w.heap.size, 3, none⟩ = some (.int .i64 0) := HA5.cell 3
          have ac4 : w5.cell? ⟨w.heap.size, 4, none⟩ = some (.int .i64 0) := HA5.cell 4
          have ac5 : w5.cell? ⟨w.heap.size, 5, none⟩ = some (.slice none 0 0) := HA5.cell 5
          have af0 := HA5.free 0
          have af1 := HA5.free 1
          have af2 := HA5.free 2
          have af3 := HA5.free 3
          have af4 := HA5.free 4
          have af5 := HA5.free 5
          have hsz5 : w.heap.size + 1 < w5.heap.size := HC5.lt
          clear HA5 HC5 b0 b1 b2 b3 b4 b5
          simp only []
          repeat (first | go_values | go_skip | go_guarded | go_step | go_upon)
          have HF := (((((HA5'.out.set 0 (.int .i64 x1)).set 1 (.int .i64 x2)).set 2 (.int .i64 x3)).set 3 (.int .i64 x4)).set 4 (.int .i64 x5)).set 5 (.slice tva done.length tvc)
          have HF0 := HF.cell 0
          have HF1 := HF.cell 1
          have HF2 := HF.cell 2
          have HF3 := HF.cell 3
          have HF4 := HF.cell 4
          have HF5 := HF.cell 5
          simp at HF0 HF1 HF2 HF3 HF4 HF5
          refine bodyPost_ret (v := .tuple #[.agg #[.int .i64 x1, .int .i64 x2, .int .i64 x3, .int .i64 x4, .int .i64 x5, .slice tva done.length tvc], .int .i64 0]) (by simp [results, Tryz.results30, go_sem, HF0, HF1, HF2, HF3, HF4, HF5]) rfl ?_
          rw [HDS.out]
          refine ⟨_, rfl, ⟨_, rfl, ?_⟩, ((((((HBF.out.setCell (Nat.le_refl _) _).setCell (Nat.le_refl _) _).setCell (Nat.le_refl _) _).setCell (Nat.le_refl _) _).setCell (Nat.le_refl _) _).setCell (Nat.le_refl _) _)⟩
          have A0 := HA5'.out
          have A1 := A0.set 0 (.int .i64 x1)
          have A2 := A1.set 1 (.int .i64 x2)
          have A3 := A2.set 2 (.int .i64 x3)
          have A4 := A3.set 3 (.int .i64 x4)
          have A5 := A4.set 4 (.int .i64 x5)
          exact ((((((HOT5.out.other A0 (by decide) (by decide)).other A1 (by decide) (by decide)).other A2 (by decide) (by decide)).other A3 (by decide) (by decide)).other A4 (by decide) (by decide)).other A5 (by decide) (by decide)).tasks
        · have HDN : Hid (dec bs = none) := by rw [Hid, HD.out, HCFG.out, if_neg (by intro h; exact heq h.2)]
          have hne : strOfNums (cfgBytes ⟨x1, x2, x3, x4, x5, done⟩) ≠ strOfNums bs := fun h => heq (strOfNums_inj HBY.out HB.out h)
          generalize hst : strOfNums bs = st at *
          generalize hst2 : strOfNums (cfgBytes ⟨x1, x2, x3, x4, x5, done⟩) = st2 at *
          have hnl : ¬ st2.toList = st.toList := fun h => hne (by rw [ByteArray.toList_eq, ByteArray.toList_eq] at h; cases st; cases st2; simp_all)
          have hnl2 : (st2.toList == st.toList) = false := by simpa using hnl
          clear hnl
          clear hst hst2 heq o5 q5 hne HC5
          have ac0 : w5.cell? ⟨w.heap.size, 0, none⟩ = some (.int .i64 0) := HA5.cell 0
          have ac1 : w5.cell? ⟨w.heap.size, 1, none⟩ = some (.int .i64 0) := HA5.cell 1
          have ac2 : w5.cell? ⟨w.heap.size, 2, none⟩ = some (.int .i64 0) := HA5.cell 2
          have ac3 : w5.cell? ⟨w.heap.size, 3, none⟩ = some (.int .i64 0) := HA5.cell 3
          have ac4 : w5.cell? ⟨w.heap.size, 4, none⟩ = some (.int .i64 0) := HA5.cell 4
          have ac5 : w5.cell? ⟨w.heap.size, 5, none⟩ = some (.slice none 0 0) := HA5.cell 5
          have af0 := HA5.free 0
          have af1 := HA5.free 1
          have af2 := HA5.free 2
          have af3 := HA5.free 3
          have af4 := HA5.free 4
          have af5 := HA5.free 5
          have HAZ := hide HA5
          clear HA5 b0 b1 b2 b3 b4 b5
          simp only []
          repeat (first | go_values | go_skip | go_guarded | go_step | go_upon)
          have HF := (((((HAZ.out.set 0 (.int .i64 0)).set 1 (.int .i64 0)).set 2 (.int .i64 0)).set 3 (.int .i64 0)).set 4 (.int .i64 0)).set 5 (.slice none 0 0)
          have HF0 := HF.cell 0
          have HF1 := HF.cell 1
          have HF2 := HF.cell 2
          have HF3 := HF.cell 3
          have HF4 := HF.cell 4
          have HF5 := HF.cell 5
          simp at HF0 HF1 HF2 HF3 HF4 HF5
          refine bodyPost_ret (v := .tuple #[zeroCfg, .int .i64 2]) (by simp [results, Tryz.results30, go_sem, zeroCfg, HF0, HF1, HF2, HF3, HF4, HF5]) rfl ?_
          rw [HDN.out]
          exact ⟨rfl, ((((((HBF.out.setCell (Nat.le_refl _) _).setCell (Nat.le_refl _) _).setCell (Nat.le_refl _) _).setCell (Nat.le_refl _) _).setCell (Nat.le_refl _) _).setCell (Nat.le_refl _) _)⟩
      · rw [Bool.not_eq_true] at hok
        refine (refEncode_no wr.heap.size _ ⟨x1, x2, x3, x4, x5, done⟩ wr HCF.out (Nat.le_refl _) hok).mono ?_
        rintro e w5 ⟨rfl, q5⟩
        have HA5 := HA.out.later q5 (by omega)
        have HBF := hide (HBE.out.trans (q5.mono hsz))
        have HDN : Hid (dec bs = none) := by rw [Hid, HD.out, HCFG.out, if_neg (by rw [hok]; simp)]
        have ac0 : w5.cell? ⟨w.heap.size, 0, none⟩ = some (.int .i64 0) := HA5.cell 0
        have ac1 : w5.cell? ⟨w.heap.size, 1, none⟩ = some (.int .i64 0) := HA5.cell 1
        have ac2 : w5.cell? ⟨w.heap.size, 2, none⟩ = some (.int .i64 0) := HA5.cell 2
        have ac3 : w5.cell? ⟨w.heap.size, 3, none⟩ = some (.int .i64 0) := HA5.cell 3
        have ac4 : w5.cell? ⟨w.heap.size, 4, none⟩ = some (.int .i64 0) := HA5.cell 4
        have ac5 : w5.cell? ⟨w.heap.size, 5, none⟩ = some (.slice none 0 0) := HA5.cell 5
        have af0 := HA5.free 0
        have af1 := HA5.free 1
        have af2 := HA5.free 2
        have af3 := HA5.free 3
        have af4 := HA5.free 4
        have af5 := HA5.free 5
        have HAZ := hide HA5
        clear HA5 b0 b1 b2 b3 b4 b5
        simp only []
        repeat (first | go_values | go_skip | go_guarded | go_step | go_upon)
        have HF := (((((HAZ.out.set 0 (.int .i64 0)).set 1 (.int .i64 0)).set 2 (.int .i64 0)).set 3 (.int .i64 0)).set 4 (.int .i64 0)).set 5 (.slice none 0 0)
        have HF0 := HF.cell 0
        have HF1 := HF.cell 1
        have HF2 := HF.cell 2
        have HF3 := HF.cell 3
        have HF4 := HF.cell 4
        have HF5 := HF.cell 5
        simp at HF0 HF1 HF2 HF3 HF4 HF5
        refine bodyPost_ret (v := .tuple #[zeroCfg, .int .i64 2]) (by simp [results, Tryz.results30, go_sem, zeroCfg, HF0, HF1, HF2, HF3, HF4, HF5]) rfl ?_
        rw [HDN.out]
        exact ⟨rfl, ((((((HBF.out.setCell (Nat.le_refl _) _).setCell (Nat.le_refl _) _).setCell (Nat.le_refl _) _).setCell (Nat.le_refl _) _).setCell (Nat.le_refl _) _).setCell (Nat.le_refl _) _)⟩
    | succ r =>
      have haN : a < N := by have := HAR.out; omega
      by_cases hpn : p < n
      · go_wp2_with fail
        refine (HAT.out 6 _ _ HBE.out rfl).mono ?_
        rintro e w' ⟨rfl, rfl⟩
        rw [HN6.out]
        go_wp2_with fail
        refine (HAT.out p _ _ HBE.out rfl).mono ?_
        rintro e w' ⟨rfl, rfl⟩
        go_wp2_with fail
        refine (HAT.out (p + 1) _ _ HBE.out (by simp)).mono ?_
        rintro e w' ⟨rfl, rfl⟩
        have hc0 := HAB.out p
        have hc1 := HAB.out (p + 1)
        have hc2 := HAB.out (p + 2)
        have hc3 := HAB.out (p + 3)
        generalize hC0 : atI bs p = c0 at *
        generalize hC1 : atI bs (p + 1) = c1 at *
        have HC0 := hide hC0; have HC1 := hide hC1
        obtain ⟨hc00, hc01⟩ := hc0
        obtain ⟨hc10, hc11⟩ := hc1
        obtain ⟨hc20, hc21⟩ := hc2
        obtain ⟨hc30, hc31⟩ := hc3
        clear hC0 hC1
        go_wp2_with fail
        refine (HAT.out (p + 2) _ _ HBE.out (by simp)).mono ?_
        rintro e w' ⟨rfl, rfl⟩
        generalize hC2 : atI bs (p + 2) = c2 at *
        have HC2 := hide hC2
        obtain ⟨M, hM⟩ : ∃ M : Nat, atI bs (p + 3) = M := ⟨(atI bs (p + 3)).toNat, by omega⟩
        have hM256 : M < 256 := by omega
        have HM := hide hM
        clear hC2 hM hc30 hc31
        go_wp2_with fail
        obtain ⟨W0, hW0⟩ : ∃ W, W = wr := ⟨_, rfl⟩
        subst hW0
        generalize hX : W0.heap.size = X at *
        have HXe := hide hX
        have HTB : Hid (Blk (W0.alloc (.cells #[.int .i64 c0, .int .i64 (256 * c1 + c2), .slice none 0 0] 55)) X #[.int .i64 c0, .int .i64 (256 * c1 + c2), .slice none 0 0] 55) := by rw [← hX]; exact Blk.new _ _ _
        have HB1 : Hid (Below X W0 (W0.alloc (.cells #[.int .i64 c0, .int .i64 (256 * c1 + c2), .slice none 0 0] 55))) := (Below.refl _ _).alloc (by omega) _
        clear hX
        go_loopw [8, 9] (fun kk mm wr => ∃ (a2 r2 q : Nat) (ls : List (Int × Int)) (lva : Option Addr) (lvc : Nat), kk = .int .i64 q ∧ mm = .int .i64 a2 ∧ a2 + r2 = M ∧ q ≤ n + 7 ∧ refLims bs M (p + 4) = (ls ++ (refLims bs r2 q).1, (refLims bs r2 q).2) ∧ ls.length = a2 ∧ OwnL wr X (.slice lva ls.length lvc) ls ∧ Blk wr X #[.int .i64 c0, .int .i64 (256 * c1 + c2), .slice lva ls.length lvc] 55 ∧ Below X W0 wr) (fun _ mm _ => M - (intOf mm).toNat)
        case atStart => exact ⟨0, M, p + 4, [], none, 0, by go_num, rfl, by omega, by omega, by simp, rfl, by simpa [OwnL, flat2] using World.ownsRow_nil _ _ _ _, HTB.out, HB1.out⟩
        case round =>
          obtain ⟨a2, r2, q, ls, lva, lvc, rfl, rfl, har2, hq7, hrl, hll, hov, hT2, hb2⟩ := hrel
          have HAR2 := hide har2; have HRL := hide hrl; have HLL := hide hll; have HOV := hide hov; have HT2 := hide hT2; have HB2 := hide hb2
          have hz2 := hb2.size
          have hzX := hT2.lt
          clear har2 hrl hll hov hT2 hb2
          have HATr := hide (fun i j hj => HAT.out i j wr (HBE.out.trans (HB2.out.mono (by omega))) hj)
          cases r2 with
          | zero =>
            have ha2 : ¬ a2 < M := by have := HAR2.out; omega
            have hfin : (refLims bs 0 q) = ([], q) := rfl
            go_wp2_with fail
            refine (HATr.out (p + 3) _ (by simp)).mono ?_
            rintro e w' ⟨rfl, rfl⟩
            rw [HM.out]
            have HFL : Hid (refTask bs p = (⟨c0, 256 * c1 + c2, ls⟩, q)) := by
              have h1 := HRL.out
              rw [hfin] at h1
              simp only [Hid, refTask]
              rw [HC0.out, HC1.out, HC2.out, HM.out, Int.toNat_natCast, h1]
              simp
            clear hfin
            have HOT2 := hide (HOT.out.below (by rw [HXe.out]; exact HB2.out))
            have C2 := HC.out.later HB2.out (by omega)
            have A2 := HA.out.later HB2.out (by omega)
            obtain ⟨es, o1, ol, orr⟩ := HOT2.out
            have c5 : wr.cell? ⟨w.heap.size + 1, 5, none⟩ = some (.slice tva done.length tvc) := C2.cell 5
            have hel : es.length ≤ 256 := by rw [ol, HDL.out]; omega
            have HO1 := hide o1; have HOL := hide ol; have HORR := hide orr; have HC2' := hide C2; have HA2' := hide A2
            have hz1 := C2.lt
            have y0 : wr.cell? ⟨X, 0, none⟩ = some (.int .i64 c0) := HT2.out.cell 0
            have y1 : wr.cell? ⟨X, 1, none⟩ = some (.int .i64 (256 * c1 + c2)) := HT2.out.cell 1
            have y2 : wr.cell? ⟨X, 2, none⟩ = some (.slice lva ls.length lvc) := HT2.out.cell 2
            clear o1 ol orr C2 A2
            go_wp2_with (at_builtin; go_must (refine wpList_append_own _ rfl _ _ 38 rfl w.heap.size 55 i1 (.agg #[.int .i64 0, .int .i64 0, .slice none 0 0]) 3 40 Tryz.underlying38 HI1.out.1 HI1.out.2.1 HI1.out.2.2.1 HI1.out.2.2.2 rfl (by decide) (.slice tva done.length tvc) es.length (flat3 es) rfl (HO1.out.alloc _) ⟨wr.heap.size, 0, none⟩ 1 1 [.int .i64 c0, .int .i64 (256 * c1 + c2), .slice lva ls.length lvc] rfl rfl ?_ ?_ ?_ ?_ ?_ ?_))
            · exact new_cells wr [.int .i64 c0, .int .i64 (256 * c1 + c2), .slice lva ls.length lvc] 55 wr.heap.size rfl
            · intro u hu; simp at hu; rcases hu with rfl | rfl | rfl <;> rfl
            · unfold maxLen; omega
            · omega
            · simp; omega
            intro v3 w3 ho3 hg3 _
            have hk3 := KeepBut.grown hg3 (HO1.out.alloc _) (Nat.le_refl _)
            have hbn : Below wr.heap.size wr (wr.alloc (.cells #[.int .i64 c0, .int .i64 (256 * c1 + c2), .slice lva ls.length lvc] 55)) := (Below.refl _ _).alloc (Nat.le_refl _) _
            have OT := OwnT.grown (e := (c0, 256 * c1 + c2, .slice lva ls.length lvc)) (t := ⟨c0, 256 * c1 + c2, ls⟩) (ts := done) (HO1.out.alloc _) HOL.out (fun i e t h1 h2 => (HORR.out i e t h1 h2).below hbn) ⟨rfl, rfl, owns_below (owns_lower HOV.out (by omega)) hbn⟩ ho3 hg3
            have C3 := (HC2'.out.alloc (.cells #[.int .i64 c0, .int .i64 (256 * c1 + c2), .slice lva ls.length lvc] 55)).kept hk3 (by decide)
            have A3 := (HA2'.out.alloc (.cells #[.int .i64 c0, .int .i64 (256 * c1 + c2), .slice lva ls.length lvc] 55)).kept hk3 (by decide)
            obtain ⟨va3, vcap3, rfl⟩ := owns_slice ho3
            have c5' : w3.cell? ⟨w.heap.size + 1, 5, none⟩ = some (.slice tva done.length tvc) := C3.cell 5
            have c5f := C3.free 5
            have HOT3 := hide OT
            have HC3 := hide C3
            have HA3 := hide A3
            have HW3 : Hid (Below w.heap.size w w3) := ((HBE.out.trans (HB2.out.mono (by omega))).trans (hbn.mono (by omega))).trans (hk3.below (by simp; omega))
            clear ho3 hg3 hk3 hbn OT C3 A3 c5 y0 y1 y2
            go_wp2
            go_roundw
            case rel =>
              have e1 : done.length + 1 = (done ++ [Tk.mk c0 (256 * c1 + c2) ls]).length := by simp
              refine ⟨a + 1, r, q, done ++ [⟨c0, 256 * c1 + c2, ls⟩], va3, vcap3, rfl, by go_num, by have := HAR.out; omega, hq7, ?_, by simp [HDL.out], ?_, HW3.out.setCell (by simp) _, HA3.out.other (by simp) _, ?_⟩
              · have h1 := HRT.out
                rw [refTasks, if_pos (by rw [HN.out]; exact hpn), HFL.out] at h1
                rw [h1]
                simp
              · have := HOT3.out.other HC3.out (o := 5) (x := .slice va3 (es.length + 1) vcap3) (by decide) (by decide)
                rw [HOL.out] at this
                rw [HOL.out, ← e1]
                exact this
              · have := HC3.out.set 5 (.slice va3 (es.length + 1) vcap3)
                rw [HOL.out] at this
                rw [HOL.out, ← e1]
                exact this
            case measure => simp [intOf]; have := HAR.out; omega
          | succ r2 =>
            have ha2 : a2 < M := by have := HAR2.out; omega
            by_cases hqn : q < n
            · go_wp2_with fail
              refine (HATr.out (p + 3) _ (by simp)).mono ?_
              rintro e w' ⟨rfl, rfl⟩
              rw [HM.out]
              have y2 : wr.cell? ⟨X, 2, none⟩ = some (.slice lva ls.length lvc) := HT2.out.cell 2
              have y2f := HT2.out.free 2
              have HATd := hide (fun i j hj => HAT.out i j wr.drew ((HBE.out.trans (HB2.out.mono (by omega))).drew) hj)
              obtain ⟨hb00, hb01⟩ := HAB.out q
              obtain ⟨hb10, hb11⟩ := HAB.out (q + 1)
              obtain ⟨hb20, hb21⟩ := HAB.out (q + 2)
              have HA0 : Hid (Calls Tryz.prog 58 #[.slice va n vcap, .int .i64 (q : Int)] wr.drew fun e w'' => e = .returned (.int .i64 (atI bs q)) ∧ wr.drew = w'') := HATd.out q _ rfl
              have HA1 : Hid (Calls Tryz.prog 58 #[.slice va n vcap, .int .i64 ((q : Int) + 1)] wr.drew fun e w'' => e = .returned (.int .i64 (atI bs (q + 1))) ∧ wr.drew = w'') := HATd.out (q + 1) _ (by simp)
              have HA2 : Hid (Calls Tryz.prog 58 #[.slice va n vcap, .int .i64 ((q : Int) + 2)] wr.drew fun e w'' => e = .returned (.int .i64 (atI bs (q + 2))) ∧ wr.drew = w'') := HATd.out (q + 2) _ (by simp)
              generalize hB0 : atI bs q = b0 at *
              generalize hB1 : atI bs (q + 1) = b1 at *
              generalize hB2 : atI bs (q + 2) = b2 at *
              have HBB0 := hide hB0; have HBB1 := hide hB1; have HBB2 := hide hB2
              clear hB0 hB1 hB2
              have we1 : IntKind.i64.wrap (256 * b0) = 256 * b0 := IntWalk.i64_in _ ⟨by omega, by omega⟩
              have we2 : IntKind.i64.wrap (256 * b0 + b1) = 256 * b0 + b1 := IntWalk.i64_in _ ⟨by omega, by omega⟩
              have we3 : IntKind.i64.wrap ((q : Int) + 1) = (q : Int) + 1 := IntWalk.i64_in _ ⟨by omega, by omega⟩
              have we4 : IntKind.i64.wrap ((q : Int) + 2) = (q : Int) + 2 := IntWalk.i64_in _ ⟨by omega, by omega⟩
              have hlsn : ls.length ≤ 256 := by rw [HLL.out]; omega
              have HOA : Hid ((wr.alloc (.cells #[.int .i64 (256 * b0 + b1), .int .i64 b2] 52)).drew.ownsRow X 52 2 (.slice lva ls.length lvc) ls.length (flat2 ls)) := World.ownsRow.alloc HOV.out _
              have HNEW : Hid (∀ (j : Nat) (u : Value), [Value.int .i64 (256 * b0 + b1), .int .i64 b2][j]? = some u → (wr.alloc (.cells #[.int .i64 (256 * b0 + b1), .int .i64 b2] 52)).drew.cell? ((⟨wr.heap.size, 0, none⟩ : Addr).add j) = some u) := new_cells wr [Value.int .i64 (256 * b0 + b1), .int .i64 b2] 52 wr.heap.size rfl
              have HONE : Hid (∀ u ∈ [Value.int .i64 (256 * b0 + b1), .int .i64 b2], u.oneCell' = true) := by
                intro u hu; simp at hu; rcases hu with rfl | rfl <;> rfl
              have HTA : Hid (Blk (wr.alloc (.cells #[.int .i64 (256 * b0 + b1), .int .i64 b2] 52)).drew X #[.int .i64 c0, .int .i64 (256 * c1 + c2), .slice lva ls.length lvc] 55) := (HT2.out.alloc _).drew
              go_wp2_with fail
              apply wp_some3 (fun (ya : Option Addr) (yc : Nat) (w4 : World) => w4.ownsRow X 52 2 (.slice ya (ls.length + 1) yc) (ls.length + 1) (flat2 ls ++ [Value.int .i64 (256 * b0 + b1), .int .i64 b2]) ∧ (wr.alloc (.cells #[.int .i64 (256 * b0 + b1), .int .i64 b2] 52)).drew.grownBy w4 (Value.slice lva ls.length lvc).ownBlock)
              case h =>
                go_region_law (first
                  | (refine step_append_own rfl (.tmp 66) (.tmp 81) 53 rfl X 52 i0 (.agg #[.int .i64 0, .int .i64 0]) 2 16 Tryz.underlying53 HI.out.1 HI.out.2.1 HI.out.2.2.1 HI.out.2.2.2 rfl (by decide) (.slice lva ls.length lvc) ls.length (flat2 ls) (by simp [Act.eval]) HOA.out ⟨wr.heap.size, 0, none⟩ 1 1 [.int .i64 (256 * b0 + b1), .int .i64 b2] (by simp [Act.eval]) rfl HNEW.out HONE.out (by decide) (by unfold maxLen; omega) (by omega) (by simp; omega) ?_; intro v1 w4 hown hgrow hat; obtain ⟨ya, yc, rfl⟩ := owns_slice hown; have hbw4 := HTA.out.kept (KeepBut.grown hgrow HOA.out (Nat.le_refl _)) (by decide); have d1 : w4.cell? ⟨X, 2, none⟩ = some (.slice lva ls.length lvc) := hbw4.cell 2; have d1f := hbw4.free 2; have HOW := hide hown; have HGR := hide hgrow; clear hown hgrow hat hbw4)
                  | (go_simp; go_at_call 58; first | (with_reducible refine HA0.out.mono ?_) | (with_reducible refine HA1.out.mono ?_) | (with_reducible refine HA2.out.mono ?_); rintro e w' ⟨rfl, rfl⟩; simp only []))
                all_goals exact ⟨ya, yc, w4, ⟨HOW.out, HGR.out⟩, rfl, rfl⟩
              rintro ya yc w4 ⟨how, hgr⟩
              have hk4 := KeepBut.grown hgr HOA.out (Nat.le_refl _)
              have hT4 := HTA.out.kept hk4 (by decide)
              have HB4 : Hid (Below X W0 w4) := (HB2.out.alloc (by omega) _).drew.trans (hk4.below (by simp; omega))
              have HOW := hide how; have HT4 := hide hT4
              clear how hgr hk4 hT4 y2 y2f we1 we2 we3 we4
              go_wp2
              go_roundw
              case rel =>
                have e1 : ls.length + 1 = (ls ++ [(256 * b0 + b1, b2)]).length := by simp
                refine ⟨a2 + 1, r2, q + 3, ls ++ [(256 * b0 + b1, b2)], ya, yc, by go_num, by go_num, by have := HAR2.out; omega, by omega, ?_, by simp [HLL.out], ?_, ?_, HB4.out.setCell (by simp) _⟩
                · have h1 := HRL.out
                  rw [refLims, if_pos (by rw [HN.out]; exact hqn), HBB0.out, HBB1.out, HBB2.out] at h1
                  rw [h1]
                  simp
                · have h1 := owns_other (o := 2) (x := .slice ya (ls.length + 1) yc) HOW.out HT4.out (by decide)
                  unfold OwnL
                  rw [flat2_app, ← e1]
                  exact h1
                · have h1 := HT4.out.set 2 (.slice ya (ls.length + 1) yc)
                  rw [← e1]
                  exact h1
              case measure => simp [intOf]; have := HAR2.out; omega
            · have hfin : (refLims bs (r2 + 1) q) = ([], q) := by rw [refLims, if_neg (by rw [HN.out]; exact hqn)]
              go_wp2_with fail
              refine (HATr.out (p + 3) _ (by simp)).mono ?_
              rintro e w' ⟨rfl, rfl⟩
              rw [HM.out]
              have HFL : Hid (refTask bs p = (⟨c0, 256 * c1 + c2, ls⟩, q)) := by
                have h1 := HRL.out
                rw [hfin] at h1
                simp only [Hid, refTask]
                rw [HC0.out, HC1.out, HC2.out, HM.out, Int.toNat_natCast, h1]
                simp
              clear hfin
              have HOT2 := hide (HOT.out.below (by rw [HXe.out]; exact HB2.out))
              have C2 := HC.out.later HB2.out (by omega)
              have A2 := HA.out.later HB2.out (by omega)
              obtain ⟨es, o1, ol, orr⟩ := HOT2.out
              have c5 : wr.cell? ⟨w.heap.size + 1, 5, none⟩ = some (.slice tva done.length tvc) := C2.cell 5
              have hel : es.length ≤ 256 := by rw [ol, HDL.out]; omega
              have HO1 := hide o1; have HOL := hide ol; have HORR := hide orr; have HC2' := hide C2; have HA2' := hide A2
              have hz1 := C2.lt
              have y0 : wr.cell? ⟨X, 0, none⟩ = some (.int .i64 c0) := HT2.out.cell 0
              have y1 : wr.cell? ⟨X, 1, none⟩ = some (.int .i64 (256 * c1 + c2)) := HT2.out.cell 1
              have y2 : wr.cell? ⟨X, 2, none⟩ = some (.slice lva ls.length lvc) := HT2.out.cell 2
              clear o1 ol orr C2 A2
              go_wp2_with (at_builtin; go_must (refine wpList_append_own _ rfl _ _ 38 rfl w.heap.size 55 i1 (.agg #[.int .i64 0, .int .i64 0, .slice none 0 0]) 3 40 Tryz.underlying38 HI1.out.1 HI1.out.2.1 HI1.out.2.2.1 HI1.out.2.2.2 rfl (by decide) (.slice tva done.length tvc) es.length (flat3 es) rfl (HO1.out.alloc _) ⟨wr.heap.size, 0, none⟩ 1 1 [.int .i64 c0, .int .i64 (256 * c1 + c2), .slice lva ls.length lvc] rfl rfl ?_ ?_ ?_ ?_ ?_ ?_))
              · exact new_cells wr [.int .i64 c0, .int .i64 (256 * c1 + c2), .slice lva ls.length lvc] 55 wr.heap.size rfl
              · intro u hu; simp at hu; rcases hu with rfl | rfl | rfl <;> rfl
              · unfold maxLen; omega
              · omega
              · simp; omega
              intro v3 w3 ho3 hg3 _
              have hk3 := KeepBut.grown hg3 (HO1.out.alloc _) (Nat.le_refl _)
              have hbn : Below wr.heap.size wr (wr.alloc (.cells #[.int .i64 c0, .int .i64 (256 * c1 + c2), .slice lva ls.length lvc] 55)) := (Below.refl _ _).alloc (Nat.le_refl _) _
              have OT := OwnT.grown (e := (c0, 256 * c1 + c2, .slice lva ls.length lvc)) (t := ⟨c0, 256 * c1 + c2, ls⟩) (ts := done) (HO1.out.alloc _) HOL.out (fun i e t h1 h2 => (HORR.out i e t h1 h2).below hbn) ⟨rfl, rfl, owns_below (owns_lower HOV.out (by omega)) hbn⟩ ho3 hg3
              have C3 := (HC2'.out.alloc (.cells #[.int .i64 c0, .int .i64 (256 * c1 + c2), .slice lva ls.length lvc] 55)).kept hk3 (by decide)
              have A3 := (HA2'.out.alloc (.cells #[.int .i64 c0, .int .i64 (256 * c1 + c2), .slice lva ls.length lvc] 55)).kept hk3 (by decide)
              obtain ⟨va3, vcap3, rfl⟩ := owns_slice ho3
              have c5' : w3.cell? ⟨w.heap.size + 1, 5, none⟩ = some (.slice tva done.length tvc) := C3.cell 5
              have c5f := C3.free 5
              have HOT3 := hide OT
              have HC3 := hide C3
              have HA3 := hide A3
              have HW3 : Hid (Below w.heap.size w w3) := ((HBE.out.trans (HB2.out.mono (by omega))).trans (hbn.mono (by omega))).trans (hk3.below (by simp; omega))
              clear ho3 hg3 hk3 hbn OT C3 A3 c5 y0 y1 y2
              go_wp2
              go_roundw
              case rel =>
                have e1 : done.length + 1 = (done ++ [Tk.mk c0 (256 * c1 + c2) ls]).length := by simp
                refine ⟨a + 1, r, q, done ++ [⟨c0, 256 * c1 + c2, ls⟩], va3, vcap3, rfl, by go_num, by have := HAR.out; omega, hq7, ?_, by simp [HDL.out], ?_, HW3.out.setCell (by simp) _, HA3.out.other (by simp) _, ?_⟩
                · have h1 := HRT.out
                  rw [refTasks, if_pos (by rw [HN.out]; exact hpn), HFL.out] at h1
                  rw [h1]
                  simp
                · have := HOT3.out.other HC3.out (o := 5) (x := .slice va3 (es.length + 1) vcap3) (by decide) (by decide)
                  rw [HOL.out] at this
                  rw [HOL.out, ← e1]
                  exact this
                · have := HC3.out.set 5 (.slice va3 (es.length + 1) vcap3)
                  rw [HOL.out] at this
                  rw [HOL.out, ← e1]
                  exact this
              case measure => simp [intOf]; have := HAR.out; omega
      · have hfin : refTasks bs N 7 = (done, p) := by rw [HRT.out, refTasks, if_neg (by rw [HN.out]; exact hpn)]; simp
        go_wp2_with fail
        refine (HAT.out 6 _ _ HBE.out rfl).mono ?_
        rintro e w' ⟨rfl, rfl⟩
        rw [HN6.out]
        have HCFG : Hid (refCfg bs = ⟨x1, x2, x3, x4, x5, done⟩) := by rw [Hid, HX.out, hfin]
        clear hfin
        have b0 : wr.cell? ⟨w.heap.size + 1, 0, none⟩ = some (.int .i64 x1) := HC.out.cell 0
        have b1 : wr.cell? ⟨w.heap.size + 1, 1, none⟩ = some (.int .i64 x2) := HC.out.cell 1
        have b2 : wr.cell? ⟨w.heap.size + 1, 2, none⟩ = some (.int .i64 x3) := HC.out.cell 2
        have b3 : wr.cell? ⟨w.heap.size + 1, 3, none⟩ = some (.int .i64 x4) := HC.out.cell 3
        have b4 : wr.cell? ⟨w.heap.size + 1, 4, none⟩ = some (.int .i64 x5) := HC.out.cell 4
        have b5 : wr.cell? ⟨w.heap.size + 1, 5, none⟩ = some (.slice tva done.length tvc) := HC.out.cell 5
        have HCF : Hid (Cf wr wr.heap.size (.agg #[.int .i64 x1, .int .i64 x2, .int .i64 x3, .int .i64 x4, .int .i64 x5, .slice tva done.length tvc]) ⟨x1, x2, x3, x4, x5, done⟩) := ⟨_, rfl, HOT.out.tasks⟩
        go_wp2_with fail
        by_cases hok : cfgOk ⟨x1, x2, x3, x4, x5, done⟩ = true
        · refine (refEncode_yes wr.heap.size _ ⟨x1, x2, x3, x4, x5, done⟩ wr HCF.out (Nat.le_refl _) hok).mono ?_
          rintro e w5 ⟨v5, rfl, o5, q5⟩
          have HA5 := HA.out.later q5 (by omega)
          have HC5 := HC.out.later q5 hzc
          have hcv1 := conv_rd8 o5.rd
          have hcv2 := conv_rd8 (HH.out.later (HBE.out.trans (q5.mono hsz)) hB)
          have hz5 := q5.size
          have HBF := hide (HBE.out.trans (q5.mono hsz))
          have HOT5 := hide (HOT.out.below q5)
          have HCF5 := hide (HCF.out.later q5 (Nat.le_refl _))
          have HA5' := hide HA5
          have HC5' := hide HC5
          have HBY := hide (cfgBytes_allB hok)
          obtain ⟨xa, xc, hx5⟩ := o5.slice
          subst hx5
          generalize hL5 : (cfgBytes ⟨x1, x2, x3, x4, x5, done⟩).length = L5 at *
          clear hL5
          by_cases heq : cfgBytes ⟨x1, x2, x3, x4, x5, done⟩ = bs
          · have HDS : Hid (dec bs = some ⟨x1, x2, x3, x4, x5, done⟩) := by rw [Hid, HD.out, HCFG.out, if_pos ⟨hok, heq⟩]
            rw [heq] at hcv1
            generalize hst : strOfNums bs = st at *
            clear hst heq o5 q5
            have d0 : w5.cell? ⟨w.heap.size + 1, 0, none⟩ = some (.int .i64 x1) := HC5.cell 0
            have d1 : w5.cell? ⟨w.heap.size + 1, 1, none⟩ = some (.int .i64 x2) := HC5.cell 1
            have d2 : w5.cell? ⟨w.heap.size + 1, 2, none⟩ = some (.int .i64 x3) := HC5.cell 2
            have d3 : w5.cell? ⟨w.heap.size + 1, 3, none⟩ = some (.int .i64 x4) := HC5.cell 3
            have d4 : w5.cell? ⟨w.heap.size + 1, 4, none⟩ = some (.int .i64 x5) := HC5.cell 4
            have d5 : w5.cell? ⟨w.heap.size + 1, 5, none⟩ = some (.slice tva done.length tvc) := HC5.cell 5
            have ac0 : w5.cell? ⟨w.heap.size, 0, none⟩ = some (.int .i64 0) := HA5.cell 0
            have ac1 : w5.cell? ⟨w.heap.size, 1, none⟩ = some (.int .i64 0) := HA5.cell 1
            have ac2 : w5.cell? ⟨w.heap.size, 2, none⟩ = some (.int .i64 0) := HA5.cell 2
            have ac3 : w5.cell? ⟨w.heap.size, 3, none⟩ = some (.int .i64 0) := HA5.cell 3
            have ac4 : w5.cell? ⟨w.heap.size, 4, none⟩ = some (.int .i64 0) := HA5.cell 4
            have ac5 : w5.cell? ⟨w.heap.size, 5, none⟩ = some (.slice none 0 0) := HA5.cell 5
            have af0 := HA5.free 0
            have af1 := HA5.free 1
            have af2 := HA5.free 2
            have af3 := HA5.free 3
            have af4 := HA5.free 4
            have af5 := HA5.free 5
            have hsz5 : w.heap.size + 1 < w5.heap.size := HC5.lt
            clear HA5 HC5 b0 b1 b2 b3 b4 b5
            simp only []
            repeat (first | go_values | go_skip | go_guarded | go_step | go_upon)
            have HF := (((((HA5'.out.set 0 (.int .i64 x1)).set 1 (.int .i64 x2)).set 2 (.int .i64 x3)).set 3 (.int .i64 x4)).set 4 (.int .i64 x5)).set 5 (.slice tva done.length tvc)
            have HF0 := HF.cell 0
            have HF1 := HF.cell 1
            have HF2 := HF.cell 2
            have HF3 := HF.cell 3
            have HF4 := HF.cell 4
            have HF5 := HF.cell 5
            simp at HF0 HF1 HF2 HF3 HF4 HF5
            refine bodyPost_ret (v := .tuple #[.agg #[.int .i64 x1, .int .i64 x2, .int .i64 x3, .int .i64 x4, .int .i64 x5, .slice tva done.length tvc], .int .i64 0]) (by simp [results, Tryz.results30, go_sem, HF0, HF1, HF2, HF3, HF4, HF5]) rfl ?_
            rw [HDS.out]
            refine ⟨_, rfl, ⟨_, rfl, ?_⟩, ((((((HBF.out.setCell (Nat.le_refl _) _).setCell (Nat.le_refl _) _).setCell (Nat.le_refl _) _).setCell (Nat.le_refl _) _).setCell (Nat.le_refl _) _).setCell (Nat.le_refl _) _)⟩
            have A0 := HA5'.out
            have A1 := A0.set 0 (.int .i64 x1)
            have A2 := A1.set 1 (.int .i64 x2)
            have A3 := A2.set 2 (.int .i64 x3)
            have A4 := A3.set 3 (.int .i64 x4)
            have A5 := A4.set 4 (.int .i64 x5)
            exact ((((((HOT5.out.other A0 (by decide) (by decide)).other A1 (by decide) (by decide)).other A2 (by decide) (by decide)).other A3 (by decide) (by decide)).other A4 (by decide) (by decide)).other A5 (by decide) (by decide)).tasks
          · have HDN : Hid (dec bs = none) := by rw [Hid, HD.out, HCFG.out, if_neg (by intro h; exact heq h.2)]
            have hne : strOfNums (cfgBytes ⟨x1, x2, x3, x4, x5, done⟩) ≠ strOfNums bs := fun h => heq (strOfNums_inj HBY.out HB.out h)
            generalize hst : strOfNums bs = st at *
            generalize hst2 : strOfNums (cfgBytes ⟨x1, x2, x3, x4, x5, done⟩) = st2 at *
            have hnl : ¬ st2.toList = st.toList := fun h => hne (by rw [ByteArray.toList_eq, ByteArray.toList_eq] at h; cases st; cases st2; simp_all)
            have hnl2 : (st2.toList == st.toList) = false := by simpa using hnl
            clear hnl
            clear hst hst2 heq o5 q5 hne HC5
            have ac0 : w5.cell? ⟨w.heap.size, 0, none⟩ = some (.int .i64 0) := HA5.cell 0
            have ac1 : w5.cell? ⟨w.heap.size, 1, none⟩ = some (.int .i64 0) := HA5.cell 1
            have ac2 : w5.cell? ⟨w.heap.size, 2, none⟩ = some (.int .i64 0) := HA5.cell 2
            have ac3 : w5.cell? ⟨w.heap.size, 3, none⟩ = some (.int .i64 0) := HA5.cell 3
            have ac4 : w5.cell? ⟨w.heap.size, 4, none⟩ = some (.int .i64 0) := HA5.cell 4
            have ac5 : w5.cell? ⟨w.heap.size, 5, none⟩ = some (.slice none 0 0) := HA5.cell 5
            have af0 := HA5.free 0
            have af1 := HA5.free 1
            have af2 := HA5.free 2
            have af3 := HA5.free 3
            have af4 := HA5.free 4
            have af5 := HA5.free 5
            have HAZ := hide HA5
            clear HA5 b0 b1 b2 b3 b4 b5
            simp only []
            repeat (first | go_values | go_skip | go_guarded | go_step | go_upon)
            have HF := (((((HAZ.out.set 0 (.int .i64 0)).set 1 (.int .i64 0)).set 2 (.int .i64 0)).set 3 (.int .i64 0)).set 4 (.int .i64 0)).set 5 (.slice none 0 0)
            have HF0 := HF.cell 0
            have HF1 := HF.cell 1
            have HF2 := HF.cell 2
            have HF3 := HF.cell 3
            have HF4 := HF.cell 4
            have HF5 := HF.cell 5
            simp at HF0 HF1 HF2 HF3 HF4 HF5
            refine bodyPost_ret (v := .tuple #[zeroCfg, .int .i64 2]) (by simp [results, Tryz.results30, go_sem, zeroCfg, HF0, HF1, HF2, HF3, HF4, HF5]) rfl ?_
            rw [HDN.out]
            exact ⟨rfl, ((((((HBF.out.setCell (Nat.le_refl _) _).setCell (Nat.le_refl _) _).setCell (Nat.le_refl _) _).setCell (Nat.le_refl _) _).setCell (Nat.le_refl _) _).setCell (Nat.le_refl _) _)⟩
        · rw [Bool.not_eq_true] at hok
          refine (refEncode_no wr.heap.size _ ⟨x1, x2, x3, x4, x5, done⟩ wr HCF.out (Nat.le_refl _) hok).mono ?_
          rintro e w5 ⟨rfl, q5⟩
          have HA5 := HA.out.later q5 (by omega)
          have HBF := hide (HBE.out.trans (q5.mono hsz))
          have HDN : Hid (dec bs = none) := by rw [Hid, HD.out, HCFG.out, if_neg (by rw [hok]; simp)]
          have ac0 : w5.cell? ⟨w.heap.size, 0, none⟩ = some (.int .i64 0) := HA5.cell 0
          have ac1 : w5.cell? ⟨w.heap.size, 1, none⟩ = some (.int .i64 0) := HA5.cell 1
          have ac2 : w5.cell? ⟨w.heap.size, 2, none⟩ = some (.int .i64 0) := HA5.cell 2
          have ac3 : w5.cell? ⟨w.heap.size, 3, none⟩ = some (.int .i64 0) := HA5.cell 3
          have ac4 : w5.cell? ⟨w.heap.size, 4, none⟩ = some (.int .i64 0) := HA5.cell 4
          have ac5 : w5.cell? ⟨w.heap.size, 5, none⟩ = some (.slice none 0 0) := HA5.cell 5
          have af0 := HA5.free 0
          have af1 := HA5.free 1
          have af2 := HA5.free 2
          have af3 := HA5.free 3
          have af4 := HA5.free 4
          have af5 := HA5.free 5
          have HAZ := hide HA5
          clear HA5 b0 b1 b2 b3 b4 b5
          simp only []
          repeat (first | go_values | go_skip | go_guarded | go_step | go_upon)
          have HF := (((((HAZ.out.set 0 (.int .i64 0)).set 1 (.int .i64 0)).set 2 (.int .i64 0)).set 3 (.int .i64 0)).set 4 (.int .i64 0)).set 5 (.slice none 0 0)
          have HF0 := HF.cell 0
          have HF1 := HF.cell 1
          have HF2 := HF.cell 2
          have HF3 := HF.cell 3
          have HF4 := HF.cell 4
          have HF5 := HF.cell 5
          simp at HF0 HF1 HF2 HF3 HF4 HF5
          refine bodyPost_ret (v := .tuple #[zeroCfg, .int .i64 2]) (by simp [results, Tryz.results30, go_sem, zeroCfg, HF0, HF1, HF2, HF3, HF4, HF5]) rfl ?_
          rw [HDN.out]
          exact ⟨rfl, ((((((HBF.out.setCell (Nat.le_refl _) _).setCell (Nat.le_refl _) _).setCell (Nat.le_refl _) _).setCell (Nat.le_refl _) _).setCell (Nat.le_refl _) _).setCell (Nat.le_refl _) _)⟩

end Go.Proofs.YthloffgebebijaaGreat

/- RefE: the walks of the reference's price, Most, longest, demand: they answer the plain numbers. -/
namespace Go.Proofs.YthloffgebebijaaGreat
open Go.RowKit

set_option maxRecDepth 100000 in
set_option maxHeartbeats 400000 in
theorem rPrice_any (x1 x2 x3 x4 x5 : Int) (s s2 : Value) (cost due : Int) (w : World) (h3 : 1 ≤ x3 ∧ x3 ≤ 20) (h5 : 0 ≤ x5 ∧ x5 ≤ 20) (hc : 1 ≤ cost ∧ cost ≤ 50) (sa sb : Option Addr) (n m ca cb : Nat) (hs : s = .slice sa n ca) (hs2 : s2 = .slice sb m cb) :
    Calls Tryz.prog 85 #[.agg #[.int .i64 x1, .int .i64 x2, .int .i64 x3, .int .i64 x4, .int .i64 x5, s], .agg #[.int .i64 cost, .int .i64 due, s2]] w fun e w' => e = .returned (.int .i64 (x3 + x5 + cost)) ∧ Below w.heap.size w w' := by
  subst hs
  subst hs2
  obtain ⟨h3, h3'⟩ := h3; obtain ⟨h5, h5'⟩ := h5; obtain ⟨hc, hc'⟩ := hc
  go_enter Tryz.func85, Tryz.ntmps85
  go_wp2
  go_ret
  exact ⟨rfl, ((Below.refl _ _).alloc (Nat.le_refl _) _).alloc (by simp) _⟩

/-- One step of the reference's Most. -/
def bestS (k m : Int) (l : Int × Int) : Int := if m < 0 ∨ atMostI l k < m then atMostI l k else m
theorem best_most {k : Int} (hk : 1 ≤ k) : ∀ (r : List (Int × Int)) (m : Int), 0 ≤ m → LimsIn r → r.foldl (bestS k) m = r.foldl (fun m l => min m (atMostI l k)) m
  | [], _, _, _ => rfl
  | l :: r, m, h0, hl => by
    have := hl l (by simp)
    have hb := atMost_bounds hk this.1 this.2.2.1 this.2.2.2
    have e : bestS k m l = min m (atMostI l k) := by unfold bestS; split <;> omega
    rw [List.foldl_cons, List.foldl_cons, e]
    exact best_most hk r _ (by omega) (fun x hx => hl x (by simp [hx]))
theorem best_eq {t : Tk} (h : LimsIn t.lims) (h1 : 1 ≤ t.lims.length) {k : Int} (hk : 1 ≤ k) : t.lims.foldl (bestS k) (-1) = mostI t k := by
  unfold mostI
  rw [if_neg (by omega)]
  cases hl : t.lims with
  | nil => rw [hl] at h1; simp at h1
  | cons l r =>
    rw [hl] at h
    have := h l (by simp)
    have hb := atMost_bounds hk this.1 this.2.2.1 this.2.2.2
    rw [List.foldl_cons, show bestS k (-1) l = atMostI l k from if_pos (Or.inl (by decide)), best_most hk r _ hb.1 (fun x hx => h x (by simp [hx]))]
    rfl
theorem best_bounds {k B : Int} (hk : 1 ≤ k) (hB : 20 * k ≤ B) : ∀ (r : List (Int × Int)) (m : Int), -1 ≤ m → m ≤ B → LimsIn r → -1 ≤ r.foldl (bestS k) m ∧ r.foldl (bestS k) m ≤ B
  | [], m, h0, h1, _ => ⟨h0, h1⟩
  | l :: r, m, h0, h1, hl => by
    have := hl l (by simp)
    have hb := atMost_bounds hk this.1 this.2.2.1 this.2.2.2
    have e : -1 ≤ bestS k m l ∧ bestS k m l ≤ B := by unfold bestS; split <;> omega
    exact best_bounds hk hB r _ e.1 e.2 (fun x hx => hl x (by simp [hx]))

set_option maxRecDepth 100000 in
set_option maxHeartbeats 1600000 in
theorem rMost_any (B : Nat) (v : Value) (t : Tk) (k : Int) (w : World) (hv : Task1 w B v t) (hB : B ≤ w.heap.size) (ht : TkIn t) (hk : k ≤ 30000000) (hk0 : -2000 ≤ k) :
    Calls Tryz.prog 65 #[v, .int .i64 k] w fun e w' => e = .returned (.int .i64 (mostI t k)) ∧ Below w.heap.size w w' := by
  have HBE0 := hide (fun hk : 1 ≤ k => best_eq ht.ls ht.l1 hk)
  obtain ⟨s, rfl, a, cap, rfl, hls⟩ := hv
  obtain ⟨cost, due, lims⟩ := t
  simp only at hls ⊢
  by_cases hk1 : k ≤ 0
  · have HE : Hid (mostI ⟨cost, due, lims⟩ k = 0) := by simp [Hid, mostI, hk1]
    go_enter Tryz.func65, Tryz.ntmps65
    go_wp2
    go_ret
    exact ⟨ret_int HE.out.symm, (Below.refl _ _).alloc (Nat.le_refl _) _⟩
  · have hin := ht.ls
    have hl3 := ht.l2
    simp only at hin hl3
    have HE : Hid (lims.foldl (bestS k) (-1) = mostI ⟨cost, due, lims⟩ k) := HBE0.out (by omega)
    have HC := hide hls
    have HIN := hide hin
    have HB1 : Hid (Below w.heap.size w (w.alloc (.cells #[.int .i64 cost, .int .i64 due, .slice a lims.length cap] 55))) := (Below.refl _ _).alloc (Nat.le_refl _) _
    have HK1 := hide (Blk.new w #[.int .i64 cost, .int .i64 due, .slice a lims.length cap] 55)
    generalize hN : lims.length = n at *
    have HN := hide hN
    clear hls hin ht HBE0 hN
    go_enter Tryz.func65, Tryz.ntmps65
    go_wp2_with fail
    go_loopw [5, 6] (fun m i wr => ∃ q : Nat, i = .int .i64 q ∧ q ≤ n ∧ m = .int .i64 ((lims.take q).foldl (bestS k) (-1)) ∧ Below w.heap.size w wr ∧ Blk wr w.heap.size #[.int .i64 cost, .int .i64 due, .slice a n cap] 55) (fun _ i _ => n - (intOf i).toNat)
    case atStart => exact ⟨0, rfl, Nat.zero_le _, by simp, HB1.out, HK1.out⟩
    case round =>
      obtain ⟨q, rfl, hq, rfl, hbe, hkb⟩ := hrel
      have HBE := hide hbe
      have HK := hide hkb
      have hsz := hbe.size
      have hzk := hkb.lt
      have k2 : wr.cell? ⟨w.heap.size, 2, none⟩ = some (.slice a n cap) := hkb.cell 2
      clear hbe hkb
      have hbd := best_bounds (k := k) (B := 20 * k) (by omega) (Int.le_refl _) (lims.take q) (-1) (by omega) (by omega) (fun x hx => HIN.out x (List.mem_of_mem_take hx))
      obtain ⟨hbd0, hbd1⟩ := hbd
      by_cases hlt : q < n
      · obtain ⟨⟨m1, m2⟩, hg⟩ := get_of_lt (l := lims) (k := q) (by rw [HN.out]; exact hlt)
        rcases HC.out with he | ⟨b, o, rfl, hb, hcc⟩
        · rw [he] at hg; simp at hg
        obtain ⟨d0, d1⟩ := (hcc q _ hg).later HBE.out (by omega)
        simp only at d0 d1
        obtain ⟨j1, j2, j3, j4⟩ := HIN.out (m1, m2) (List.mem_of_getElem? hg)
        simp only at j1 j2 j3 j4
        have HTK := hide (take_snoc hg)
        have hqi : (q : Int) < (n : Int) := by omega
        have hbr : b < wr.heap.size := by omega
        generalize hM : (lims.take q).foldl (bestS k) (-1) = M at *
        have HMM := hide hM
        have hb2 := atMost_bounds (l := (m1, m2)) (k := k) (by omega) j1 j3 j4
        have hup := tdiv_up (k := k) (w := m1) (by omega) j1
        have hq0 : 0 ≤ k.tdiv m1 := Int.tdiv_nonneg (by omega) (by omega)
        have hq1 : k.tdiv m1 ≤ k := by rw [Int.tdiv_eq_ediv_of_nonneg (by omega)]; exact Int.ediv_le_self _ (by omega)
        have hm0 : 0 ≤ k.tmod m1 := Int.tmod_nonneg _ (by omega)
        have hm1 : k.tmod m1 < m1 := Int.tmod_lt_of_pos _ (by omega)
        have hat : atMostI (m1, m2) k = m2 * (k.tdiv m1 + (if k.tmod m1 = 0 then 0 else 1)) := by unfold atMostI; rw [← hup]
        generalize hQ : k.tdiv m1 = Q at *
        generalize hR : k.tmod m1 = R at *
        have HQ := hide hQ
        have HR := hide hR
        have hne : ¬ m1 = 0 := by omega
        obtain ⟨hb20, hb21⟩ := hb2
        have HB3 : Hid (Below w.heap.size w (wr.alloc (.cells #[.int .i64 m1, .int .i64 m2] 52))) := HBE.out.alloc hsz _
        have HK3 := hide (HK.out.alloc (.cells #[.int .i64 m1, .int .i64 m2] 52))
        by_cases hR0 : R = 0
        · rw [if_pos hR0, Int.add_zero, Int.mul_comm] at hat
          have HAT := hide hat
          rw [hat] at hb20 hb21
          clear hat hcc hg hM hup
          by_cases hM0 : M < 0
          · go_wp2
            go_roundw
            case rel =>
              refine ⟨q + 1, by go_num, by omega, ?_, HB3.out, HK3.out⟩
              rw [HTK.out, List.foldl_append, HMM.out]
              show _ = Value.int .i64 (bestS k M (m1, m2))
              rw [bestS, if_pos (Or.inl hM0), HAT.out]
            case measure => simp [intOf]; omega
          · by_cases hlm : Q * m2 < M
            · go_wp2
              go_roundw
              case rel =>
                refine ⟨q + 1, by go_num, by omega, ?_, HB3.out, HK3.out⟩
                rw [HTK.out, List.foldl_append, HMM.out]
                show _ = Value.int .i64 (bestS k M (m1, m2))
                rw [bestS, if_pos (Or.inr (by rw [HAT.out]; exact hlm)), HAT.out]
              case measure => simp [intOf]; omega
            · go_wp2
              go_roundw
              case rel =>
                refine ⟨q + 1, by go_num, by omega, ?_, HB3.out, HK3.out⟩
                rw [HTK.out, List.foldl_append, HMM.out]
                show _ = Value.int .i64 (bestS k M (m1, m2))
                rw [bestS, if_neg (by rw [HAT.out]; omega)]
              case measure => simp [intOf]; omega
        · rw [if_neg hR0, Int.mul_comm] at hat
          have HAT := hide hat
          rw [hat] at hb20 hb21
          clear hat hcc hg hM hup
          by_cases hM0 : M < 0
          · go_wp2
            go_roundw
            case rel =>
              refine ⟨q + 1, by go_num, by omega, ?_, HB3.out, HK3.out⟩
              rw [HTK.out, List.foldl_append, HMM.out]
              show _ = Value.int .i64 (bestS k M (m1, m2))
              rw [bestS, if_pos (Or.inl hM0), HAT.out]
            case measure => simp [intOf]; omega
          · by_cases hlm : (Q + 1) * m2 < M
            · go_wp2
              go_roundw
              case rel =>
                refine ⟨q + 1, by go_num, by omega, ?_, HB3.out, HK3.out⟩
                rw [HTK.out, List.foldl_append, HMM.out]
                show _ = Value.int .i64 (bestS k M (m1, m2))
                rw [bestS, if_pos (Or.inr (by rw [HAT.out]; exact hlm)), HAT.out]
              case measure => simp [intOf]; omega
            · go_wp2
              go_roundw
              case rel =>
                refine ⟨q + 1, by go_num, by omega, ?_, HB3.out, HK3.out⟩
                rw [HTK.out, List.foldl_append, HMM.out]
                show _ = Value.int .i64 (bestS k M (m1, m2))
                rw [bestS, if_neg (by rw [HAT.out]; omega)]
              case measure => simp [intOf]; omega
      · have hqi : ¬ (q : Int) < (n : Int) := by omega
        rw [List.take_of_length_le (by rw [HN.out]; omega)]
        go_wp2
        go_ret
        exact ⟨ret_int HE.out, HBE.out⟩

end Go.Proofs.YthloffgebebijaaGreat

/- RefF: the walks of the reference's longest and demand: they answer the plain numbers. -/
namespace Go.Proofs.YthloffgebebijaaGreat
open Go.RowKit

set_option maxRecDepth 100000 in
set_option maxHeartbeats 1600000 in
theorem rLongest_any (B : Nat) (v : Value) (c : Cfg) (w : World) (hv : Cf w B v c) (hB : B ≤ w.heap.size) (hc : CfIn c) :
    Calls Tryz.prog 63 #[v] w fun e w' => e = .returned (.int .i64 (longestI c)) ∧ Below w.heap.size w w' := by
  have HCI := hide hc
  have HLT := hide (fun k => longest_take hc k)
  have HE : Hid (longestI c = c.tasks.foldl (fun m t => max m (priceI c t)) (c.poll + c.idle)) := rfl
  obtain ⟨s, rfl, sa, scap, rfl, hs⟩ := hv
  obtain ⟨x1, x2, x3, x4, x5, ts⟩ := c
  have h1 := hc.p1; have h2 := hc.p2; have h3 := hc.i1; have h4 := hc.i2; have h5 := hc.s1; have h6 := hc.s2; have hn := hc.n2
  simp only at hs h1 h2 h3 h4 h5 h6 hn HLT HE ⊢
  have HC := hide hs
  generalize hN : ts.length = n at *
  have HN := hide hN
  have HB1 : Hid (Below w.heap.size w (w.alloc (.cells #[.int .i64 x1, .int .i64 x2, .int .i64 x3, .int .i64 x4, .int .i64 x5, .slice sa n scap] 40))) := (Below.refl _ _).alloc (Nat.le_refl _) _
  have HK1 := hide (Blk.new w #[.int .i64 x1, .int .i64 x2, .int .i64 x3, .int .i64 x4, .int .i64 x5, .slice sa n scap] 40)
  clear hN hs hc
  go_enter Tryz.func63, Tryz.ntmps63
  go_wp2_with fail
  go_loopw [3, 4] (fun m i wr => ∃ q : Nat, i = .int .i64 q ∧ q ≤ n ∧ m = .int .i64 ((ts.take q).foldl (fun m t => max m (priceI ⟨x1, x2, x3, x4, x5, ts⟩ t)) (x3 + x4)) ∧ Below w.heap.size w wr ∧ Blk wr w.heap.size #[.int .i64 x1, .int .i64 x2, .int .i64 x3, .int .i64 x4, .int .i64 x5, .slice sa n scap] 40) (fun _ i _ => n - (intOf i).toNat)
  case atStart => exact ⟨0, rfl, Nat.zero_le _, by simp, HB1.out, HK1.out⟩
  case round =>
    obtain ⟨q, rfl, hq, rfl, hbe, hk⟩ := hrel
    have HBE := hide hbe
    have HK := hide hk
    have hsz := hbe.size
    have hzk := hk.lt
    obtain ⟨hm0, hm1⟩ := HLT.out q
    have k5 : wr.cell? ⟨w.heap.size, 5, none⟩ = some (.slice sa n scap) := hk.cell 5
    clear hbe hk
    by_cases hlt : q < n
    · obtain ⟨t, hg⟩ := get_of_lt (l := ts) (k := q) (by rw [HN.out]; exact hlt)
      have hti := HCI.out.ts t (List.mem_of_getElem? hg)
      rcases HC.out with he | ⟨sb, so, rfl, hsb, hsc⟩
      · rw [he] at hg; simp at hg
      obtain ⟨k6, k7, sl, k8, hls⟩ := (hsc q _ hg).later HBE.out hB (by omega)
      have HTK := hide (take_snoc hg)
      have ht1 := hti.c1; have ht2 := hti.c2
      obtain ⟨cost, due, lims⟩ := t
      simp only at k6 k7 ht1 ht2
      obtain ⟨la, lc, rfl, _⟩ := hls
      have hqi : (q : Int) < (n : Int) := by omega
      have hsbw : sb < wr.heap.size := by omega
      generalize hM : (ts.take q).foldl (fun m t => max m (priceI ⟨x1, x2, x3, x4, x5, ts⟩ t)) (x3 + x4) = M at *
      have HMM := hide hM
      have HPR := hide (fun w' => rPrice_any x1 x2 x3 x4 x5 (.slice (some ⟨sb, so, none⟩) n scap) (.slice la lims.length lc) cost due w' ⟨h1, h2⟩ ⟨h5, h6⟩ ⟨ht1, ht2⟩ _ _ _ _ _ _ rfl rfl)
      have k0 : wr.cell? ⟨w.heap.size, 0, none⟩ = some (.int .i64 x1) := HK.out.cell 0
      have k1 : wr.cell? ⟨w.heap.size, 1, none⟩ = some (.int .i64 x2) := HK.out.cell 1
      have k2 : wr.cell? ⟨w.heap.size, 2, none⟩ = some (.int .i64 x3) := HK.out.cell 2
      have k3 : wr.cell? ⟨w.heap.size, 3, none⟩ = some (.int .i64 x4) := HK.out.cell 3
      have k4 : wr.cell? ⟨w.heap.size, 4, none⟩ = some (.int .i64 x5) := HK.out.cell 4
      clear hg hM hsc
      go_wp2_with fail
      go_region_held3 (fun w' => w'.cell? ⟨w.heap.size, 0, none⟩ = some (.int .i64 x1) ∧ w'.cell? ⟨w.heap.size, 1, none⟩ = some (.int .i64 x2) ∧ w'.cell? ⟨w.heap.size, 2, none⟩ = some (.int .i64 x3) ∧ w'.cell? ⟨w.heap.size, 3, none⟩ = some (.int .i64 x4) ∧ w'.cell? ⟨w.heap.size, 4, none⟩ = some (.int .i64 x5) ∧ w'.cell? ⟨w.heap.size, 5, none⟩ = some (.slice (some ⟨sb, so, none⟩) n scap) ∧ w'.cell? ⟨sb, so + q * 3, none⟩ = some (.int .i64 cost) ∧ w'.cell? ⟨sb, so + q * 3 + 1, none⟩ = some (.int .i64 due) ∧ w'.cell? ⟨sb, so + q * 3 + 2, none⟩ = some (.slice la lims.length lc)) (first | exact ⟨k0, k1, k2, k3, k4, k5, k6, k7, k8⟩ | exact ⟨z0, z1, z2, z3, z4, z5, z6, z7, z8⟩)
        (first | (go_at_call 85; refine (HPR.out wr.drew).mono ?_; rintro e w3 ⟨rfl, b3⟩; have z0 := (b3.cell (p := ⟨w.heap.size, 0, none⟩) (by simp; omega)).trans k0; have z1 := (b3.cell (p := ⟨w.heap.size, 1, none⟩) (by simp; omega)).trans k1; have z2 := (b3.cell (p := ⟨w.heap.size, 2, none⟩) (by simp; omega)).trans k2; have z3 := (b3.cell (p := ⟨w.heap.size, 3, none⟩) (by simp; omega)).trans k3; have z4 := (b3.cell (p := ⟨w.heap.size, 4, none⟩) (by simp; omega)).trans k4; have z5 := (b3.cell (p := ⟨w.heap.size, 5, none⟩) (by simp; omega)).trans k5; have z6 := (b3.cell (p := ⟨sb, so + q * 3, none⟩) (by simp; omega)).trans k6; have z7 := (b3.cell (p := ⟨sb, so + q * 3 + 1, none⟩) (by simp; omega)).trans k7; have z8 := (b3.cell (p := ⟨sb, so + q * 3 + 2, none⟩) (by simp; omega)).trans k8; have Hb3 := hide b3; have hzb3 : wr.heap.size ≤ w3.heap.size := b3.size; clear b3))
      have HBF : Hid (Below w.heap.size w w3) := HBE.out.trans ((undrewB Hb3.out).mono hsz)
      have HKF := hide (HK.out.later (undrewB Hb3.out) (by omega))
      go_wp2
      go_roundw
      case rel =>
        refine ⟨q + 1, by go_num, by omega, ?_, HBF.out, HKF.out⟩
        rw [HTK.out, List.foldl_append, HMM.out]
        show Value.int .i64 _ = Value.int .i64 (max M (x3 + x5 + cost))
        congr 1
        try (split <;> omega)
      case measure => simp [intOf]; omega
    · have hqi : ¬ (q : Int) < (n : Int) := by omega
      rw [List.take_of_length_le (by rw [HN.out]; omega)]
      go_wp2
      go_ret
      exact ⟨ret_int HE.out.symm, HBE.out⟩

set_option maxRecDepth 100000 in
set_option maxHeartbeats 1600000 in
theorem rDemand_any (B : Nat) (v : Value) (c : Cfg) (nn : Int) (w : World) (hv : Cf w B v c) (hB : B ≤ w.heap.size) (hc : CfIn c) (hn0 : 0 ≤ nn) (hn1 : nn ≤ 1400) :
    Calls Tryz.prog 64 #[v, .int .i64 nn] w fun e w' => e = .returned (.int .i64 (demandI c nn)) ∧ Below w.heap.size w w' := by
  have HCI := hide hc
  have HLT := hide (fun k => demand_take hc hn1 k)
  have HTM : Hid (∀ t, TkIn t → 0 ≤ mostI t (nn - t.due) * priceI c t ∧ mostI t (nn - t.due) * priceI c t ≤ 1800 * 1400) := fun t ht => term_bounds hc ht (by have := ht.d1; omega) (by decide)
  have HE : Hid (demandI c nn = c.tasks.foldl (fun s t => s + mostI t (nn - t.due) * priceI c t) 0) := rfl
  obtain ⟨s, rfl, sa, scap, rfl, hs⟩ := hv
  obtain ⟨x1, x2, x3, x4, x5, ts⟩ := c
  have h1 := hc.p1; have h2 := hc.p2; have h5 := hc.s1; have h6 := hc.s2; have hn := hc.n2
  simp only at hs h1 h2 h5 h6 hn HLT HE HTM ⊢
  have HC := hide hs
  generalize hN : ts.length = n at *
  have HN := hide hN
  have HB1 : Hid (Below w.heap.size w (w.alloc (.cells #[.int .i64 x1, .int .i64 x2, .int .i64 x3, .int .i64 x4, .int .i64 x5, .slice sa n scap] 40))) := (Below.refl _ _).alloc (Nat.le_refl _) _
  have HK1 := hide (Blk.new w #[.int .i64 x1, .int .i64 x2, .int .i64 x3, .int .i64 x4, .int .i64 x5, .slice sa n scap] 40)
  clear hN hs hc
  go_enter Tryz.func64, Tryz.ntmps64
  go_wp2_with fail
  go_loopw [5, 6] (fun m i wr => ∃ q : Nat, i = .int .i64 q ∧ q ≤ n ∧ m = .int .i64 ((ts.take q).foldl (fun s t => s + mostI t (nn - t.due) * priceI ⟨x1, x2, x3, x4, x5, ts⟩ t) 0) ∧ Below w.heap.size w wr ∧ Blk wr w.heap.size #[.int .i64 x1, .int .i64 x2, .int .i64 x3, .int .i64 x4, .int .i64 x5, .slice sa n scap] 40) (fun _ i _ => n - (intOf i).toNat)
  case atStart => exact ⟨0, rfl, Nat.zero_le _, by simp, HB1.out, HK1.out⟩
  case round =>
    obtain ⟨q, rfl, hq, rfl, hbe, hk⟩ := hrel
    have HBE := hide hbe
    have HK := hide hk
    have hsz := hbe.size
    have hzk := hk.lt
    obtain ⟨hm0, hm1⟩ := HLT.out q
    have k5 : wr.cell? ⟨w.heap.size, 5, none⟩ = some (.slice sa n scap) := hk.cell 5
    clear hbe hk
    by_cases hlt : q < n
    · obtain ⟨t, hg⟩ := get_of_lt (l := ts) (k := q) (by rw [HN.out]; exact hlt)
      have hti := HCI.out.ts t (List.mem_of_getElem? hg)
      have HTI := hide hti
      rcases HC.out with he | ⟨sb, so, rfl, hsb, hsc⟩
      · rw [he] at hg; simp at hg
      obtain ⟨k6, k7, sl, k8, hls⟩ := (hsc q _ hg).later HBE.out hB (by omega)
      have HTK := hide (take_snoc hg)
      have ht1 := hti.c1; have ht2 := hti.c2; have ht3 := hti.d1; have ht4 := hti.d2
      obtain ⟨htm0, htm1⟩ := HTM.out t hti
      have hmb := most_bounds hti.ls (k := nn - t.due) (K := 1400) (by omega) (by decide)
      obtain ⟨hmb0, hmb1⟩ := hmb
      obtain ⟨cost, due, lims⟩ := t
      simp only at k6 k7 ht1 ht2 ht3 ht4 hls hmb0 hmb1
      have HLC := hide hls
      obtain ⟨la, lc, rfl, _⟩ := hls
      have hqi : (q : Int) < (n : Int) := by omega
      have hsbw : sb < wr.heap.size := by omega
      have HPE : Hid (priceI ⟨x1, x2, x3, x4, x5, ts⟩ ⟨cost, due, lims⟩ = x3 + x5 + cost) := rfl
      have HMO := hide (fun (w' : World) (hb' : Below wr.heap.size wr w') => rMost_any B (.agg #[.int .i64 cost, .int .i64 due, .slice la lims.length lc]) ⟨cost, due, lims⟩ (nn - due) w' ⟨_, rfl, HLC.out.later hb' (by omega)⟩ (by have := hb'.size; omega) HTI.out (by omega) (by omega))
      have HPR := hide (fun w' => rPrice_any x1 x2 x3 x4 x5 (.slice (some ⟨sb, so, none⟩) n scap) (.slice la lims.length lc) cost due w' ⟨h1, h2⟩ ⟨h5, h6⟩ ⟨ht1, ht2⟩ _ _ _ _ _ _ rfl rfl)
      rw [HPE.out] at htm0 htm1
      generalize hS : (ts.take q).foldl (fun s t => s + mostI t (nn - t.due) * priceI ⟨x1, x2, x3, x4, x5, ts⟩ t) 0 = Sm at *
      generalize hM : mostI ⟨cost, due, lims⟩ (nn - due) = M at *
      have HSS := hide hS
      have HMM := hide hM
      have we0 : IntKind.i64.wrap (nn - due) = nn - due := IntWalk.i64_in _ ⟨by omega, by omega⟩
      have we1 : IntKind.i64.wrap (M * (x3 + x5 + cost)) = M * (x3 + x5 + cost) := IntWalk.i64_in _ ⟨by omega, by omega⟩
      have we2 : IntKind.i64.wrap (Sm + M * (x3 + x5 + cost)) = Sm + M * (x3 + x5 + cost) := IntWalk.i64_in _ ⟨by omega, by omega⟩
      have k0 : wr.cell? ⟨w.heap.size, 0, none⟩ = some (.int .i64 x1) := HK.out.cell 0
      have k1 : wr.cell? ⟨w.heap.size, 1, none⟩ = some (.int .i64 x2) := HK.out.cell 1
      have k2 : wr.cell? ⟨w.heap.size, 2, none⟩ = some (.int .i64 x3) := HK.out.cell 2
      have k3 : wr.cell? ⟨w.heap.size, 3, none⟩ = some (.int .i64 x4) := HK.out.cell 3
      have k4 : wr.cell? ⟨w.heap.size, 4, none⟩ = some (.int .i64 x5) := HK.out.cell 4
      have HDR : Hid (Below wr.heap.size wr wr.drew) := (Below.refl _ _).drew
      clear hg hM hS hsc
      go_wp2_with fail
      go_region_held3 (fun w' => w'.cell? ⟨w.heap.size, 0, none⟩ = some (.int .i64 x1) ∧ w'.cell? ⟨w.heap.size, 1, none⟩ = some (.int .i64 x2) ∧ w'.cell? ⟨w.heap.size, 2, none⟩ = some (.int .i64 x3) ∧ w'.cell? ⟨w.heap.size, 3, none⟩ = some (.int .i64 x4) ∧ w'.cell? ⟨w.heap.size, 4, none⟩ = some (.int .i64 x5) ∧ w'.cell? ⟨w.heap.size, 5, none⟩ = some (.slice (some ⟨sb, so, none⟩) n scap) ∧ w'.cell? ⟨sb, so + q * 3, none⟩ = some (.int .i64 cost) ∧ w'.cell? ⟨sb, so + q * 3 + 1, none⟩ = some (.int .i64 due) ∧ w'.cell? ⟨sb, so + q * 3 + 2, none⟩ = some (.slice la lims.length lc)) (first | exact ⟨k0, k1, k2, k3, k4, k5, k6, k7, k8⟩ | exact ⟨z0, z1, z2, z3, z4, z5, z6, z7, z8⟩)
        (first | (go_at_call 65; refine (HMO.out wr.drew HDR.out).mono ?_; rintro e w3 ⟨rfl, b3⟩; have z0 := (b3.cell (p := ⟨w.heap.size, 0, none⟩) (by simp; omega)).trans k0; have z1 := (b3.cell (p := ⟨w.heap.size, 1, none⟩) (by simp; omega)).trans k1; have z2 := (b3.cell (p := ⟨w.heap.size, 2, none⟩) (by simp; omega)).trans k2; have z3 := (b3.cell (p := ⟨w.heap.size, 3, none⟩) (by simp; omega)).trans k3; have z4 := (b3.cell (p := ⟨w.heap.size, 4, none⟩) (by simp; omega)).trans k4; have z5 := (b3.cell (p := ⟨w.heap.size, 5, none⟩) (by simp; omega)).trans k5; have z6 := (b3.cell (p := ⟨sb, so + q * 3, none⟩) (by simp; omega)).trans k6; have z7 := (b3.cell (p := ⟨sb, so + q * 3 + 1, none⟩) (by simp; omega)).trans k7; have z8 := (b3.cell (p := ⟨sb, so + q * 3 + 2, none⟩) (by simp; omega)).trans k8; have Hb3 := hide b3; have hzb3 : wr.heap.size ≤ w3.heap.size := b3.size; clear b3))
      clear k0 k1 k2 k3 k4 k5 k6 k7 k8
      go_wp2_with fail
      go_region_held3 (fun w' => w'.cell? ⟨w.heap.size, 0, none⟩ = some (.int .i64 x1) ∧ w'.cell? ⟨w.heap.size, 1, none⟩ = some (.int .i64 x2) ∧ w'.cell? ⟨w.heap.size, 2, none⟩ = some (.int .i64 x3) ∧ w'.cell? ⟨w.heap.size, 3, none⟩ = some (.int .i64 x4) ∧ w'.cell? ⟨w.heap.size, 4, none⟩ = some (.int .i64 x5) ∧ w'.cell? ⟨w.heap.size, 5, none⟩ = some (.slice (some ⟨sb, so, none⟩) n scap) ∧ w'.cell? ⟨sb, so + q * 3, none⟩ = some (.int .i64 cost) ∧ w'.cell? ⟨sb, so + q * 3 + 1, none⟩ = some (.int .i64 due) ∧ w'.cell? ⟨sb, so + q * 3 + 2, none⟩ = some (.slice la lims.length lc)) (first | exact ⟨z0, z1, z2, z3, z4, z5, z6, z7, z8⟩ | exact ⟨u0, u1, u2, u3, u4, u5, u6, u7, u8⟩)
        (first | (go_at_call 85; refine (HPR.out w3.drew).mono ?_; rintro e w4 ⟨rfl, b4⟩; have u0 := (b4.cell (p := ⟨w.heap.size, 0, none⟩) (by simp; omega)).trans z0; have u1 := (b4.cell (p := ⟨w.heap.size, 1, none⟩) (by simp; omega)).trans z1; have u2 := (b4.cell (p := ⟨w.heap.size, 2, none⟩) (by simp; omega)).trans z2; have u3 := (b4.cell (p := ⟨w.heap.size, 3, none⟩) (by simp; omega)).trans z3; have u4 := (b4.cell (p := ⟨w.heap.size, 4, none⟩) (by simp; omega)).trans z4; have u5 := (b4.cell (p := ⟨w.heap.size, 5, none⟩) (by simp; omega)).trans z5; have u6 := (b4.cell (p := ⟨sb, so + q * 3, none⟩) (by simp; omega)).trans z6; have u7 := (b4.cell (p := ⟨sb, so + q * 3 + 1, none⟩) (by simp; omega)).trans z7; have u8 := (b4.cell (p := ⟨sb, so + q * 3 + 2, none⟩) (by simp; omega)).trans z8; have Hb4 := hide b4; have hzb4 : w3.heap.size ≤ w4.heap.size := b4.size; clear b4))
      have HBW : Hid (Below wr.heap.size wr w4) := (undrewB Hb3.out).trans ((undrewB Hb4.out).mono hzb3)
      have HBF : Hid (Below w.heap.size w w4) := HBE.out.trans (HBW.out.mono hsz)
      have HKF := hide (HK.out.later HBW.out (by omega))
      go_wp2
      go_roundw
      case rel =>
        refine ⟨q + 1, by go_num, by omega, ?_, HBF.out, HKF.out⟩
        rw [HTK.out, List.foldl_append, HSS.out]
        show Value.int .i64 _ = Value.int .i64 (Sm + mostI ⟨cost, due, lims⟩ (nn - due) * priceI ⟨x1, x2, x3, x4, x5, ts⟩ ⟨cost, due, lims⟩)
        rw [HMM.out, HPE.out]
      case measure => simp [intOf]; omega
    · have hqi : ¬ (q : Int) < (n : Int) := by omega
      rw [List.take_of_length_le (by rw [HN.out]; omega)]
      go_wp2
      go_ret
      exact ⟨ret_int HE.out.symm, HBE.out⟩

end Go.Proofs.YthloffgebebijaaGreat

/- RefG: the walk of the reference's Check: it answers what the program answers. -/
namespace Go.Proofs.YthloffgebebijaaGreat
open Go.RowKit

/-- The reference's list of what is over, of the first q lengths. -/
def overL (lo : Int) (df : Int → Int) (q : Nat) : List Value := (List.range q).map fun (i : Nat) => Value.int .i64 (lo + df i - i)
theorem overL_succ (lo : Int) (df : Int → Int) (q : Nat) : overL lo df (q + 1) = overL lo df q ++ [.int .i64 (lo + df q - q)] := by simp [overL, List.range_succ]
theorem overL_get (lo : Int) (df : Int → Int) (q i : Nat) (h : i < q) : (overL lo df q)[i]? = some (.int .i64 (lo + df i - i)) := by simp [overL, h]

set_option maxRecDepth 100000 in
set_option maxHeartbeats 3200000 in
theorem refCheck_yes (B : Nat) (v : Value) (c : Cfg) (w : World) (hv : Cf w B v c) (hB : B ≤ w.heap.size) (hok : cfgOk c = true) :
    Calls Tryz.prog 34 #[v] w fun e w' => ∃ a cap, e = .returned (.tuple #[.agg #[.int .i64 (whatI c), .slice a c.tasks.length cap, .int .i64 (needI c)], .int .i64 0]) ∧ w'.ownsRow w.heap.size 3 1 (.slice a c.tasks.length cap) c.tasks.length (intsV (c.tasks.map (boundI c))) ∧ Below w.heap.size w w' := by
  have hc := CfIn.of hok
  have HFI : Hid (∀ w' : World, Below w.heap.size w w' → Calls Tryz.prog 55 #[v] w' fun e w'' => e = .returned (.bool true) ∧ Below w'.heap.size w' w'') := fun w' hb' => by
    have h1 := refFits_any v B c w' (hv.later hb' hB) (by have := hb'.size; omega)
    rw [hok] at h1
    exact h1
  have HLO := hide (fun (w' : World) (hb' : Below w.heap.size w w') => rLongest_any B v c w' (hv.later hb' hB) (by have := hb'.size; omega) hc)
  have HDE := hide (fun (w' : World) (hb' : Below w.heap.size w w') (nn : Int) (h0 : 0 ≤ nn) (h1 : nn ≤ 1400) => rDemand_any B v c nn w' (hv.later hb' hB) (by have := hb'.size; omega) hc h0 h1)
  have HDB : Hid (∀ n : Int, n ≤ 1400 → 0 ≤ demandI c n ∧ demandI c n ≤ 20000000) := fun n hn => demand_bounds hc hn
  have HWB : Hid (∀ (f : Int), 0 ≤ f → ∀ i : Nat, f + i ≤ 1400 → -1400 ≤ worstI c f i ∧ worstI c f i ≤ 20000000) := fun f hf i hi => worst_bounds hc hf i hi
  have HBD : Hid (∀ t : Tk, boundI c t = t.due + longestI c + worstI c (t.due + 1) 999) := fun t => rfl
  have HW0 : Hid (∀ f : Int, worstI c f 0 = demandI c f - f) := fun f => rfl
  have HWS : Hid (∀ (f : Int) (i : Nat), worstI c f (i + 1) = max (worstI c f i) (demandI c (f + (i + 1)) - (f + (i + 1)))) := fun f i => rfl
  have HND := hide (fun k => need_take hc k)
  have HNE : Hid (needI c = c.tasks.foldl (fun s t => s + mostI t (boundI c t)) 0) := rfl
  have HE : Hid (whatI c = if c.tasks.any (fun t => decide (t.due < boundI c t)) = true then 2 else if c.room < needI c then 3 else 1) := rfl
  have HTS : Hid (∀ t ∈ c.tasks, TkIn t) := hc.ts
  obtain ⟨hlo0, hlo1⟩ := longest_bounds hc
  have hr1 := hc.r1; have hr2 := hc.r2; have hn := hc.n2
  obtain ⟨i0, hi, hz0, hzs, hzb⟩ := info_parts info_int
  have HI := hide (And.intro hi (And.intro hz0 (And.intro hzs hzb)))
  obtain ⟨s, rfl, sa, scap, rfl, hs⟩ := hv
  have HC := hide hs
  generalize hbf : boundI c = bf at *
  generalize hwh : whatI c = wh at *
  generalize hnd : needI c = nd at *
  generalize hlo : longestI c = lo at *
  generalize hdf : demandI c = df at *
  generalize hwf : worstI c = wf at *
  clear hbf hwh hnd hlo hdf hwf hi hz0 hzs hzb
  obtain ⟨x1, x2, x3, x4, x5, ts⟩ := c
  simp only at hn hr1 hr2 HND HNE HE HC HTS HFI HLO HDE ⊢
  generalize hN : ts.length = n at *
  have HN := hide hN
  have HB0 : Hid (Below w.heap.size w ((w.alloc (.cells #[.int .i64 x1, .int .i64 x2, .int .i64 x3, .int .i64 x4, .int .i64 x5, .slice sa n scap] 40)).alloc (.cells #[.int .i64 0, .slice none 0 0, .int .i64 0] 86))) := ((Below.refl _ _).alloc (Nat.le_refl _) _).alloc (by simp) _
  have HK0 : Hid (Blk ((w.alloc (.cells #[.int .i64 x1, .int .i64 x2, .int .i64 x3, .int .i64 x4, .int .i64 x5, .slice sa n scap] 40)).alloc (.cells #[.int .i64 0, .slice none 0 0, .int .i64 0] 86)) w.heap.size #[.int .i64 x1, .int .i64 x2, .int .i64 x3, .int .i64 x4, .int .i64 x5, .slice sa n scap] 40) := (Blk.new _ _ _).alloc _
  have HR0 : Hid (Blk ((w.alloc (.cells #[.int .i64 x1, .int .i64 x2, .int .i64 x3, .int .i64 x4, .int .i64 x5, .slice sa n scap] 40)).alloc (.cells #[.int .i64 0, .slice none 0 0, .int .i64 0] 86)) (w.heap.size + 1) #[.int .i64 0, .slice none 0 0, .int .i64 0] 86) := by
    have := Blk.new (w.alloc (.cells #[.int .i64 x1, .int .i64 x2, .int .i64 x3, .int .i64 x4, .int .i64 x5, .slice sa n scap] 40)) #[.int .i64 0, .slice none 0 0, .int .i64 0] 86
    simpa [Hid] using this
  clear hN hs hc
  go_enter Tryz.func34, Tryz.ntmps34
  go_wp2_with fail
  refine (HFI.out _ HB0.out).mono ?_
  rintro e w1 ⟨rfl, q1⟩
  have hz1 := q1.size
  simp only [World.size_alloc] at hz1
  have HB1 : Hid (Below w.heap.size w w1) := HB0.out.trans (q1.mono (by simp; omega))
  have HK1 := hide (HK0.out.later q1 (by simp; omega))
  have HR1 := hide (HR0.out.later q1 (by simp))
  clear q1
  have k0 : w1.cell? ⟨w.heap.size, 0, none⟩ = some (.int .i64 x1) := HK1.out.cell 0
  have k1 : w1.cell? ⟨w.heap.size, 1, none⟩ = some (.int .i64 x2) := HK1.out.cell 1
  have k2 : w1.cell? ⟨w.heap.size, 2, none⟩ = some (.int .i64 x3) := HK1.out.cell 2
  have k3 : w1.cell? ⟨w.heap.size, 3, none⟩ = some (.int .i64 x4) := HK1.out.cell 3
  have k4 : w1.cell? ⟨w.heap.size, 4, none⟩ = some (.int .i64 x5) := HK1.out.cell 4
  have k5 : w1.cell? ⟨w.heap.size, 5, none⟩ = some (.slice sa n scap) := HK1.out.cell 5
  go_wp2_with fail
  refine (HLO.out _ HB1.out).mono ?_
  rintro e w2 ⟨rfl, q2⟩
  have hz2 := q2.size
  have HB2 : Hid (Below w.heap.size w w2) := HB1.out.trans (q2.mono (by omega))
  have HK2 := hide (HK1.out.later q2 (by omega))
  have HR2 := hide (HR1.out.later q2 (by omega))
  clear q2 k0 k1 k2 k3 k4 k5
  go_wp2_with fail
  go_loopw [5, 7] (fun o i wr => ∃ (q : Nat) (oa : Option Addr) (oc : Nat), i = .int .i64 q ∧ q ≤ 1401 ∧ o = .slice oa q oc ∧ wr.ownsRow w.heap.size 3 1 (.slice oa q oc) q (overL lo df q) ∧ Below w.heap.size w wr ∧ Blk wr w.heap.size #[.int .i64 x1, .int .i64 x2, .int .i64 x3, .int .i64 x4, .int .i64 x5, .slice sa n scap] 40 ∧ Blk wr (w.heap.size + 1) #[.int .i64 0, .slice none 0 0, .int .i64 0] 86) (fun _ i _ => 1401 - (intOf i).toNat)
  case atStart => exact ⟨0, none, 0, rfl, by omega, rfl, by simpa [overL] using World.ownsRow_nil w2 w.heap.size 3 1, HB2.out, HK2.out, HR2.out⟩
  case round =>
    obtain ⟨q, oa, oc, rfl, hq, rfl, ho, hbe, hk, hr⟩ := hrel
    have HO := hide ho
    have HBE := hide hbe
    have HK := hide hk
    have HR := hide hr
    have hsz := hbe.size
    have hzr := hr.lt
    have k0 : wr.cell? ⟨w.heap.size, 0, none⟩ = some (.int .i64 x1) := hk.cell 0
    have k1 : wr.cell? ⟨w.heap.size, 1, none⟩ = some (.int .i64 x2) := hk.cell 1
    have k2 : wr.cell? ⟨w.heap.size, 2, none⟩ = some (.int .i64 x3) := hk.cell 2
    have k3 : wr.cell? ⟨w.heap.size, 3, none⟩ = some (.int .i64 x4) := hk.cell 3
    have k4 : wr.cell? ⟨w.heap.size, 4, none⟩ = some (.int .i64 x5) := hk.cell 4
    have k5 : wr.cell? ⟨w.heap.size, 5, none⟩ = some (.slice sa n scap) := hk.cell 5
    clear ho hbe hk hr
    by_cases hlt : q ≤ 1400
    · obtain ⟨hd0, hd1⟩ := HDB.out q (by omega)
      have hqi : (q : Int) ≤ 1400 := by omega
      go_wp2_with fail
      refine (HDE.out wr HBE.out q (by omega) hqi).mono ?_
      rintro e w3 ⟨rfl, q3⟩
      have HB3 : Hid (Below w.heap.size w w3) := HBE.out.trans (q3.mono hsz)
      have HO3 := hide (owns_below HO.out q3)
      have HK3 := hide (HK.out.later q3 (by omega))
      have HR3 := hide (HR.out.later q3 (by omega))
      have hz3 := q3.size
      generalize hD : df q = D at *
      have HD := hide hD
      clear q3 k0 k1 k2 k3 k4 k5 hD
      go_wp2_with (at_builtin; go_must (refine wpList_append_own _ rfl _ _ 24 rfl w.heap.size 3 i0 (.int .i64 0) 1 8 Tryz.underlying24 HI.out.1 HI.out.2.1 HI.out.2.2.1 HI.out.2.2.2 rfl (by decide) (.slice oa q oc) q (overL lo df q) rfl (HO3.out.alloc _) ⟨w3.heap.size, 0, none⟩ 1 1 [.int .i64 (lo + D - q)] rfl rfl ?_ ?_ ?_ ?_ ?_ ?_))
      · exact new_cells w3 [.int .i64 (lo + D - q)] 3 w3.heap.size rfl
      · intro u hu; simp at hu; subst hu; rfl
      · unfold maxLen; omega
      · omega
      · simp; omega
      intro v4 w4 ho4 hg4 _
      have hk4 := KeepBut.grown hg4 (HO3.out.alloc _) (Nat.le_refl _)
      have HK4 := hide ((HK3.out.alloc (.cells #[.int .i64 (lo + D - q)] 3)).kept hk4 (by decide))
      have HR4 := hide ((HR3.out.alloc (.cells #[.int .i64 (lo + D - q)] 3)).kept hk4 (by decide))
      have HB4 : Hid (Below w.heap.size w w4) := (HB3.out.alloc (by omega) _).trans (hk4.below (by simp; omega))
      obtain ⟨va4, vc4, rfl⟩ := owns_slice ho4
      have HO4 := hide ho4
      clear ho4 hg4 hk4
      go_wp2
      go_roundw
      case rel =>
        refine ⟨q + 1, va4, vc4, by go_num, by omega, rfl, ?_, HB4.out, HK4.out, HR4.out⟩
        rw [overL_succ, HD.out]
        exact HO4.out
      case measure => simp [intOf]; omega
    · have hqi : ¬ (q : Int) ≤ 1400 := by omega
      obtain rfl : q = 1401 := by omega
      have HOV : Hid (∃ g, oa = some ⟨g, 0, none⟩ ∧ g < wr.heap.size ∧ ∀ i : Nat, i < 1401 → wr.cell? ⟨g, i, none⟩ = some (.int .i64 (lo + df i - i))) := by
        obtain ⟨g, cap, e1, _, hg, _⟩ := owns_cell1 HO.out (overL_get lo df 1401 0 (by omega))
        cases e1
        refine ⟨g, rfl, hg, fun i hi => ?_⟩
        obtain ⟨g', cap', e1, _, _, hc', _⟩ := owns_cell1 HO.out (overL_get lo df 1401 i hi)
        cases e1
        exact hc'
      obtain ⟨g, rfl, hg, hov⟩ := HOV.out
      have HOC := hide hov
      obtain ⟨W1, hW1⟩ : ∃ W, W = wr := ⟨_, rfl⟩
      subst hW1
      have HB5 : Hid (Below W1.heap.size W1 (W1.alloc (.cells #[.int .i64 1, .slice none 0 0, .int .i64 0] 86))) := (Below.refl _ _).alloc (Nat.le_refl _) _
      have HR5 := hide (Blk.new W1 #[.int .i64 1, .slice none 0 0, .int .i64 0] 86)
      clear hov HO k0 k1 k2 k3 k4 k5
      go_wp2_with fail
      go_loopw [10] (fun i wr => ∃ (q : Nat) (ba : Option Addr) (bc : Nat), i = .int .i64 q ∧ q ≤ n ∧ wr.ownsRow (W1.heap.size + 1) 3 1 (.slice ba q bc) q (intsV ((ts.take q).map bf)) ∧ Blk wr W1.heap.size #[.int .i64 (if (ts.take q).any (fun t => decide (t.due < bf t)) = true then 2 else 1), .slice ba q bc, .int .i64 ((ts.take q).foldl (fun s t => s + mostI t (bf t)) 0)] 86 ∧ Below W1.heap.size W1 wr) (fun i _ => n - (intOf i).toNat)
      case atStart => exact ⟨0, none, 0, rfl, by omega, by simpa [intsV] using World.ownsRow_nil _ (W1.heap.size + 1) 3 1, by simpa using HR5.out, HB5.out⟩
      case round =>
        obtain ⟨q, ba, bc, rfl, hq, ho, hr, hbe⟩ := hrel
        have HO := hide ho
        have HRR := hide hr
        have HBE1 := hide hbe
        have hsz1 := hbe.size
        have hzr1 := hr.lt
        have k1 : wr.cell? ⟨w.heap.size, 1, none⟩ = some (.int .i64 x2) := (HK.out.later hbe (by omega)).cell 1
        have k5 : wr.cell? ⟨w.heap.size, 5, none⟩ = some (.slice sa n scap) := (HK.out.later hbe (by omega)).cell 5
        clear ho hbe hr
        by_cases hlt : q < n
        · obtain ⟨t, hgt⟩ := get_of_lt (l := ts) (k := q) (by rw [HN.out]; exact hlt)
          have hti := HTS.out t (List.mem_of_getElem? hgt)
          have HTI := hide hti
          rcases HC.out with he | ⟨sb, so, rfl, hsb, hsc⟩
          · rw [he] at hgt; simp at hgt
          obtain ⟨k6, k7, sl, k8, hls⟩ := ((hsc q _ hgt).later HBE.out hB (by omega)).later HBE1.out (by omega) (by omega)
          have HTK := hide (take_snoc hgt)
          have ht3 := hti.d1; have ht4 := hti.d2
          obtain ⟨cost, due, lims⟩ := t
          simp only at k6 k7 ht3 ht4 hls
          obtain ⟨D, rfl⟩ : ∃ D : Nat, due = D := ⟨due.toNat, by omega⟩
          have HLC := hide hls
          obtain ⟨la, lc, rfl, _⟩ := hls
          have hqi : (q : Int) < (n : Int) := by omega
          have hsbw : sb < wr.heap.size := by omega
          have hgw : g < wr.heap.size := by omega
          have o1 : wr.cell? ⟨g, D + 1, none⟩ = some (.int .i64 (lo + wf (D + 1) 0)) := by
            rw [HBE1.out.cell (p := ⟨g, D + 1, none⟩) hg, HOC.out (D + 1) (by omega), HW0.out]
            simp only [Option.some.injEq, Value.int.injEq, true_and]
            push_cast
            omega
          have hob : (D : Int) + 1 < 1401 := by omega
          clear hgt hsc
          obtain ⟨W2, hW2⟩ : ∃ W, W = wr := ⟨_, rfl⟩
          subst hW2
          go_wp2_with fail
          go_loopw [12, 13] (fun b m wr => ∃ p : Nat, m = .int .i64 (D + 1 + p) ∧ p ≤ 1000 ∧ b = .int .i64 (lo + wf (D + 1) (p - 1)) ∧ W2 = wr) (fun _ m _ => D + 1001 - (intOf m).toNat)
          case atStart => exact ⟨0, rfl, by omega, rfl, rfl⟩
          case round =>
            obtain ⟨p, rfl, hp, rfl, rfl⟩ := hrel
            by_cases hlp : p < 1000
            · have o2 : W2.cell? ⟨g, D + 1 + p, none⟩ = some (.int .i64 (lo + (df (D + 1 + p) - (D + 1 + p)))) := by
                rw [HBE1.out.cell (p := ⟨g, D + 1 + p, none⟩) hg, HOC.out (D + 1 + p) (by omega)]
                simp only [Option.some.injEq, Value.int.injEq, true_and]
                push_cast
                omega
              have hpi : (D : Int) + 1 + p ≤ D + 1000 := by omega
              have hpb : (D : Int) + 1 + p < 1401 := by omega
              obtain ⟨hd0, hd1⟩ := HDB.out (D + 1 + p) (by omega)
              obtain ⟨hw0, hw1⟩ := HWB.out (D + 1) (by omega) (p - 1) (by omega)
              have HST : Hid (lo + wf (D + 1) (p + 1 - 1) = max (lo + wf (D + 1) (p - 1)) (lo + (df (D + 1 + p) - (D + 1 + p)))) := by
                cases p with
                | zero =>
                  have := HW0.out (D + 1)
                  simp only [Hid, Nat.zero_add, Nat.sub_self, Nat.zero_sub, Int.natCast_zero, Int.add_zero]
                  omega
                | succ p =>
                  have := HWS.out (D + 1) p
                  simp only [Hid, Nat.add_sub_cancel]
                  push_cast
                  omega
              generalize hX : lo + wf (D + 1) (p - 1) = X at *
              generalize hY : lo + (df (D + 1 + p) - (D + 1 + p)) = Y at *
              clear hX hY
              go_wp2
              go_roundw
              case rel =>
                refine ⟨p + 1, by go_num, by omega, ?_, by first | rfl | trivial⟩
                rw [HST.out]
                congr 1
                try (split <;> omega)
              case measure => simp [intOf]; omega
            · have hpi : ¬ (D : Int) + 1 + p ≤ D + 1000 := by omega
              obtain ⟨X, hX⟩ : ∃ X, lo + wf (D + 1) 999 = X := ⟨_, rfl⟩
              have hXp : lo + wf (D + 1) (p - 1) = X := by rw [← hX, show p - 1 = 999 from by omega]
              rw [hXp]
              obtain ⟨hw0, hw1⟩ := HWB.out (D + 1) (by omega) 999 (by omega)
              have HBV : Hid (bf ⟨cost, D, lims⟩ = D + X) := by rw [Hid, HBD.out, ← hX]; simp only []; omega
              have hX0 : -1400 ≤ X := by omega
              have hX1 : X ≤ 20000100 := by omega
              obtain ⟨hs0, hs1⟩ := HND.out q
              obtain ⟨hm0, hm1⟩ := most_bounds HTI.out.ls (k := D + X) (K := 20001000) (by omega) (by decide)
              have HMO := hide (fun (w' : World) (hb' : Below W1.heap.size W2 w') => rMost_any B (.agg #[.int .i64 cost, .int .i64 D, .slice la lims.length lc]) ⟨cost, D, lims⟩ (D + X) w' ⟨_, rfl, HLC.out.later hb' (by omega)⟩ (by have := hb'.size; omega) HTI.out (by omega) (by omega))
              have r0 : W2.cell? ⟨W1.heap.size, 1, none⟩ = some (.slice ba q bc) := HRR.out.cell 1
              generalize hWH : (if (ts.take q).any (fun t => decide (t.due < bf t)) = true then (2 : Int) else 1) = WH at *
              have HWH := hide hWH
              generalize hSm : (ts.take q).foldl (fun s t => s + mostI t (bf t)) 0 = Sm at *
              generalize hM : mostI ⟨cost, D, lims⟩ (D + X) = M at *
              have HSS := hide hSm
              have HMM := hide hM
              have HNEW := hide (new_cells W2 [.int .i64 (D + X)] 3 W2.heap.size rfl)
              have HONE : Hid (∀ u ∈ [Value.int .i64 (D + X)], u.oneCell' = true) := by intro u hu; simp at hu; subst hu; rfl
              clear hX hXp hSm hM hWH o1
              go_wp2_with (at_builtin; go_must (refine wpList_append_own _ rfl _ _ 24 rfl (W1.heap.size + 1) 3 i0 (.int .i64 0) 1 8 Tryz.underlying24 HI.out.1 HI.out.2.1 HI.out.2.2.1 HI.out.2.2.2 rfl (by decide) (.slice ba q bc) q (intsV ((ts.take q).map bf)) rfl (HO.out.alloc _) ⟨W2.heap.size, 0, none⟩ 1 1 [.int .i64 (D + X)] rfl rfl HNEW.out HONE.out (by unfold maxLen; omega) (by omega) (by simp; omega) ?_))
              intro v5 w5 ho5 hg5 _
              have hk5 := KeepBut.grown hg5 (HO.out.alloc _) (Nat.le_refl _)
              have HR5' := hide ((HRR.out.alloc (.cells #[.int .i64 (D + X)] 3)).kept hk5 (by decide))
              have hb5 : Below (W1.heap.size + 1) W2 w5 := ((Below.refl _ _).alloc (by omega) (.cells #[.int .i64 (D + X)] 3)).trans (hk5.below (by simp; omega))
              have HB5' := hide hb5
              obtain ⟨va5, vc5, rfl⟩ := owns_slice ho5
              have HO5 := hide ho5
              have hz5 := hb5.size
              have r1 : w5.cell? ⟨W1.heap.size, 1, none⟩ = some (.slice ba q bc) := HR5'.out.cell 1
              have r1f := HR5'.out.free 1
              clear ho5 hg5 hk5 hb5 r0
              go_wp2_with fail
              have HR6 : Hid (Blk (w5.setCell ⟨W1.heap.size, 1, none⟩ (.slice va5 (q + 1) vc5)) W1.heap.size #[.int .i64 WH, .slice va5 (q + 1) vc5, .int .i64 Sm] 86) := by
                have := HR5'.out.set 1 (.slice va5 (q + 1) vc5)
                simpa [Hid] using this
              have HO6 := hide (owns_other (o := 1) (x := .slice va5 (q + 1) vc5) HO5.out HR5'.out (by decide))
              have HB26 : Hid (Below W1.heap.size W2 (w5.setCell ⟨W1.heap.size, 1, none⟩ (.slice va5 (q + 1) vc5))) := (HB5'.out.mono (by omega)).setCell (by simp) _
              have hz6 : (w5.setCell ⟨W1.heap.size, 1, none⟩ (.slice va5 (q + 1) vc5)).heap.size = w5.heap.size := by simp
              generalize hW6 : w5.setCell ⟨W1.heap.size, 1, none⟩ (.slice va5 (q + 1) vc5) = W6 at *
              have HMO6 := hide (HMO.out W6.drew HB26.out.drew)
              have y5 := (HB26.out.cell (p := ⟨w.heap.size, 5, none⟩) (by simp; omega)).trans k5
              have y6 := (HB26.out.cell (p := ⟨sb, so + q * 3, none⟩) (by simp; omega)).trans k6
              have y7 := (HB26.out.cell (p := ⟨sb, so + q * 3 + 1, none⟩) (by simp; omega)).trans k7
              have y8 := (HB26.out.cell (p := ⟨sb, so + q * 3 + 2, none⟩) (by simp; omega)).trans k8
              have y2 : W6.cell? ⟨W1.heap.size, 2, none⟩ = some (.int .i64 Sm) := HR6.out.cell 2
              have y2f := HR6.out.free 2
              have hz26 := HB26.out.size
              have hz56 : w5.heap.size ≤ W6.heap.size := by omega
              have we1 : IntKind.i64.wrap (D + X) = D + X := IntWalk.i64_in _ ⟨by omega, by omega⟩
              have we2 : IntKind.i64.wrap (Sm + M) = Sm + M := IntWalk.i64_in _ ⟨by omega, by omega⟩
              clear hz6 hW6 r1 r1f k5 k6 k7 k8 k1
              apply wp_someW (fun (w7 : World) => Below W6.heap.size W6 w7)
              case h =>
                go_region_with (go_at_call 65; refine HMO6.out.mono ?_; rintro e w7 ⟨rfl, b7⟩; have z2 := (b7.cell (p := ⟨W1.heap.size, 2, none⟩) (by simp; omega)).trans y2; have z2f := (HR6.out.drew.later b7 (by simp; omega)).free 2; have Hb7 := hide b7; clear b7)
                all_goals exact ⟨w7, undrewB Hb7.out, rfl, rfl⟩
              rintro w7 hb7
              have hz7 := hb7.size
              have HR7 := hide (HR6.out.later hb7 (by omega))
              have HR8 : Hid (Blk (w7.setCell ⟨W1.heap.size, 2, none⟩ (.int .i64 (Sm + M))) W1.heap.size #[.int .i64 WH, .slice va5 (q + 1) vc5, .int .i64 (Sm + M)] 86) := by
                have := HR7.out.set 2 (.int .i64 (Sm + M))
                simpa [Hid] using this
              have HO8 := hide (owns_other (o := 2) (x := .int .i64 (Sm + M)) (owns_below HO6.out hb7) HR7.out (by decide))
              have HB8 : Hid (Below W1.heap.size W1 (w7.setCell ⟨W1.heap.size, 2, none⟩ (.int .i64 (Sm + M)))) := ((HBE1.out.trans HB26.out).trans (hb7.mono (by omega))).setCell (by simp) _
              generalize hW8 : w7.setCell ⟨W1.heap.size, 2, none⟩ (.int .i64 (Sm + M)) = W8 at *
              have c0 : W8.cell? ⟨W1.heap.size, 0, none⟩ = some (.int .i64 WH) := HR8.out.cell 0
              have c0f := HR8.out.free 0
              have HOF : Hid (intsV ((ts.take q).map bf) ++ [.int .i64 (D + X)] = intsV ((ts.take (q + 1)).map bf)) := by
                rw [Hid, HTK.out, List.map_append, intsV, intsV, List.map_append]
                simp only [List.map_cons, List.map_nil, HBV.out]
              have HSF : Hid (Sm + M = (ts.take (q + 1)).foldl (fun s t => s + mostI t (bf t)) 0) := by
                rw [Hid, HTK.out, List.foldl_append, HSS.out]
                simp only [List.foldl_cons, List.foldl_nil, HBV.out, HMM.out]
              have HWF : Hid ((if (ts.take (q + 1)).any (fun t => decide (t.due < bf t)) = true then (2 : Int) else 1) = if 0 < X then 2 else WH) := by
                rw [Hid, HTK.out, List.any_append, ← HWH.out]
                simp only [List.any_cons, List.any_nil, Bool.or_false, Bool.or_eq_true, decide_eq_true_eq, HBV.out]
                by_cases hX : 0 < X
                · rw [if_pos hX, if_pos (.inr (by omega))]
                · rw [if_neg hX]
                  have : ¬ (D : Int) < D + X := by omega
                  simp only [this, or_false]
              clear hW8 hb7 y5 y6 y7 y8 y2 y2f we1 we2
              try simp only []
              by_cases hX : 0 < X
              · go_wp2
                go_roundw
                case rel =>
                  refine ⟨q + 1, va5, vc5, by go_num, by omega, ?_, ?_, HB8.out.setCell (by simp) _⟩
                  · rw [← HOF.out]
                    have h1 := HO8.out
                    rw [← List.map_take] at h1
                    exact owns_other (o := 0) h1 HR8.out (by decide)
                  · rw [HWF.out, if_pos hX, ← HSF.out]
                    have := HR8.out.set 0 (.int .i64 2)
                    simpa using this
                case measure => simp [intOf]; omega
              · go_wp2
                go_roundw
                case rel =>
                  refine ⟨q + 1, va5, vc5, by go_num, by omega, ?_, ?_, HB8.out⟩
                  · rw [← HOF.out]
                    have h1 := HO8.out
                    rw [← List.map_take] at h1
                    exact h1
                  · rw [HWF.out, if_neg hX, ← HSF.out]
                    exact HR8.out
                case measure => simp [intOf]; omega
        · have hqi : ¬ (q : Int) < (n : Int) := by omega
          have hqn : q = n := by omega
          have htk : ts.take q = ts := List.take_of_length_le (by rw [HN.out]; omega)
          rw [htk] at HO HRR
          rw [← HNE.out] at HRR
          rw [hqn] at HO HRR
          have HBW : Hid (Below w.heap.size w wr) := HBE.out.trans (HBE1.out.mono hsz)
          have HRZ := hide (HR.out.later HBE1.out hzr)
          have a0 : wr.cell? ⟨w.heap.size + 1, 0, none⟩ = some (.int .i64 0) := HRZ.out.cell 0
          have a1 : wr.cell? ⟨w.heap.size + 1, 1, none⟩ = some (.slice none 0 0) := HRZ.out.cell 1
          have a2 : wr.cell? ⟨w.heap.size + 1, 2, none⟩ = some (.int .i64 0) := HRZ.out.cell 2
          have a0f := HRZ.out.free 0
          have a1f := HRZ.out.free 1
          have a2f := HRZ.out.free 2
          have r1 : wr.cell? ⟨W1.heap.size, 1, none⟩ = some (.slice ba n bc) := HRR.out.cell 1
          have r2 : wr.cell? ⟨W1.heap.size, 2, none⟩ = some (.int .i64 nd) := HRR.out.cell 2
          have r0f := HRR.out.free 0
          have HOW := hide (owns_lower HO.out (show w.heap.size ≤ W1.heap.size + 1 by omega))
          obtain ⟨hnd0, hnd1⟩ := HND.out n
          clear htk hqn
          by_cases hany : ts.any (fun t => decide (t.due < bf t)) = true
          · have HWE : Hid (wh = 2) := by rw [Hid, HE.out, if_pos hany]
            have HRR2 := HRR; rw [if_pos hany] at HRR2
            have r0 : wr.cell? ⟨W1.heap.size, 0, none⟩ = some (.int .i64 2) := HRR2.out.cell 0
            clear hany
            repeat (first | go_values | go_skip | go_guarded | go_step | go_upon)
            have HF := ((HRZ.out.set 0 (.int .i64 2)).set 1 (.slice ba n bc)).set 2 (.int .i64 nd)
            have HF0 := HF.cell 0
            have HF1 := HF.cell 1
            have HF2 := HF.cell 2
            simp at HF0 HF1 HF2
            refine bodyPost_ret (v := .tuple #[.agg #[.int .i64 2, .slice ba n bc, .int .i64 nd], .int .i64 0]) (by simp [results, Tryz.results34, go_sem, HF0, HF1, HF2]) rfl ⟨ba, bc, by rw [HWE.out], ?_, ?_⟩
            · exact owns_other (owns_other (owns_other (HOW.out) (HRZ.out) (by decide)) (HRZ.out.set 0 _) (by decide)) ((HRZ.out.set 0 _).set 1 _) (by decide)
            · exact (((HBW.out).setCell (by simp) _).setCell (by simp) _).setCell (by simp) _
          · by_cases hroom : x2 < nd
            · have HWE : Hid (wh = 3) := by rw [Hid, HE.out, if_neg hany, if_pos hroom]
              have HRR2 := HRR
              rw [if_neg hany] at HRR2
              have r0 : wr.cell? ⟨W1.heap.size, 0, none⟩ = some (.int .i64 1) := HRR2.out.cell 0
              have HRZ3 := hide (HRZ.out.other (a := ⟨W1.heap.size, 0, none⟩) (by simp; omega) (.int .i64 3))
              have HOW3 := hide (owns_other (o := 0) (x := .int .i64 3) HOW.out HRR.out (by decide))
              have HBW3 : Hid (Below w.heap.size w (wr.setCell ⟨W1.heap.size, 0, none⟩ (.int .i64 3))) := HBW.out.setCell (by simp; omega) _
              clear hany
              repeat (first | go_values | go_skip | go_guarded | go_step | go_upon)
              have HF := ((HRZ3.out.set 0 (.int .i64 3)).set 1 (.slice ba n bc)).set 2 (.int .i64 nd)
              have HF0 := HF.cell 0
              have HF1 := HF.cell 1
              have HF2 := HF.cell 2
              simp at HF0 HF1 HF2
              refine bodyPost_ret (v := .tuple #[.agg #[.int .i64 3, .slice ba n bc, .int .i64 nd], .int .i64 0]) (by simp [results, Tryz.results34, go_sem, HF0, HF1, HF2]) rfl ⟨ba, bc, by rw [HWE.out], ?_, ?_⟩
              · exact owns_other (owns_other (owns_other (HOW3.out) (HRZ3.out) (by decide)) (HRZ3.out.set 0 _) (by decide)) ((HRZ3.out.set 0 _).set 1 _) (by decide)
              · exact (((HBW3.out).setCell (by simp) _).setCell (by simp) _).setCell (by simp) _
            · have HWE : Hid (wh = 1) := by rw [Hid, HE.out, if_neg hany, if_neg hroom]
              have HRR2 := HRR
              rw [if_neg hany] at HRR2
              have r0 : wr.cell? ⟨W1.heap.size, 0, none⟩ = some (.int .i64 1) := HRR2.out.cell 0
              clear hany
              repeat (first | go_values | go_skip | go_guarded | go_step | go_upon)
              have HF := ((HRZ.out.set 0 (.int .i64 1)).set 1 (.slice ba n bc)).set 2 (.int .i64 nd)
              have HF0 := HF.cell 0
              have HF1 := HF.cell 1
              have HF2 := HF.cell 2
              simp at HF0 HF1 HF2
              refine bodyPost_ret (v := .tuple #[.agg #[.int .i64 1, .slice ba n bc, .int .i64 nd], .int .i64 0]) (by simp [results, Tryz.results34, go_sem, HF0, HF1, HF2]) rfl ⟨ba, bc, by rw [HWE.out], ?_, ?_⟩
              · exact owns_other (owns_other (owns_other (HOW.out) (HRZ.out) (by decide)) (HRZ.out.set 0 _) (by decide)) ((HRZ.out.set 0 _).set 1 _) (by decide)
              · exact (((HBW.out).setCell (by simp) _).setCell (by simp) _).setCell (by simp) _

set_option maxRecDepth 100000 in
set_option maxHeartbeats 800000 in
theorem refCheck_no (B : Nat) (v : Value) (c : Cfg) (w : World) (hv : Cf w B v c) (hB : B ≤ w.heap.size) (hok : cfgOk c = false) :
    Calls Tryz.prog 34 #[v] w fun e w' => e = .returned (.tuple #[.agg #[.int .i64 0, .slice none 0 0, .int .i64 0], .int .i64 1]) ∧ Below w.heap.size w w' := by
  have HV := hide hv
  have hv' := hv
  obtain ⟨s, rfl, sa, scap, rfl, hs⟩ := hv'
  clear hs
  have HB0 : Hid (Below w.heap.size w ((w.alloc (.cells #[.int .i64 c.lines, .int .i64 c.room, .int .i64 c.poll, .int .i64 c.idle, .int .i64 c.sw, .slice sa c.tasks.length scap] 40)).alloc (.cells #[.int .i64 0, .slice none 0 0, .int .i64 0] 86))) := ((Below.refl _ _).alloc (Nat.le_refl _) _).alloc (by simp) _
  have HR0 : Hid (Blk ((w.alloc (.cells #[.int .i64 c.lines, .int .i64 c.room, .int .i64 c.poll, .int .i64 c.idle, .int .i64 c.sw, .slice sa c.tasks.length scap] 40)).alloc (.cells #[.int .i64 0, .slice none 0 0, .int .i64 0] 86)) (w.heap.size + 1) #[.int .i64 0, .slice none 0 0, .int .i64 0] 86) := by
    have := Blk.new (w.alloc (.cells #[.int .i64 c.lines, .int .i64 c.room, .int .i64 c.poll, .int .i64 c.idle, .int .i64 c.sw, .slice sa c.tasks.length scap] 40)) #[.int .i64 0, .slice none 0 0, .int .i64 0] 86
    simpa [Hid] using this
  clear hv
  go_enter Tryz.func34, Tryz.ntmps34
  go_wp2_with fail
  refine (refFits_any _ B c _ (HV.out.later HB0.out hB) (by simp; omega)).mono ?_
  rintro e w1 ⟨rfl, q1⟩
  have hz1 := q1.size
  simp only [World.size_alloc] at hz1
  have HB1 : Hid (Below w.heap.size w w1) := HB0.out.trans (q1.mono (by simp; omega))
  have HR1 := hide (HR0.out.later q1 (by simp))
  clear q1
  rw [hok]
  have a0 : w1.cell? ⟨w.heap.size + 1, 0, none⟩ = some (.int .i64 0) := HR1.out.cell 0
  have a0f := HR1.out.free 0
  have a1 : w1.cell? ⟨w.heap.size + 1, 1, none⟩ = some (.slice none 0 0) := HR1.out.cell 1
  have a1f := HR1.out.free 1
  have a2 : w1.cell? ⟨w.heap.size + 1, 2, none⟩ = some (.int .i64 0) := HR1.out.cell 2
  have a2f := HR1.out.free 2
  simp only []
  repeat (first | go_values | go_skip | go_guarded | go_step | go_upon)
  have HF := ((HR1.out.set 0 (.int .i64 0)).set 1 (.slice none 0 0)).set 2 (.int .i64 0)
  have HF0 := HF.cell 0
  have HF1 := HF.cell 1
  have HF2 := HF.cell 2
  simp at HF0 HF1 HF2
  exact bodyPost_ret (v := .tuple #[.agg #[.int .i64 0, .slice none 0 0, .int .i64 0], .int .i64 1]) (by simp [results, Tryz.results34, go_sem, HF0, HF1, HF2]) rfl ⟨rfl, ((HB1.out.setCell (by simp) _).setCell (by simp) _).setCell (by simp) _⟩

theorem refCheck_any (B : Nat) (v : Value) (c : Cfg) (w : World) (hv : Cf w B v c) (hB : B ≤ w.heap.size) :
    Calls Tryz.prog 34 #[v] w fun e w' => ∃ a cap, e = .returned (.tuple #[.agg #[.int .i64 (ckWhat c), .slice a (ckBounds c).length cap, .int .i64 (ckNeed c)], .int .i64 (ckErr c)]) ∧ w'.ownsRow w.heap.size 3 1 (.slice a (ckBounds c).length cap) (ckBounds c).length (intsV (ckBounds c)) ∧ Below w.heap.size w w' := by
  cases hok : cfgOk c with
  | true =>
    refine (refCheck_yes B v c w hv hB hok).mono ?_
    rintro e w' ⟨a, cap, rfl, ho, hq⟩
    refine ⟨a, cap, by simp [ckWhat, ckBounds, ckNeed, ckErr, hok], ?_, hq⟩
    simpa [ckBounds, hok] using ho
  | false =>
    refine (refCheck_no B v c w hv hB hok).mono ?_
    rintro e w' ⟨rfl, hq⟩
    refine ⟨none, 0, by simp [ckWhat, ckBounds, ckNeed, ckErr, hok], ?_, hq⟩
    simpa [ckBounds, hok, intsV] using World.ownsRow_nil w' w.heap.size 3 1

end Go.Proofs.YthloffgebebijaaGreat
