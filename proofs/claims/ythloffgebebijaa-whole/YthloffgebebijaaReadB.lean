/- ReadB: the walks of package config's reader: a task, a configuration. -/
import Derived.Test.YthloffgebebijaaRead
import Derived.Deep.RegionWith
import Derived.Deep.DeepMust
namespace Go.Proofs.Ythloffgebebijaa
open Go.RowKit

theorem info_limit : (Try.prog.info? 74).map (fun i => (i.zero, i.size, i.bytes)) = some (some (.agg #[.int .i64 0, .int .i64 0]), 2, 16) := by kernel_rfl
theorem info_task : (Try.prog.info? 61).map (fun i => (i.zero, i.size, i.bytes)) = some (some (.agg #[.int .i64 0, .int .i64 0, .slice none 0 0]), 3, 40) := by kernel_rfl

theorem Rdr.frame {w w' : World} {R B : Nat} {s : List Int × Bool} (h : Rdr w R B s) (hf : ∀ k, k = R ∨ k < B → w'.heap[k]? = w.heap[k]?) : Rdr w' R B s := by
  obtain ⟨v, hb, a, cap, hv, hle, hr⟩ := h
  refine ⟨v, (hf R (.inl rfl)).trans hb, a, cap, hv, hle, hr.imp id ?_⟩
  rintro ⟨b, o, ha, hlt, hc⟩
  exact ⟨b, o, ha, hlt, fun i x hi => (World.cell?_of_block (hf b (.inr hlt))).trans (hc i x hi)⟩
theorem Rdr.lt {w : World} {R B : Nat} {s : List Int × Bool} (h : Rdr w R B s) : R < w.heap.size := by
  obtain ⟨v, hb, _⟩ := h
  exact hb.lt
theorem Rdr.drew {w : World} {R B : Nat} {s : List Int × Bool} (h : Rdr w R B s) : Rdr w.drew R B s := h.frame fun _ _ => rfl
theorem Rdr.alloc {w : World} {R B : Nat} {s : List Int × Bool} (h : Rdr w R B s) (hB : B ≤ R) (o : Obj) : Rdr (w.alloc o) R B s :=
  h.frame fun k hk => Below.heap_alloc w o k (by have := h.lt; omega)
theorem Rdr.other {w : World} {R B : Nat} {s : List Int × Bool} (h : Rdr w R B s) {a : Addr} (h1 : a.block ≠ R) (h2 : B ≤ a.block) (v : Value) : Rdr (w.setCell a v) R B s :=
  h.frame fun k hk => heap_setCell_other w a k v (by omega)

theorem own_blk {w : World} {base : Nat} {e : TypeId} {size g n : Nat} {xs : List Value} (h : w.ownsRow base e size (.slice (some ⟨g, 0, none⟩) n n) n xs) : Blk w g xs.toArray e ∧ base ≤ g := by
  obtain ⟨h1, h2⟩ := h
  rcases h2 with ⟨h2, _⟩ | ⟨g', cap, cur, hv, hg, hh, _, _, hs, ht⟩
  · simp at h2
  · simp at hv
    obtain ⟨rfl, rfl⟩ := hv
    have : cur.toList = xs := by rw [← ht, List.take_of_length_le (by simp [hs])]
    subst this
    exact ⟨hh, hg⟩

def flat2 (ls : List (Int × Int)) : List Value := ls.flatMap fun l => [.int .i64 l.1, .int .i64 l.2]
theorem flat2_length (ls : List (Int × Int)) : (flat2 ls).length = 2 * ls.length := by
  induction ls with
  | nil => rfl
  | cons l r ih => simp [flat2] at ih ⊢; omega
theorem flat2_get (ls : List (Int × Int)) (i : Nat) (l : Int × Int) (h : ls[i]? = some l) : (flat2 ls)[2 * i]? = some (.int .i64 l.1) ∧ (flat2 ls)[2 * i + 1]? = some (.int .i64 l.2) := by
  induction ls generalizing i with
  | nil => simp at h
  | cons x r ih =>
    cases i with
    | zero => simp at h; subst h; simp [flat2]
    | succ i =>
      have := ih i (by simpa using h)
      have e : 2 * (i + 1) = 2 * i + 2 := by omega
      rw [e]
      simpa [flat2] using this
theorem flat2_set (ls : List (Int × Int)) (i : Nat) (l : Int × Int) : flat2 (ls.set i l) = ((flat2 ls).set (2 * i) (.int .i64 l.1)).set (2 * i + 1) (.int .i64 l.2) := by
  induction ls generalizing i with
  | nil => simp [flat2]
  | cons x r ih =>
    cases i with
    | zero => simp [flat2]
    | succ i =>
      have := ih i
      have e : 2 * (i + 1) = 2 * i + 1 + 1 := by omega
      rw [e]
      simpa [flat2] using this
theorem made2 (n : Nat) : (madeCells #[.int .i64 0, .int .i64 0] (n * 2)).toList = flat2 (List.replicate n (0, 0)) := by
  induction n with
  | zero => simp [madeCells, flat2]
  | succ n ih =>
    simp only [madeCells, Array.toList_map, Array.toList_range] at ih ⊢
    have e : (n + 1) * 2 = n * 2 + 1 + 1 := by omega
    rw [e, List.range_succ, List.range_succ, List.map_append, List.map_append, ih, List.replicate_succ']
    have e1 : n * 2 % 2 = 0 := by omega
    have e2 : (n * 2 + 1) % 2 = 1 := by omega
    simp [flat2, e1, e2]

/-- A store into a block that was not there at the start. -/
theorem grown_own {w0 w : World} {r : Option Nat} (h : w0.grownBy w r) {b o : Nat} (hb : w0.heap.size ≤ b) (v : Value) : w0.grownBy (w.setCell ⟨b, o, none⟩ v) r :=
  ⟨h.os, h.tape, h.output, by simpa using h.size, fun k hk hr => (heap_setCell_other w _ k v (by simp; omega)).trans (h.block k hk hr)⟩
theorem grown_alloc {w0 w : World} {r : Option Nat} (h : w0.grownBy w r) (o : Obj) : w0.grownBy (w.alloc o) r :=
  ⟨h.os, h.tape, h.output, Nat.le_trans h.size (by simp), fun k hk hr => (Below.heap_alloc w o k (Nat.lt_of_lt_of_le hk h.size)).trans (h.block k hk hr)⟩
theorem grown_refl (w : World) (r : Option Nat) : w.grownBy w r := ⟨rfl, rfl, rfl, Nat.le_refl _, fun _ _ _ => rfl⟩
theorem grown_drew {w0 w : World} {r : Option Nat} (h : w0.grownBy w r) : w0.grownBy w.drew r := ⟨h.os, h.tape, h.output, h.size, h.block⟩

theorem grown_none {w w' : World} (h : w.grownBy w' none) (R : Nat) : w.grownBy w' (some R) := ⟨h.os, h.tape, h.output, h.size, fun k hk _ => h.block k hk (by simp)⟩

theorem set_past {c : Array Value} {k : Nat} {x y : Value} (h : c[k + 1]? = some x) : (c.setIfInBounds k y)[k + 1]? = some x := by
  rw [Array.getElem?_setIfInBounds_ne (by omega)]; exact h

def limsRd : Nat → List Int × Bool → List (Int × Int) × (List Int × Bool)
  | 0, s => ([], s)
  | n + 1, s => (((two s).1, (one (two s).2).1) :: (limsRd n (one (two s).2).2).1, (limsRd n (one (two s).2).2).2)

def taskRd (s : List Int × Bool) : Tk × (List Int × Bool) :=
  (⟨(one s).1, (two (one s).2).1, (limsRd (lenOf 3 (two (one s).2).2).1.toNat (lenOf 3 (two (one s).2).2).2).1⟩, (limsRd (lenOf 3 (two (one s).2).2).1.toNat (lenOf 3 (two (one s).2).2).2).2)

theorem two_allB {s : List Int × Bool} (h : AllB s.1) : AllB (two s).2.1 := one_allB (one_allB h)
theorem two_len (s : List Int × Bool) : (two s).2.1.length ≤ s.1.length := Nat.le_trans (one_len _) (one_len _)
theorem two_val {s : List Int × Bool} (h : AllB s.1) : 0 ≤ (two s).1 ∧ (two s).1 < 65536 := by
  have := one_val h
  have := one_val (one_allB h)
  simp only [two]; omega
theorem lenOf_allB {m : Int} {s : List Int × Bool} (h : AllB s.1) : AllB (lenOf m s).2.1 := by
  unfold lenOf; split
  · exact one_allB h
  · exact one_allB h
theorem lenOf_len (m : Int) (s : List Int × Bool) : (lenOf m s).2.1.length ≤ s.1.length := by
  unfold lenOf; split
  · exact one_len s
  · exact one_len s
theorem lenOf_val {m : Int} (hm : 0 ≤ m) {s : List Int × Bool} (h : AllB s.1) : 0 ≤ (lenOf m s).1 ∧ (lenOf m s).1 ≤ m := by
  have := one_val h
  unfold lenOf; split
  · simp; omega
  · omega

/-- Limits of the call's own: a row of its own from block 'base' on. -/
def OwnLims (w : World) (base : Nat) (v : Value) (ls : List (Int × Int)) : Prop := ∃ g, v = .slice (some ⟨g, 0, none⟩) ls.length ls.length ∧ base ≤ g ∧ Blk w g (flat2 ls).toArray 74

set_option maxRecDepth 100000 in
set_option maxHeartbeats 800000 in
theorem task_any (R B : Nat) (s : List Int × Bool) (w : World) (h : Rdr w R B s) (hB : B ≤ R) (hb : AllB s.1) (hlen : s.1.length ≤ 140737488355328) :
    Calls Try.prog 51 #[.pointer (some ⟨R, 0, none⟩)] w fun e w' => ∃ v, e = .returned (.agg #[.int .i64 (taskRd s).1.cost, .int .i64 (taskRd s).1.due, v]) ∧ OwnLims w' w.heap.size v (taskRd s).1.lims ∧ Rdr w' R B (taskRd s).2 ∧ w.grownBy w' (some R) := by
  have hR := h.lt
  have hb1 := one_allB hb
  have hl1 := one_len s
  have hb2 := two_allB hb1
  have hl2 := two_len (one s).2
  have hb3 := lenOf_allB (m := 3) hb2
  have hl3 := lenOf_len 3 (two (one s).2).2
  have hv3 := lenOf_val (m := 3) (by decide) hb2
  have H1 := hide (fun w' h' => one_any R B s w' h' hB hb hlen)
  have H2 := hide (fun w' h' => two_any R B _ w' h' hB hb1 (by omega))
  have H3 := hide (fun w' h' => length_any R B _ 3 w' h' hB hb2 (by omega))
  have HB3 := hide hb3
  have HT : Hid (taskRd s = (⟨(one s).1, (two (one s).2).1, (limsRd (lenOf 3 (two (one s).2).2).1.toNat (lenOf 3 (two (one s).2).2).2).1⟩, (limsRd (lenOf 3 (two (one s).2).2).1.toNat (lenOf 3 (two (one s).2).2).2).2)) := rfl
  generalize hp : one s = p at *
  generalize hq : two p.2 = q at *
  generalize hr : lenOf 3 q.2 = r at *
  have HH := hide h
  clear hp hq hr hb hb1 hb2 hb3 h
  obtain ⟨n, hn⟩ : ∃ n : Nat, r.1 = n := ⟨r.1.toNat, by omega⟩
  rw [hn] at hv3 HT H3
  simp only [Int.toNat_natCast] at HT
  clear hn
  obtain ⟨hv3, hv3'⟩ := hv3
  have hn3 : n ≤ 3 := by omega
  go_enter Try.func51, Try.ntmps51
  go_wp2_with fail
  refine (H1.out _ ((HH.out.alloc hB _).alloc hB _)).mono ?_
  rintro e w1 ⟨rfl, r1, g1⟩
  have A1 := (((Blk.new w #[.int .i64 0, .int .i64 0, .slice none 0 0] 61)).alloc (.cells #[.int .i64 0, .int .i64 0, .slice none 0 0] 61)).grown g1 (by omega)
  have T1 : Blk w1 (w.heap.size + 1) #[.int .i64 0, .int .i64 0, .slice none 0 0] 61 := by
    have := (Blk.new (w.alloc (.cells #[.int .i64 0, .int .i64 0, .slice none 0 0] 61)) #[.int .i64 0, .int .i64 0, .slice none 0 0] 61).grown g1 (by simp; omega)
    simpa using this
  have HG1 : Hid (w.grownBy w1 (some R)) := grown_trans (grown_alloc (grown_alloc (grown_refl w _) _) _) g1
  have c0 : w1.cell? ⟨w.heap.size + 1, 0, none⟩ = some (.int .i64 0) := T1.cell 0
  have f0 := T1.free 0
  have HR1 := hide r1
  have HA1 := hide A1
  have HT1 := hide T1
  have hz1 := T1.lt
  clear g1 r1 A1 T1
  go_wp2_with fail
  refine (H2.out _ (HR1.out.other (by simp; omega) (by simp; omega) _)).mono ?_
  rintro e w2 ⟨rfl, r2, g2⟩
  have A2 := (HA1.out.other (a := ⟨w.heap.size + 1, 0, none⟩) (by simp) (.int .i64 p.1)).grown g2 (by omega)
  have T2 := (HT1.out.set 0 (.int .i64 p.1)).grown g2 (by omega)
  have HG2 := hide (grown_trans (grown_own HG1.out (b := w.heap.size + 1) (o := 0) (by omega) (.int .i64 p.1)) g2)
  have T2' : Blk w2 (w.heap.size + 1) #[.int .i64 p.1, .int .i64 0, .slice none 0 0] 61 := T2
  have c1 : w2.cell? ⟨w.heap.size + 1, 1, none⟩ = some (.int .i64 0) := T2'.cell 1
  have f1 := T2'.free 1
  have HR2 := hide r2
  have HA2 := hide A2
  have HT2 := hide T2'
  have hz2 := T2'.lt
  clear g2 r2 A2 T2 T2' HR1 HA1 HT1 HG1 c0 f0 hz1
  go_wp2_with fail
  refine (H3.out _ (HR2.out.other (by simp; omega) (by simp; omega) _)).mono ?_
  rintro e w3 ⟨rfl, r3, g3⟩
  have A3 := (HA2.out.other (a := ⟨w.heap.size + 1, 1, none⟩) (by simp) (.int .i64 q.1)).grown g3 (by omega)
  have T3 : Blk w3 (w.heap.size + 1) #[.int .i64 p.1, .int .i64 q.1, .slice none 0 0] 61 := (HT2.out.set 1 (.int .i64 q.1)).grown g3 (by omega)
  have HG3 := hide (grown_trans (grown_own HG2.out (b := w.heap.size + 1) (o := 1) (by omega) (.int .i64 q.1)) g3)
  have HR3 := hide r3
  have HA3 := hide A3
  have HT3 := hide T3
  have hz3 := T3.lt
  clear g3 r3 A3 T3 HR2 HA2 HT2 HG2 c1 f1 hz2
  obtain ⟨i0, hi, hz0, hzs, hzb⟩ := info_parts info_limit
  have HI := hide (And.intro hi (And.intro hz0 (And.intro hzs hzb)))
  clear hi hz0 hzs hzb
  go_wp2_with (at_make; go_must (refine wpList_make_full _ rfl _ _ 59 rfl w.heap.size 74 i0 _ 2 Try.underlying59 HI.out.1 HI.out.2.1 HI.out.2.2.1 .i64 .i64 _ _ n rfl rfl rfl rfl ?_ ?_ ?_ ?_))
  · rw [HI.out.2.2.2]; omega
  · unfold maxLen; omega
  · omega
  intro w4 o4 g4'
  have g4 := grown_none g4' R
  obtain ⟨L4, hL⟩ := own_blk o4
  have e4 := made2 n
  rw [e4] at L4
  have A4 := HA3.out.grown g4 (by omega)
  have T4 := HT3.out.grown g4 (by omega)
  have HR4 : Hid (Rdr w4 R B r.2) := HR3.out.frame fun k hk => g4'.block k (by omega) (by simp)
  have HG4 := hide (grown_trans HG3.out g4)
  have c2 : w4.cell? ⟨w.heap.size + 1, 2, none⟩ = some (.slice none 0 0) := T4.cell 2
  have f2 := T4.free 2
  have HL4 := hide L4
  have HA4 := hide A4
  have HT4 := hide T4
  have hz4 := L4.lt
  have hz4' := T4.lt
  generalize hLB : w3.heap.size = L at *
  clear hLB o4 g4 g4' L4 e4 A4 T4 HA3 HT3 HR3 HG3 HI
  go_wp2_with fail
  go_loopw [18] (fun i wr => ∃ (k m : Nat) (st : List Int × Bool) (done : List (Int × Int)), i = .int .i64 k ∧ k + m = n ∧ done.length = k ∧ Rdr wr R B st ∧ limsRd n r.2 = (done ++ (limsRd m st).1, (limsRd m st).2) ∧ AllB st.1 ∧ st.1.length ≤ 140737488355328 ∧
      Blk wr L (flat2 (done ++ List.replicate m (0, 0))).toArray 74 ∧ Blk wr (w.heap.size + 1) #[.int .i64 p.1, .int .i64 q.1, .slice (some ⟨L, 0, none⟩) n n] 61 ∧ Blk wr w.heap.size #[.int .i64 0, .int .i64 0, .slice none 0 0] 61 ∧ w.grownBy wr (some R)) (fun i _ => n - (intOf i).toNat)
  case atStart => exact ⟨0, n, r.2, [], rfl, by omega, rfl, HR4.out.other (by simp; omega) (by simp; omega) _, by simp, HB3.out, by omega, HL4.out.other (by simp; omega) _, HT4.out.set 2 _, HA4.out.other (by simp) _, grown_own HG4.out (by omega) _⟩
  case round =>
    obtain ⟨k, m, st, done, rfl, hkm, hdl, hr, he, hb, hl, hL2, hT2, hA2, hg⟩ := hrel
    have HR := hide hr
    have HE := hide he
    have HB := hide hb
    have HDL := hide hdl
    have HL := hide hL2
    have HTT := hide hT2
    have HA := hide hA2
    have HG := hide hg
    have HKM := hide hkm
    have hkn : k ≤ n := by omega
    clear hr he hb hL2 hT2 hA2 hg hkm hdl
    cases m with
    | succ m =>
      have hlt : k < n := by have := HKM.out; omega
      have H5 := hide (fun w' h' => two_any R B st w' h' hB HB.out hl)
      have H6 := hide (fun w' h' => one_any R B _ w' h' hB (two_allB HB.out) (Nat.le_trans (two_len st) hl))
      have HE2 : Hid (limsRd (m + 1) st = (((two st).1, (one (two st).2).1) :: (limsRd m (one (two st).2).2).1, (limsRd m (one (two st).2).2).2)) := rfl
      have HB5 := hide (one_allB (two_allB HB.out))
      have HL5 := hide (Nat.le_trans (one_len _) (Nat.le_trans (two_len st) hl))
      generalize hu : two st = u at *
      generalize hv : one u.2 = v at *
      clear hu hv
      have tc2 : wr.cell? ⟨w.heap.size + 1, 2, none⟩ = some (.slice (some ⟨L, 0, none⟩) n n) := HTT.out.cell 2
      have HLR : Hid (L ≠ R) := by show L ≠ R; omega
      go_wp2_with fail
      have HX : Hid ((flat2 (done ++ List.replicate (m + 1) (0, 0))).toArray[k * 2]? = some (.int .i64 0) ∧ (flat2 (done ++ List.replicate (m + 1) (0, 0))).toArray[k * 2 + 1]? = some (.int .i64 0)) := by
        have := flat2_get (done ++ List.replicate (m + 1) (0, 0)) k (0, 0) (by rw [List.getElem?_append_right (by rw [HDL.out]; omega), HDL.out]; simp)
        rw [Nat.mul_comm k 2]
        simpa [Hid] using this
      go_region_with (go_at_call 65; refine (H5.out wr.drew HR.out.drew).mono ?_; rintro e w5 ⟨rfl, r5, g5⟩; have tc5 : w5.cell? ⟨w.heap.size + 1, 2, none⟩ = some (.slice (some ⟨L, 0, none⟩) n n) := (HTT.out.drew.grown g5 (by omega)).cell 2; have lc5 : w5.cell? ⟨L, k * 2, none⟩ = some (.int .i64 0) := ((HL.out.drew.grown g5 HLR.out).cell _).trans HX.out.1; have lf5 := (HL.out.drew.grown g5 HLR.out).free (k * 2); have HR5 := hide r5; have HG5 := hide g5; clear r5 g5)
      all_goals
        have HL6 := hide ((HL.out.drew.grown HG5.out HLR.out).set (k * 2) (.int .i64 u.1))
        have HT6 := hide ((HTT.out.drew.grown HG5.out (by omega)).other (a := ⟨L, k * 2, none⟩) (by simp; omega) (.int .i64 u.1))
        have HA6 := hide ((HA.out.drew.grown HG5.out (by omega)).other (a := ⟨L, k * 2, none⟩) (by simp; omega) (.int .i64 u.1))
        have HG6 := hide (grown_own (grown_trans (grown_drew HG.out) HG5.out) (b := L) (o := k * 2) hL (.int .i64 u.1))
        have HR6 := hide (HR5.out.other (a := ⟨L, k * 2, none⟩) HLR.out (by simp; omega) (.int .i64 u.1))
        have hk2 : (k * 2 == k * 2 + 1) = false := by simp
        clear lc5 lf5 tc5 tc2 HR5 HG5
        generalize hW : w5.setCell ⟨L, k * 2, none⟩ (.int .i64 u.1) = W6 at *
        have tc6 : W6.cell? ⟨w.heap.size + 1, 2, none⟩ = some (.slice (some ⟨L, 0, none⟩) n n) := HT6.out.cell 2
        clear hW
        go_wp2_with fail
        go_region_with (go_at_call 49; refine (H6.out W6.drew HR6.out.drew).mono ?_; rintro e w7 ⟨rfl, r7, g7⟩; have tc7 : w7.cell? ⟨w.heap.size + 1, 2, none⟩ = some (.slice (some ⟨L, 0, none⟩) n n) := (HT6.out.drew.grown g7 (by omega)).cell 2; have lc7 : w7.cell? ⟨L, k * 2 + 1, none⟩ = some (.int .i64 0) := ((HL6.out.drew.grown g7 HLR.out).cell _).trans (set_past HX.out.2); have lf7 := (HL6.out.drew.grown g7 HLR.out).free (k * 2 + 1); have HR7 := hide r7; have HG7 := hide g7; clear r7 g7)
        all_goals
          have HL8 := hide ((HL6.out.drew.grown HG7.out HLR.out).set (k * 2 + 1) (.int .i64 v.1))
          have HT8 := hide ((HT6.out.drew.grown HG7.out (by omega)).other (a := ⟨L, k * 2 + 1, none⟩) (by simp; omega) (.int .i64 v.1))
          have HA8 := hide ((HA6.out.drew.grown HG7.out (by omega)).other (a := ⟨L, k * 2 + 1, none⟩) (by simp; omega) (.int .i64 v.1))
          have HG8 := hide (grown_own (grown_trans (grown_drew HG6.out) HG7.out) (b := L) (o := k * 2 + 1) hL (.int .i64 v.1))
          have HR8 := hide (HR7.out.other (a := ⟨L, k * 2 + 1, none⟩) HLR.out (by simp; omega) (.int .i64 v.1))
          clear lc7 lf7 tc7 tc6 HR7 HG7
          generalize hW : w7.setCell ⟨L, k * 2 + 1, none⟩ (.int .i64 v.1) = W8 at *
          clear hW
          go_wp2
          go_roundw
          case rel =>
            refine ⟨k + 1, m, v.2, done ++ [(u.1, v.1)], by go_num, by have := HKM.out; omega, by simp [HDL.out], HR8.out, ?_, HB5.out, HL5.out, ?_, HT8.out, HA8.out, HG8.out⟩
            · rw [HE.out, HE2.out]; simp
            · have e1 : done ++ [(u.1, v.1)] ++ List.replicate m (0, 0) = (done ++ List.replicate (m + 1) (0, 0)).set k (u.1, v.1) := by
                rw [List.set_append_right _ _ (by rw [HDL.out]; omega), HDL.out]; simp [List.replicate_succ]
              rw [e1, flat2_set]
              have := HL8.out
              rw [Nat.mul_comm 2 k]
              simpa using this
          case measure => simp [intOf]; have := HKM.out; omega
    | zero =>
      have hlt : ¬ k < n := by have := HKM.out; omega
      have tc0 : wr.cell? ⟨w.heap.size + 1, 0, none⟩ = some (.int .i64 p.1) := HTT.out.cell 0
      have tc1 : wr.cell? ⟨w.heap.size + 1, 1, none⟩ = some (.int .i64 q.1) := HTT.out.cell 1
      have tc2 : wr.cell? ⟨w.heap.size + 1, 2, none⟩ = some (.slice (some ⟨L, 0, none⟩) n n) := HTT.out.cell 2
      have ac0 : wr.cell? ⟨w.heap.size, 0, none⟩ = some (.int .i64 0) := HA.out.cell 0
      have ac1 : wr.cell? ⟨w.heap.size, 1, none⟩ = some (.int .i64 0) := HA.out.cell 1
      have ac2 : wr.cell? ⟨w.heap.size, 2, none⟩ = some (.slice none 0 0) := HA.out.cell 2
      have af0 := HA.out.free 0
      have af1 := HA.out.free 1
      have af2 := HA.out.free 2
      go_wp2
      have HF := ((HA.out.set 0 (.int .i64 p.1)).set 1 (.int .i64 q.1)).set 2 (.slice (some ⟨L, 0, none⟩) n n)
      have HF0 := HF.cell 0
      have HF1 := HF.cell 1
      have HF2 := HF.cell 2
      simp at HF0 HF1 HF2
      have hdn : done.length = n := by have := HKM.out; have := HDL.out; omega
      refine bodyPost_ret (v := .agg #[.int .i64 p.1, .int .i64 q.1, .slice (some ⟨L, 0, none⟩) n n]) (by simp [results, Try.results51, go_sem, HF0, HF1, HF2]) rfl ⟨_, by rw [HT.out], ?_, ?_, ?_⟩
      · rw [HT.out, HE.out]
        refine ⟨L, by simp [limsRd, hdn], by omega, ?_⟩
        have := HL.out
        simp only [List.replicate_zero, limsRd, List.append_nil] at this ⊢
        exact ((this.other (by simp; omega) _).other (by simp; omega) _).other (by simp; omega) _
      · rw [HT.out, HE.out]
        exact ((HR.out.other (by simp; omega) (by simp; omega) _).other (by simp; omega) (by simp; omega) _).other (by simp; omega) (by simp; omega) _
      · exact grown_own (grown_own (grown_own HG.out (Nat.le_refl _) _) (Nat.le_refl _) _) (Nat.le_refl _) _

end Go.Proofs.Ythloffgebebijaa
