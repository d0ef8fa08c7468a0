/- BytesA: the walks of package config's appends and of its sum. -/
import Derived.Test.YthloffgebebijaaGreatRows
import Derived.Test.YthloffgebebijaaGreatData
import Derived.Test.YthloffgebebijaaGreatOwn
import Derived.Deep.DeepMust
namespace Go.Proofs.YthloffgebebijaaGreat
open Go.RowKit

theorem info_u8 : (Tryz.prog.info? 5).map (fun i => (i.zero, i.size, i.bytes)) = some (some (.int .u8 0), 1, 1) := by kernel_rfl

/-- The cells of a block of bytes that was just laid. -/
theorem new_cells (w : World) (xs : List Value) (t : TypeId) (g : Nat) (hg : g = w.heap.size) : ∀ j u, xs[j]? = some u → (w.alloc (.cells xs.toArray t)).cell? ((⟨g, 0, none⟩ : Addr).add j) = some u := by
  subst hg
  intro j u hj
  by_cases h0 : j = 0
  · subst h0; simp [Addr.add, hj]
  · simp [Addr.add, h0, hj]
theorem u8_one (bs : List Int) : ∀ u ∈ bs.map (Value.int .u8), u.oneCell' = true := ints_oneCell _ _

set_option maxRecDepth 100000 in
set_option maxHeartbeats 400000 in
theorem appendTwo_any (base : Nat) (v : Value) (bs : List Int) (n : Int) (w : World) (hown : Own8 w base 5 v bs) (hbase : base ≤ w.heap.size) (h0 : 0 ≤ n) (h1 : n < 65536) (hlen : bs.length ≤ 100000) :
    Calls Tryz.prog 95 #[v, .int .i64 n] w fun e w' => ∃ v', e = .returned v' ∧ Own8 w' base 5 v' (bs ++ [n / 256, n % 256]) ∧ KeepBut 5 base w w' := by
  obtain ⟨i0, hi, hz0, hz1, hz2⟩ := info_parts info_u8
  have HI := hide (And.intro hi (And.intro hz0 (And.intro hz1 hz2))); clear hi hz0 hz1 hz2
  go_enter Tryz.func95, Tryz.ntmps95
  go_wp2_with (at_builtin; refine wpList_append_own _ rfl _ _ 57 rfl base 5 i0 (.int .u8 0) 1 1 Tryz.underlying57 HI.out.1 HI.out.2.1 HI.out.2.2.1 HI.out.2.2.2 rfl (by decide) _ _ _ rfl (World.ownsRow.alloc hown _) ⟨w.heap.size, 0, none⟩ 2 2 ([n / 256, n % 256].map (Value.int .u8)) rfl rfl ?_ ?_ ?_ ?_ ?_ ?_)
  · exact new_cells w _ _ _ rfl
  · exact u8_one _
  · unfold maxLen; omega
  · omega
  · simp; omega
  · intro v' w1 ho hg _
    have K : KeepBut 5 base w w1 := (KeepBut.new w _).trans (.grown hg (World.ownsRow.alloc hown _) (Nat.le_refl _))
    have O : Own8 w1 base 5 v' (bs ++ [n / 256, n % 256]) := Own8.app ho (by simp) (by simp)
    clear ho hg hown
    go_wp2
    go_ret
    exact ⟨v', rfl, O, K⟩
/-- 'append(b, ..)' onto a row of bytes of the call's own. -/
theorem wpList_app8 {w : World} {ops : Array Oper} {rest : List Oper} {o : Oper} {a : Act} {Q : Exit → Act → World → Prop} (hgd : o.guard = none) (s x : Operand)
    (ho : o.op = .call { callee := .builtin .append, args := #[s, x], argTypes := #[57, 57] }) (base : Nat) (v : Value) (bs cs : List Int) (hs : a.eval s = v)
    (hown : Own8 w base 5 v bs) (ad : Addr) (m c : Nat) (hx : a.eval x = .slice (some ad) m c) (hm : m = cs.length) (hnews : ∀ j u, (cs.map (Value.int .u8))[j]? = some u → w.cell? (ad.add j) = some u)
    (hlen : bs.length + cs.length ≤ 140737488355328) (hbase : base ≤ w.heap.size)
    (h : ∀ v' w', Own8 w' base 5 v' (bs ++ cs) → KeepBut 5 base w w' → wpList Tryz.prog ops Q rest (a.put o.dst v') w') : wpList Tryz.prog ops Q (o :: rest) a w := by
  obtain ⟨i0, hi, hz0, hz1, hz2⟩ := info_parts info_u8
  refine wpList_append_own _ hgd s x 57 ho base 5 i0 (.int .u8 0) 1 1 Tryz.underlying57 hi hz0 hz1 hz2 rfl (by decide) _ _ _ hs hown ad m c (cs.map (Value.int .u8)) hx (by simp [hm]) hnews (u8_one _) (by unfold maxLen; omega) (by omega) hbase ?_
  intro v' w1 ho1 hg _
  exact h v' w1 (Own8.app ho1 (by simp [hm]) rfl) (.grown hg hown (Nat.le_refl _))

def limBytes (ls : List (Int × Int)) : List Int := ls.flatMap fun l => [l.1 / 256, l.1 % 256, l.2]
def taskBytes (t : Tk) : List Int := [t.cost, t.due / 256, t.due % 256, t.lims.length] ++ limBytes t.lims

theorem limBytes_snoc (ls : List (Int × Int)) (l : Int × Int) : limBytes (ls ++ [l]) = limBytes ls ++ [l.1 / 256, l.1 % 256] ++ [l.2] := by simp [limBytes, List.flatMap_append]
theorem limBytes_length (ls : List (Int × Int)) : (limBytes ls).length = 3 * ls.length := by
  induction ls with
  | nil => rfl
  | cons l r ih => simp [limBytes] at ih ⊢; omega

/-- Limits that are in order have their bounds. -/
theorem vl_bounds {a : Int × Int} {ls : List (Int × Int)} (h : vl a ls = true) (h0 : 0 ≤ a.1) (h1 : 0 ≤ a.2) : ∀ l ∈ ls, 1 ≤ l.1 ∧ l.1 ≤ 500 ∧ 1 ≤ l.2 ∧ l.2 ≤ 20 := by
  induction ls generalizing a with
  | nil => intro l hl; cases hl
  | cons x r ih =>
    simp only [vl, Bool.and_eq_true, decide_eq_true_eq] at h
    intro l hl
    rcases List.mem_cons.1 hl with rfl | hl
    · omega
    · exact ih h.2.2 (by omega) (by omega) l hl

set_option maxRecDepth 100000 in
set_option maxHeartbeats 800000 in
theorem appendTask_any (base B : Nat) (v tv : Value) (bs : List Int) (t : Tk) (w : World) (hown : Own8 w base 5 v bs) (hbase : base ≤ w.heap.size) (hB : B ≤ base) (ht : Task1 w B tv t) (hok : taskOk t = true) (hlen : bs.length ≤ 10000) :
    Calls Tryz.prog 78 #[v, tv] w fun e w' => ∃ v', e = .returned v' ∧ Own8 w' base 5 v' (bs ++ taskBytes t) ∧ KeepBut 5 base w w' := by
  obtain ⟨s, rfl, hs⟩ := ht
  obtain ⟨cost, due, ls⟩ := t
  simp only [taskOk, limsOk, Bool.and_eq_true, decide_eq_true_eq] at hok
  obtain ⟨⟨k1, k2⟩, ⟨k3, k4⟩, ⟨k5, k6⟩, k7⟩ := hok
  simp only at hs k1 k2 k3 k4 k5 k6 k7
  have HV := hide (vl_bounds k7 (by decide) (by decide))
  clear k7
  obtain ⟨sa, scap, rfl, hs⟩ := hs
  rcases hs with rfl | ⟨sb, so, rfl, hsb, hc⟩
  · simp at k5
  have HC := hide hc
  clear hc
  generalize hn : ls.length = n at *
  have HN := hide hn
  clear hn
  have hx0 := hown.alloc (.cells #[.int .i64 cost, .int .i64 due, .slice (some ⟨sb, so, none⟩) n scap] 55)
  have HB := hide (Blk.new w #[.int .i64 cost, .int .i64 due, .slice (some ⟨sb, so, none⟩) n scap] 55)
  have HX := hide hx0
  have HK := hide (KeepBut.new (e := 5) (B := base) w (.cells #[.int .i64 cost, .int .i64 due, .slice (some ⟨sb, so, none⟩) n scap] 55))
  clear hown hx0
  go_enter Tryz.func78, Tryz.ntmps78
  go_wp2_with (at_builtin; go_must (refine wpList_app8 rfl _ _ rfl base _ bs [cost] rfl (HX.out.alloc _) _ _ _ rfl rfl (new_cells _ _ _ _ (by simp)) ?_ ?_ ?_))
  · simp; omega
  · simp; omega
  intro v1 w1 o1 q1
  have Q1 := HK.out.trans ((KeepBut.new _ _).trans q1)
  have B1 := (HB.out.alloc _).kept q1 (by decide)
  have hz1 := q1.size
  simp at hz1
  clear q1 HX
  have c0 : w1.cell? ⟨w.heap.size, 0, none⟩ = some (.int .i64 cost) := B1.cell 0
  have c1 : w1.cell? ⟨w.heap.size, 1, none⟩ = some (.int .i64 due) := B1.cell 1
  have HO1 := hide o1
  have HQ1 := hide Q1
  have HB1 := hide B1
  clear o1 Q1 B1 HB HK
  go_wp2_with fail
  refine (appendTwo_any base _ _ _ _ HO1.out (by omega) (by omega) (by omega) (by simp; omega)).mono ?_
  rintro e w2 ⟨v2, rfl, o2, q2⟩
  have B2 := HB1.out.kept q2 (by decide)
  have HQ2 := hide (HQ1.out.trans q2)
  have hz2 := q2.size
  clear q2 c0 c1
  have c0 : w2.cell? ⟨w.heap.size, 2, none⟩ = some (.slice (some ⟨sb, so, none⟩) n scap) := B2.cell 2
  have HO2 := hide o2
  have HB2 := hide B2
  clear o2 B2 HB1 HO1 HQ1
  go_wp2_with (at_builtin; go_must (refine wpList_app8 rfl _ _ rfl base _ _ [(n : Int)] rfl (HO2.out.alloc _) _ _ _ rfl rfl (new_cells _ _ _ _ (by simp)) ?_ ?_ ?_))
  · simp; omega
  · simp; omega
  intro v3 w3 o3 q3
  have B3 := (HB2.out.alloc _).kept q3 (by decide)
  have HQ3 := hide (HQ2.out.trans ((KeepBut.new _ _).trans q3))
  have hz3 := q3.size
  simp at hz3
  clear q3 c0
  have c0 : w3.cell? ⟨w.heap.size, 2, none⟩ = some (.slice (some ⟨sb, so, none⟩) n scap) := B3.cell 2
  have HO3 := hide o3
  clear o3 B3 HB2 HO2 HQ2
  go_wp2_with fail
  go_loopw [0, 27] (fun b i wr => ∃ k : Nat, i = .int .i64 k ∧ k ≤ n ∧ Own8 wr base 5 b (bs ++ [cost, due / 256, due % 256, (n : Int)] ++ limBytes (ls.take k)) ∧ KeepBut 5 base w wr) (fun _ i _ => n - (intOf i).toNat)
  case atStart => exact ⟨0, rfl, Nat.zero_le _, by simpa [limBytes] using HO3.out, HQ3.out⟩
  case round =>
    obtain ⟨k, rfl, hk, ho, hq⟩ := hrel
    have hz := hq.size
    have hbel := hq.below hbase
    by_cases hlt : k < n
    · obtain ⟨⟨l1, l2⟩, hl⟩ := get_of_lt (l := ls) (k := k) (by rw [HN.out]; exact hlt)
      obtain ⟨d0, d1⟩ := (HC.out k _ hl).later hbel (by omega)
      obtain ⟨m1, m2, m3, m4⟩ := HV.out _ (List.mem_of_getElem? hl)
      simp only at d0 d1 m1 m2 m3 m4
      have HT := hide (take_snoc hl)
      have HO := hide ho
      have HQ := hide hq
      have HBL := hide (Blk.new wr #[.int .i64 l1, .int .i64 l2] 52)
      have hln : (limBytes (ls.take k)).length ≤ 9 := by rw [limBytes_length, List.length_take]; omega
      clear hl ho hq hbel
      go_wp2_with fail
      refine (appendTwo_any base _ _ _ _ (HO.out.alloc _) (by simp; omega) (by omega) (by omega) (by simp; omega)).mono ?_
      rintro e w4 ⟨v4, rfl, o4, q4⟩
      have B4 := HBL.out.kept q4 (by decide)
      have HQ4 := hide (HQ.out.trans ((KeepBut.new _ _).trans q4))
      have hz4 := q4.size
      simp at hz4
      have c1 : w4.cell? ⟨wr.heap.size, 1, none⟩ = some (.int .i64 l2) := B4.cell 1
      have HO4 := hide o4
      clear q4 o4 B4 HBL HO HQ d0 d1
      go_wp2_with (at_builtin; go_must (refine wpList_app8 rfl _ _ rfl base _ _ [l2] rfl (HO4.out.alloc _) _ _ _ rfl rfl (new_cells _ _ _ _ (by simp)) ?_ ?_ ?_))
      · simp; omega
      · simp; omega
      intro v5 w5 o5 q5
      have HO5 := hide o5
      have HQ5 := hide (HQ4.out.trans ((KeepBut.new _ _).trans q5))
      clear o5 q5 HO4 HQ4 c1
      go_wp2
      go_roundw
      case rel =>
        refine ⟨k + 1, by go_num, by omega, ?_, HQ5.out⟩
        have := HO5.out
        rw [HT.out, limBytes_snoc]
        simpa [List.append_assoc] using this
      case measure => simp [intOf]; omega
    · go_wp2
      go_ret
      refine ⟨_, rfl, ?_, hq⟩
      have e1 : ls.take k = ls := List.take_of_length_le (by rw [HN.out]; omega)
      rw [e1] at ho
      simp only [taskBytes, HN.out]
      simpa [List.append_assoc] using ho

end Go.Proofs.YthloffgebebijaaGreat
