/- AheadF: the walk of package ahead's verdict. -/
import Derived.Test.YthloffgebebijaaGreatAheadE
namespace Go.Proofs.YthloffgebebijaaGreat
open Go.RowKit

/-- The value v reads as the ints xs. -/
def IntsR (w : World) (B : Nat) (v : Value) (xs : List Int) : Prop :=
  ∃ a cap, v = .slice a xs.length cap ∧ (xs = [] ∨ ∃ b o, a = some ⟨b, o, none⟩ ∧ b < B ∧ ∀ i x, xs[i]? = some x → w.cell? ⟨b, o + i, none⟩ = some (.int .i64 x))
theorem IntsR.later {w w' : World} {B B' : Nat} {v : Value} {xs : List Int} (h : IntsR w B v xs) (hb : Below B' w w') (hle : B ≤ B') : IntsR w' B v xs := by
  obtain ⟨a, cap, hv, h⟩ := h
  exact ⟨a, cap, hv, h.imp id fun ⟨b, o, ha, hlt, hc⟩ => ⟨b, o, ha, hlt, fun i x hi => (hb.cell (p := ⟨b, o + i, none⟩) (by simp; omega)).trans (hc i x hi)⟩⟩

set_option maxRecDepth 100000 in
set_option maxHeartbeats 1600000 in
theorem aVerdict_any (B : Nat) (v bv : Value) (c : Cfg) (need : Int) (w : World) (hv : CfC w B v c) (hbv : IntsR w B bv (c.tasks.map (boundI c))) (hB : B ≤ w.heap.size) (hc : CfIn c) (hne : need = needI c) :
    Calls Tryz.prog 84 #[v, bv, .int .i64 need] w fun e w' => e = .returned (.int .i64 (whatI c)) ∧ Below w.heap.size w w' := by
  have HE : Hid (whatI c = if c.tasks.any (fun t => decide (t.due < boundI c t)) = true then 2 else if c.room < need then 3 else 1) := by rw [hne]; rfl
  have HBB : Hid (∀ t ∈ c.tasks, TkIn t) := hc.ts
  obtain ⟨s, rfl, sa, scap, rfl, hs⟩ := hv
  obtain ⟨ba, bcap, rfl, hbs⟩ := hbv
  have HC := hide hs
  have HBS := hide hbs
  generalize hbf : boundI c = bf at *
  clear hbf
  obtain ⟨x1, x2, x3, x4, x5, ts⟩ := c
  have hn := hc.n2
  simp only [List.length_map] at hn HE HBB HC HBS ⊢
  generalize hN : ts.length = n at *
  have HN := hide hN
  have HB1 : Hid (Below w.heap.size w (w.alloc (.cells #[.int .i64 x1, .int .i64 x2, .int .i64 x3, .int .i64 x4, .int .i64 x5, .slice sa n scap] 40))) := (Below.refl _ _).alloc (Nat.le_refl _) _
  have HK1 := hide (Blk.new w #[.int .i64 x1, .int .i64 x2, .int .i64 x3, .int .i64 x4, .int .i64 x5, .slice sa n scap] 40)
  clear hN hs hbs hc hne
  go_enter Tryz.func84, Tryz.ntmps84
  go_wp2_with fail
  go_loopw [12] (fun i wr => ∃ q : Nat, i = .int .i64 q ∧ q ≤ n ∧ (ts.take q).any (fun t => decide (t.due < bf t)) = false ∧ Below w.heap.size w wr ∧ Blk wr w.heap.size #[.int .i64 x1, .int .i64 x2, .int .i64 x3, .int .i64 x4, .int .i64 x5, .slice sa n scap] 40) (fun i _ => n - (intOf i).toNat)
  case atStart => exact ⟨0, rfl, Nat.zero_le _, by simp, HB1.out, HK1.out⟩
  case round =>
    obtain ⟨q, rfl, hq, hany, hbe, hk⟩ := hrel
    have HANY := hide hany
    have HBE := hide hbe
    have HK := hide hk
    have hsz := hbe.size
    have hzk := hk.lt
    have k1 : wr.cell? ⟨w.heap.size, 1, none⟩ = some (.int .i64 x2) := hk.cell 1
    clear hbe hk hany
    by_cases hlt : q < n
    · obtain ⟨t, hg⟩ := get_of_lt (l := ts) (k := q) (by rw [HN.out]; exact hlt)
      rcases HC.out with he | ⟨sb, so, rfl, hsb, hsc⟩
      · rw [he] at hg; simp at hg
      obtain ⟨d0, d1, sl, d2, hls⟩ := (hsc q _ hg).later HBE.out hB (by omega)
      have hb0 : wr.heap.size = wr.heap.size := rfl
      rcases HBS.out with he | ⟨bb, bo, rfl, hbb, hbc⟩
      · have : ts = [] := by simpa using he
        rw [this] at hg; simp at hg
      have e0 : wr.cell? ⟨bb, bo + q, none⟩ = some (.int .i64 (bf t)) := (HBE.out.cell (p := ⟨bb, bo + q, none⟩) (by simp; omega)).trans (hbc q _ (by rw [List.getElem?_map, hg]; rfl))
      have HTK := hide (take_snoc hg)
      have HMEM := hide (List.mem_of_getElem? hg)
      generalize hX : bf t = X at *
      have HX := hide hX
      have HT0 := hide hg
      obtain ⟨cost, due, lims⟩ := t
      simp only at d0 d1
      obtain ⟨la, lc, rfl, _, _⟩ := hls
      have hqi : (q : Int) < (n : Int) := by omega
      have hsbw : sb < wr.heap.size := by omega
      have hbbw : bb < wr.heap.size := by omega
      clear hg hX hsc hbc hb0
      have HBA : Hid (Below w.heap.size w (wr.alloc (.cells #[.int .i64 cost, .int .i64 due, .slice la lims.length lc] 55))) := HBE.out.alloc hsz _
      by_cases hlate : due < X
      · go_wp2_with fail
        go_quiet ((fail))
        go_wp2
        go_ret
        refine ⟨ret_int ?_, ⟨HBA.out.os, HBA.out.tape, HBA.out.output, HBA.out.size, HBA.out.block⟩⟩
        rw [HE.out, if_pos]
        refine List.any_eq_true.2 ⟨_, HMEM.out, ?_⟩
        simp only [decide_eq_true_eq]
        rw [HX.out]
        exact hlate
      · have hlate' : X ≤ due := by omega
        go_wp2_with fail
        go_quiet ((fail))
        go_wp2
        go_roundw
        case rel =>
          refine ⟨q + 1, by go_num, by omega, ?_, ⟨HBA.out.os, HBA.out.tape, HBA.out.output, HBA.out.size, HBA.out.block⟩, HK.out.alloc (.cells #[.int .i64 cost, .int .i64 due, .slice la lims.length lc] 55)⟩
          rw [HTK.out, List.any_append, HANY.out]
          simp only [List.any_cons, List.any_nil, Bool.or_false, Bool.false_or, decide_eq_false_iff_not]
          rw [HX.out]
          omega
        case measure => simp [intOf]; omega
    · have hqi : ¬ (q : Int) < (n : Int) := by omega
      have hany := HANY.out
      rw [List.take_of_length_le (by rw [HN.out]; omega)] at hany
      have HE2 : Hid (whatI ⟨x1, x2, x3, x4, x5, ts⟩ = if x2 < need then 3 else 1) := by rw [Hid, HE.out, hany]; simp
      clear hany
      by_cases hroom : x2 < need
      · go_wp2
        go_ret
        exact ⟨ret_int (by rw [HE2.out, if_pos hroom]), HBE.out⟩
      · go_wp2
        go_ret
        exact ⟨ret_int (by rw [HE2.out, if_neg (by omega)]), HBE.out⟩

end Go.Proofs.YthloffgebebijaaGreat
