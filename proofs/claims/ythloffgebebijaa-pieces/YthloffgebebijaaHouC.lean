/- HouC: the walk of tillerkeep's opened. -/
import Derived.Test.YthloffgebebijaaHouB
namespace Go.Proofs.Ythloffgebebijaa
open Go.RowKit Go.MuLone

set_option maxRecDepth 100000 in
set_option maxHeartbeats 3200000 in
theorem opened_any (B : Nat) (c : Cfg) (sa : Option Addr) (scap : Nat) (w : World) (hv : Tasks w B (.slice sa c.tasks.length scap) c.tasks) (hB : B ≤ w.heap.size) (hok : cfgOk c = true) :
    Calls Try.prog 13 #[.agg #[.int .i64 c.lines, .int .i64 c.room, .int .i64 c.poll, .int .i64 c.idle, .int .i64 c.sw, .slice sa c.tasks.length scap]] w fun e w' => ∃ H X S, e = .returned (.tuple #[.pointer (some ⟨H, 0, none⟩), .bool true]) ∧ HouP w' S w.heap.size H X (exNew c) c (.slice sa c.tasks.length scap) 0 (.slice none 0 0) (.slice none 0 0) [] ∧ (∀ k, S k → w.heap.size ≤ k) ∧ w.heap.size ≤ H ∧ Below w.heap.size w w' := by
  obtain ⟨⟨c1, c2⟩, ⟨c3, c4⟩, ⟨c5, c6⟩, ⟨c7, c8⟩, ⟨c9, c10⟩, ⟨c11, c12⟩, c13⟩ := cfgNum hok
  obtain ⟨k, hk⟩ : ∃ k, c.tasks.length = k + 1 := ⟨c.tasks.length - 1, by omega⟩
  obtain ⟨tk, htk⟩ := get_of_lt (l := c.tasks) (k := k) (by omega)
  have hdu : (c.tasks.map Tk.due).getD k 0 = tk.due := by simp [htk]
  obtain ⟨hor1, hor2⟩ := open_run hok hk.symm hdu
  obtain ⟨NE, hei, -⟩ := exFeed_in (line := 0) (t := 0) (exNew_in hok) (msgB_in (task := k) (cost := 1) ⟨by omega, by omega⟩ ⟨by decide, by decide⟩)
  rw [hk]
  rw [hk] at hv c11 c12
  have hv' := hv
  obtain ⟨sb, so, rfl, hsb, hsc⟩ : ∃ b o, sa = some ⟨b, o, none⟩ ∧ b < B ∧ ∀ i t, c.tasks[i]? = some t → TaskAt w B b (o + i * 3) t := by
    obtain ⟨a, cap, he, h⟩ := hv
    simp only [Value.slice.injEq] at he
    obtain ⟨rfl, _, rfl⟩ := he
    rcases h with h | h
    · rw [h] at hk; simp at hk
    · exact h
  have hd1 := (hsc k tk htk).2.1
  generalize hsa : (some ⟨sb, so, none⟩ : Option Addr) = sa at hv hv' ⊢
  have HSA := hide hsa
  clear hsa hsc hv
  have hv := hv'
  generalize tk.due = du at *
  have hb0 : Below w.heap.size w (w.alloc (.cells #[.int .i64 c.lines, .int .i64 c.room, .int .i64 c.poll, .int .i64 c.idle, .int .i64 c.sw, .slice sa (k + 1) scap] 26)) := (Below.refl _ _).alloc (Nat.le_refl _) _
  have hcf : ∀ w', Below w.heap.size w w' → Cf w' B (.agg #[.int .i64 c.lines, .int .i64 c.room, .int .i64 c.poll, .int .i64 c.idle, .int .i64 c.sw, .slice sa (k + 1) scap]) c := fun w' hb => ⟨_, rfl, hv.later hb hB⟩
  have HCF := hide hcf
  have HN1 := hide (new_yes B _ c _ (hcf _ hb0) (by simp; omega) hok)
  have HOK := hide hok
  have HB0 := hide hb0
  have HK0 := hide (Blk.new w #[.int .i64 c.lines, .int .i64 c.room, .int .i64 c.poll, .int .i64 c.idle, .int .i64 c.sw, .slice sa (k + 1) scap] 26)
  have hz0 : (w.alloc (.cells #[.int .i64 c.lines, .int .i64 c.room, .int .i64 c.poll, .int .i64 c.idle, .int .i64 c.sw, .slice sa (k + 1) scap] 26)).heap.size = w.heap.size + 1 := by simp
  have HZ0 := hide hz0
  have HOR := hide (And.intro hor1 hor2)
  have HEI := hide hei
  clear hv hv' hb0 hcf hok hz0 c13 hor1 hor2 hei hk htk hdu
  go_enter Try.func13, Try.ntmps13
  go_wp2_with fail
  refine HN1.out.mono ?_
  rintro e w1 ⟨X, rfl, x1, q1⟩
  rw [HZ0.out] at x1
  have hK1 := HK0.out.later q1 (by rw [HZ0.out]; omega)
  have hB1 : Below w.heap.size w w1 := HB0.out.trans (q1.mono (by rw [HZ0.out]; omega))
  have k0 : w1.cell? ⟨w.heap.size, 0, none⟩ = some (.int .i64 c.lines) := hK1.cell 0
  have k1 : w1.cell? ⟨w.heap.size, 1, none⟩ = some (.int .i64 c.room) := hK1.cell 1
  have k2 : w1.cell? ⟨w.heap.size, 2, none⟩ = some (.int .i64 c.poll) := hK1.cell 2
  have k3 : w1.cell? ⟨w.heap.size, 3, none⟩ = some (.int .i64 c.idle) := hK1.cell 3
  have k4 : w1.cell? ⟨w.heap.size, 4, none⟩ = some (.int .i64 c.sw) := hK1.cell 4
  have k5 : w1.cell? ⟨w.heap.size, 5, none⟩ = some (.slice sa (k + 1) scap) := hK1.cell 5
  have x1' : Xec w1 (fun q => w.heap.size + 1 ≤ q ∧ q < w1.heap.size) (w.heap.size + 1) X (exNew c) := x1.mono fun q hq e => ⟨e, hq⟩
  have hbh : Below w1.heap.size w1 (w1.alloc (.cells #[.int .i64 c.lines, .int .i64 c.room, .int .i64 c.poll, .int .i64 c.idle, .int .i64 c.sw, .slice sa (k + 1) scap, .pointer (some ⟨X, 0, none⟩), .int .i64 0, .slice none 0 0, .slice none 0 0] 46)) := (Below.refl _ _).alloc (Nat.le_refl _) _
  have hBW : Below w.heap.size w (w1.alloc (.cells #[.int .i64 c.lines, .int .i64 c.room, .int .i64 c.poll, .int .i64 c.idle, .int .i64 c.sw, .slice sa (k + 1) scap, .pointer (some ⟨X, 0, none⟩), .int .i64 0, .slice none 0 0, .slice none 0 0] 46)) := hB1.trans (hbh.mono hB1.size)
  have HN2 := hide (new_yes B _ c _ (HCF.out _ hBW) (by have := hBW.size; omega) HOK.out)
  have HXW : Hid (Xec (w1.alloc (.cells #[.int .i64 c.lines, .int .i64 c.room, .int .i64 c.poll, .int .i64 c.idle, .int .i64 c.sw, .slice sa (k + 1) scap, .pointer (some ⟨X, 0, none⟩), .int .i64 0, .slice none 0 0, .slice none 0 0] 46)) (fun q => w.heap.size + 1 ≤ q ∧ q < w1.heap.size) (w.heap.size + 1) X (exNew c)) := x1'.same fun q hq => hbh.block q hq.2
  have HKW := hide (hK1.later hbh hK1.lt)
  have HHW := hide (Blk.new w1 #[.int .i64 c.lines, .int .i64 c.room, .int .i64 c.poll, .int .i64 c.idle, .int .i64 c.sw, .slice sa (k + 1) scap, .pointer (some ⟨X, 0, none⟩), .int .i64 0, .slice none 0 0, .slice none 0 0] 46)
  have HBW := hide hBW
  have hz1 := hK1.lt
  have hzW : (w1.alloc (.cells #[.int .i64 c.lines, .int .i64 c.room, .int .i64 c.poll, .int .i64 c.idle, .int .i64 c.sw, .slice sa (k + 1) scap, .pointer (some ⟨X, 0, none⟩), .int .i64 0, .slice none 0 0, .slice none 0 0] 46)).heap.size = w1.heap.size + 1 := by simp
  have HZW := hide hzW
  clear x1 x1' hK1 hB1 q1 hbh hBW hzW HN1
  go_wp2_with fail
  refine HN2.out.mono ?_
  rintro e w2 ⟨Y, rfl, y2, q2⟩
  generalize (w1.alloc (.cells #[.int .i64 c.lines, .int .i64 c.room, .int .i64 c.poll, .int .i64 c.idle, .int .i64 c.sw, .slice sa (k + 1) scap, .pointer (some ⟨X, 0, none⟩), .int .i64 0, .slice none 0 0, .slice none 0 0] 46)) = V at *
  have hzv : V.heap.size = w1.heap.size + 1 := HZW.out
  have hz2 := q2.size
  have y2' : Xec w2 (fun q => V.heap.size ≤ q ∧ q < w2.heap.size) V.heap.size Y (exNew c) := y2.mono fun q hq e => ⟨e, hq⟩
  have hK2 := HKW.out.later q2 (by rw [hzv]; omega)
  have j2 : w2.cell? ⟨w.heap.size, 2, none⟩ = some (.int .i64 c.poll) := hK2.cell 2
  have j4 : w2.cell? ⟨w.heap.size, 4, none⟩ = some (.int .i64 c.sw) := hK2.cell 4
  have j5 : w2.cell? ⟨w.heap.size, 5, none⟩ = some (.slice sa (k + 1) scap) := hK2.cell 5
  have HY2 := hide y2'
  have HQ2 := hide q2
  have HMS := hide (fun w' => kmessage_any (k : Int) 1 w' ⟨by omega, by omega⟩ ⟨by decide, by decide⟩)
  clear y2 y2' q2 hK2 k0 k1 k2 k3 k4 k5 HN2
  go_wp2_with fail
  refine (HMS.out w2).mono ?_
  rintro e w3 ⟨g, rfl, hg, hgb, q3⟩
  have hz3 := q3.size
  have y3 : Xec w3 (fun q => V.heap.size ≤ q ∧ q < w2.heap.size) V.heap.size Y (exNew c) := HY2.out.same fun q hq => q3.block q hq.2
  have hq3 : Below V.heap.size V w3 := HQ2.out.trans (q3.mono hz2)
  have hbv : BytV w3 (fun q => V.heap.size ≤ q ∧ q < w2.heap.size) (.slice (some ⟨g, 0, none⟩) 4 4) (msgB k 1) := ⟨_, _, rfl, by simp [msgB], .inr ⟨g, 0, rfl, hgb.lt, fun e => by omega, fun i x hi => by
    rw [Nat.zero_add, hgb.cell i]
    simp [hi]⟩⟩
  have HFD := hide (xFeed_any _ V.heap.size Y 0 0 0 (exNew c) _ (msgB k 1) w3 y3 hbv (by simp [msgB]) (by omega) (exNew_in HOK.out))
  have HQ3 := hide hq3
  rw [HOR.out.1] at HFD
  clear y3 hbv hq3 q3 hgb HMS
  go_wp2_with fail
  refine HFD.out.mono ?_
  rintro e w4 ⟨rfl, y4, f4⟩
  have hz4 := f4.size
  have q4 : Below V.heap.size V w4 := HQ3.out.trans (f4.below (by omega) fun q hq => hq.1)
  have y4' : Xec w4 (fun q => V.heap.size ≤ q ∧ q < w4.heap.size) V.heap.size Y (exFeed (exNew c) 0 0 (msgB k 1)).1 := y4.mono fun q hq e => ⟨e.elim (fun e => e.1) fun e => by omega, hq⟩
  have HRN := hide (xRun_any _ V.heap.size Y NE 1 _ w4 y4' (by omega) HEI.out)
  rw [HOR.out.2] at HRN
  have HQ4 := hide q4
  clear y4 y4' f4 q4 HFD HQ3
  go_wp2_with fail
  refine HRN.out.mono ?_
  rintro e w5 ⟨ev, rfl, e5, -, f5⟩
  have hz5 := f5.size
  have q5 : Below V.heap.size V w5 := HQ4.out.trans (f5.below (by omega) fun q hq => hq.1)
  obtain ⟨eg, ecap, hev, -, -⟩ := ownsRow_some e5 (by simp)
  subst hev
  have hec : ∀ j u, (erow [⟨1, c.poll, 0, k, du⟩, ⟨2, c.poll + c.sw + 1, 0, k, du⟩])[j]? = some u → w5.cell? ⟨eg, j, none⟩ = some u := fun j u hu => by
    have := World.ownsRow.cells (g := eg) e5 (by rfl) j u hu
    rw [Addr.add] at this
    split at this
    · rename_i h0; subst h0; exact this
    · simpa using this
  have a0 := hec 0 _ rfl
  have a1 := hec 1 _ rfl
  have a2 := hec 2 _ rfl
  have a3 := hec 3 _ rfl
  have a4 := hec 4 _ rfl
  have b0 := hec 5 _ rfl
  have b1 := hec 6 _ rfl
  have b2 := hec 7 _ rfl
  have b3 := hec 8 _ rfl
  have b4 := hec 9 _ rfl
  have hegl : eg < w5.heap.size := (ownsRow_lt e5 (k := eg) rfl).2
  have hK5 := HKW.out.later q5 (by rw [hzv]; omega)
  have j2 : w5.cell? ⟨w.heap.size, 2, none⟩ = some (.int .i64 c.poll) := hK5.cell 2
  have j4 : w5.cell? ⟨w.heap.size, 4, none⟩ = some (.int .i64 c.sw) := hK5.cell 4
  have j5 : w5.cell? ⟨w.heap.size, 5, none⟩ = some (.slice sa (k + 1) scap) := hK5.cell 5
  have hsa := HSA.out
  subst hsa
  have t1 : w5.cell? ⟨sb, so + k * 3 + 1, none⟩ = some (.int .i64 du) := (q5.cell (p := ⟨sb, so + k * 3 + 1, none⟩) (by simp; omega)).trans ((HBW.out.cell (p := ⟨sb, so + k * 3 + 1, none⟩) (by simp; omega)).trans hd1)
  have HQ5 := hide q5
  have hki : (k : Int) < (k : Int) + 1 := by omega
  clear e5 f5 hec hK5 q5 HRN HQ4 hd1
  go_wp2_with fail
  go_quiet ((fail))
  go_wp2_with fail
  go_ret2
  have q5 := below_drewN HQ5.out nq
  have hxl := HXW.out.lt
  refine ⟨w1.heap.size, X, fun q => w.heap.size + 1 ≤ q ∧ q < w1.heap.size, rfl, ⟨(HHW.out.later q5 (by omega)), ?_, World.ownsRow_nil _ _ _ _, fun e => by omega, fun q hq => by simp [Value.ownBlock] at hq, hxl.2⟩, fun q hq => by omega, by omega, HBW.out.trans (q5.mono (by omega))⟩
  have hx : Xec (w5.drewN nq) (fun q => w.heap.size + 1 ≤ q ∧ q < w1.heap.size) (w.heap.size + 1) X (exNew c) := HXW.out.same fun q hq => q5.block q (by omega)
  exact hx.lower (by omega)

end Go.Proofs.Ythloffgebebijaa
