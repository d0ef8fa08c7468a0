/- JobsD: the walks of package jobs' Push, Pop, of container/heap's Push, Pop, and of the queue's Put, Take, Len. -/
import Derived.Test.YthloffgebebijaaJobsC
import Derived.Deep.RegionLaw
import Derived.Deep.RegionLawGrows
import Derived.Deep.RegionWith
namespace Go.Proofs.Ythloffgebebijaa
open Go.RowKit

def jobV (j : Jb) : Value := .agg #[.int .i64 j.number, .int .i64 j.task, .int .i64 j.cost, .int .i64 j.deadline]

theorem assert_job (x : Value) (w : World) : (Instr.typeAssert (.iface 151 x) 20 151 false).run Try.prog w = .ok x w := by kernel_rfl
theorem info_job : (Try.prog.info? 151).map (fun i => (i.zero, i.size, i.bytes)) = some (some (.agg #[.int .i64 0, .int .i64 0, .int .i64 0, .int .i64 0]), 4, 32) := by kernel_rfl

set_option maxRecDepth 100000 in
set_option maxHeartbeats 1600000 in
theorem pPush_any (base X o : Nat) (cs : Array Value) (t : TypeId) (v : Value) (hs : List Jb) (j : Jb) (w : World) (hB : Blk w X cs t) (hcs : cs[o]? = some v) (h : JobsP w base v hs) (hX : v.ownBlock ≠ some X) (hlen : hs.length ≤ 1000000) (hbase : base ≤ w.heap.size) :
    Calls Try.prog 110 #[.pointer (some ⟨X, o, none⟩), .iface 151 (jobV j)] w fun e w' => e = .returned (.tuple #[]) ∧ ∃ v', Blk w' X (cs.setIfInBounds o v') t ∧ JobsP w' base v' (hs ++ [j]) ∧ Fr (fun k => k = X ∨ v.ownBlock = some k) w w' ∧ (v'.ownBlock = v.ownBlock ∨ ∃ k, v'.ownBlock = some k ∧ w.heap.size ≤ k) := by
  obtain ⟨va, vc, hve⟩ := ownsRow_slice h
  subst hve
  have c1 : w.cell? ⟨X, o, none⟩ = some (.slice va hs.length vc) := (hB.cell o).trans hcs
  have c1f := hB.free o
  have hXl := hB.lt
  obtain ⟨jn, jt, jd, jc⟩ := j
  have HB := hide hB
  have HJ := hide h
  clear h hB
  have hta := assert_job (.agg #[.int .i64 jn, .int .i64 jt, .int .i64 jc, .int .i64 jd]) w.drew
  simp only [jobV]
  obtain ⟨i0, hi, hz0, hzs, hzb⟩ := info_parts info_job
  have HI := hide (And.intro hi (And.intro hz0 (And.intro hzs hzb)))
  have HO : Hid ((w.alloc (.cells #[.int .i64 jn, .int .i64 jt, .int .i64 jc, .int .i64 jd] 151)).drew.ownsRow base 151 4 (.slice va hs.length vc) hs.length (jrow hs)) := (HJ.out.later ((Below.refl _ _).alloc (Nat.le_refl _) _)).drew
  have HNEW : Hid (∀ (j : Nat) (u : Value), [Value.int .i64 jn, Value.int .i64 jt, Value.int .i64 jc, Value.int .i64 jd][j]? = some u → (w.alloc (.cells #[.int .i64 jn, .int .i64 jt, .int .i64 jc, .int .i64 jd] 151)).drew.cell? ((⟨w.heap.size, 0, none⟩ : Addr).add j) = some u) := by
    intro j u hj
    exact fresh_cells w [Value.int .i64 jn, Value.int .i64 jt, Value.int .i64 jc, Value.int .i64 jd] 151 w.heap.size rfl j u hj
  have HONE : Hid (∀ u ∈ [Value.int .i64 jn, Value.int .i64 jt, Value.int .i64 jc, Value.int .i64 jd], u.oneCell' = true) := by
    intro u hu
    simp at hu
    rcases hu with rfl | rfl | rfl | rfl <;> rfl
  have HBW : Hid (Blk (w.alloc (.cells #[.int .i64 jn, .int .i64 jt, .int .i64 jc, .int .i64 jd] 151)).drew X cs t) := (HB.out.alloc _).drew
  clear hi hz0 hzs hzb
  go_enter Try.func110, Try.ntmps110
  go_wp2_with fail
  apply wp_some3 (fun (xa : Option Addr) (xc : Nat) (w4 : World) => w4.ownsRow base 151 4 (.slice xa (hs.length + 1) xc) (hs.length + 1) (jrow hs ++ [Value.int .i64 jn, Value.int .i64 jt, Value.int .i64 jc, Value.int .i64 jd]) ∧ (w.alloc (.cells #[.int .i64 jn, .int .i64 jt, .int .i64 jc, .int .i64 jd] 151)).drew.grownBy w4 (Value.slice va hs.length vc).ownBlock ∧ ((Value.slice xa (hs.length + 1) xc).ownBlock = (Value.slice va hs.length vc).ownBlock ∨ (Value.slice xa (hs.length + 1) xc).ownBlock = some (w.alloc (.cells #[.int .i64 jn, .int .i64 jt, .int .i64 jc, .int .i64 jd] 151)).drew.heap.size))
  case h =>
    go_region_law (first | (refine step_append_own rfl (.tmp 7) (.tmp 10) 92 rfl base 151 i0 (.agg #[.int .i64 0, .int .i64 0, .int .i64 0, .int .i64 0]) 4 32 Try.underlying92 HI.out.1 HI.out.2.1 HI.out.2.2.1 HI.out.2.2.2 rfl (by decide) (.slice va hs.length vc) hs.length (jrow hs) (by simp [Act.eval]) HO.out ⟨w.heap.size, 0, none⟩ 1 1 [Value.int .i64 jn, Value.int .i64 jt, Value.int .i64 jc, Value.int .i64 jd] (by simp [Act.eval]) rfl HNEW.out HONE.out (by decide) (by unfold maxLen; omega) (by omega) (by simp; omega) ?_; intro v1 w4 hown hgrow hat; obtain ⟨xa, xc, rfl⟩ := ownsRow_slice hown; have hbw4 : Blk w4 X cs t := (hgrow.block X (by simp; omega) (fun e => hX e.symm)).trans HBW.out; have d1 : w4.cell? ⟨X, o, none⟩ = some (.slice va hs.length vc) := (hbw4.cell o).trans hcs; have d1f := hbw4.free o; have HOW := hide hown; have HGR := hide hgrow; have HAT := hide hat; clear hown hgrow hat hbw4))
    all_goals exact ⟨xa, xc, w4, ⟨HOW.out, HGR.out, HAT.out⟩, rfl, rfl⟩
  rintro xa xc w4 ⟨how, hgr, hat⟩
  have HOW := hide how; have HGR := hide hgr; have HAT := hide hat
  clear how hgr hat c1 c1f hta
  go_end0
  have hbw4 : Blk w4 X cs t := (HGR.out.block X (by simp; omega) (fun e => hX e.symm)).trans HBW.out
  have hz4 : (w.alloc (.cells #[.int .i64 jn, .int .i64 jt, .int .i64 jc, .int .i64 jd] 151)).drew.heap.size = w.heap.size + 1 := by simp
  have hv4 : (Value.slice xa (hs.length + 1) xc).ownBlock = (Value.slice va hs.length vc).ownBlock ∨ ∃ k, (Value.slice xa (hs.length + 1) xc).ownBlock = some k ∧ w.heap.size ≤ k := HAT.out.imp id fun e => ⟨_, e, by omega⟩
  have hne : ∀ k, (Value.slice xa (hs.length + 1) xc).ownBlock = some k → k ≠ X := by
    rintro k hk rfl
    rcases hv4 with e | ⟨q, e, hq⟩
    · exact hX (e.symm.trans hk)
    · rw [e] at hk; cases hk; omega
  have f1 : Fr (fun k => k = X ∨ (Value.slice va hs.length vc).ownBlock = some k) w (w.alloc (.cells #[.int .i64 jn, .int .i64 jt, .int .i64 jc, .int .i64 jd] 151)).drew := Fr.of_below ((Below.refl _ _).alloc (Nat.le_refl _) _).drew
  have f2 : Fr (fun k => k = X ∨ (Value.slice va hs.length vc).ownBlock = some k) w w4 := f1.trans (Fr.of_grown (X := fun k => k = X ∨ (Value.slice va hs.length vc).ownBlock = some k) HGR.out fun k hk _ => .inr hk) fun _ _ x => x
  refine ⟨rfl, _, hbw4.set o _, ?_, f2.trans (Fr.set (X := fun k => k = X ∨ (Value.slice va hs.length vc).ownBlock = some k) w4 X o _ (.inl rfl)) fun _ _ x => x, hv4⟩
  unfold JobsP
  rw [jrow_append, List.length_append]
  exact ownsRow_same HOW.out fun k hk => heap_setCell_other w4 ⟨X, o, none⟩ k _ (hne k hk)

set_option maxRecDepth 100000 in
set_option maxHeartbeats 1600000 in
theorem pPop_any (base X o n cap g : Nat) (cs : Array Value) (t : TypeId) (hs : List Jb) (j : Jb) (w : World) (hB : Blk w X cs t) (hcs : cs[o]? = some (.slice (some ⟨g, 0, none⟩) (n + 1) cap)) (h : JobsP w base (.slice (some ⟨g, 0, none⟩) (n + 1) cap) hs) (hn : hs.length = n + 1) (hj : hs[n]? = some j) (hX : X ≠ g) (hlen : n ≤ 1000000) :
    Calls Try.prog 109 #[.pointer (some ⟨X, o, none⟩)] w fun e w' => e = .returned (.iface 151 (jobV j)) ∧ Blk w' X (cs.setIfInBounds o (.slice (some ⟨g, 0, none⟩) n cap)) t ∧ JobsP w' base (.slice (some ⟨g, 0, none⟩) n cap) (hs.take n) ∧ Fr (fun k => k = X) w w' := by
  have c1 : w.cell? ⟨X, o, none⟩ = some (.slice (some ⟨g, 0, none⟩) (n + 1) cap) := (hB.cell o).trans hcs
  have c1f := hB.free o
  have hXl := hB.lt
  obtain ⟨a0, a1, a2, a3⟩ := h.cell hj
  obtain ⟨_, hcap⟩ : True ∧ n + 1 ≤ cap := by
    rcases h.2 with ⟨h2, _⟩ | ⟨g', cap', cur, hv, hb, hh, hc, _⟩
    · simp at h2
    · simp at hv
      exact ⟨trivial, by omega⟩
  have HB := hide hB
  have HJ := hide h
  obtain ⟨jn, jt, jd, jc⟩ := j
  simp only at a0 a1 a2 a3
  clear h hB
  simp only [jobV]
  go_enter Try.func109, Try.ntmps109
  go_wp2
  go_ret
  have h1 : Blk ((w.setCell ⟨X, o, none⟩ (.slice (some ⟨g, 0, none⟩) n cap)).alloc (.cells #[.int .i64 jn, .int .i64 jt, .int .i64 jc, .int .i64 jd] 151)) X _ t := (HB.out.set o (.slice (some ⟨g, 0, none⟩) n cap)).alloc _
  have h2 : JobsP ((w.setCell ⟨X, o, none⟩ (.slice (some ⟨g, 0, none⟩) n cap)).alloc (.cells #[.int .i64 jn, .int .i64 jt, .int .i64 jc, .int .i64 jd] 151)) base (.slice (some ⟨g, 0, none⟩) n cap) (hs.take n) := by
    have h3 : JobsP w base (.slice (some ⟨g, 0, none⟩) n cap) (hs.take n) := by
      unfold JobsP
      have h4 : w.ownsRow base 151 4 (.slice (some ⟨g, 0, none⟩) (n + 1) cap) (n + 1) (jrow hs) := hn ▸ HJ.out
      have := ownsRow_take h4 (Nat.le_succ n)
      rw [jrow_take] at this
      rw [List.length_take, hn, Nat.min_eq_left (Nat.le_succ n)]
      exact this
    have h5 : JobsP (w.setCell ⟨X, o, none⟩ (.slice (some ⟨g, 0, none⟩) n cap)) base (.slice (some ⟨g, 0, none⟩) n cap) (hs.take n) := h3.same fun k hk => heap_setCell_other w ⟨X, o, none⟩ k _ (by simp only [Value.ownBlock, Option.some.injEq] at hk; subst hk; exact fun e => hX e.symm)
    exact h5.later ((Below.refl _ _).alloc (Nat.le_refl _) _)
  exact ⟨rfl, h1, h2, (Fr.set (X := fun k => k = X) w X o _ rfl).then_below ((Below.refl _ _).alloc (Nat.le_refl _) _)⟩

theorem pLen_any (a : Option Addr) (n c : Nat) (w : World) : Calls Try.prog 106 #[.slice a n c] w fun e w' => e = .returned (.int .i64 n) ∧ w' = w := by
  go_enter Try.func106, Try.ntmps106
  go_wp2
  go_ret
  exact ⟨rfl, rfl⟩

set_option maxRecDepth 100000 in
set_option maxHeartbeats 1600000 in
theorem hPush_any (base X o : Nat) (cs : Array Value) (t : TypeId) (v : Value) (hs : List Jb) (j : Jb) (w : World) (hB : Blk w X cs t) (hcs : cs[o]? = some v) (h : JobsP w base v hs) (hX : v.ownBlock ≠ some X) (hH : Heapy hs hs.length) (hlen : hs.length ≤ 900000) (hbase : base ≤ w.heap.size) :
    Calls Try.prog 87 #[.iface 159 (.pointer (some ⟨X, o, none⟩)), .iface 151 (jobV j)] w fun e w' => e = .returned (.tuple #[]) ∧ ∃ v' hs', Blk w' X (cs.setIfInBounds o v') t ∧ JobsP w' base v' hs' ∧ hs'.Perm (hs ++ [j]) ∧ Heapy hs' hs'.length ∧ Fr (fun k => k = X ∨ v.ownBlock = some k) w w' ∧ (v'.ownBlock = v.ownBlock ∨ ∃ k, v'.ownBlock = some k ∧ w.heap.size ≤ k) := by
  have hXl := hB.lt
  have ho : o < cs.size := by
    rcases Nat.lt_or_ge o cs.size with h | h
    · exact h
    · rw [Array.getElem?_eq_none h] at hcs; cases hcs
  have HP := hide (pPush_any base X o cs t v hs j w hB hcs h hX (by omega) hbase)
  have HH := hide hH
  have hm0 := meth_push w ⟨X, o, none⟩
  clear hB h hH
  go_enter Try.func87, Try.ntmps87
  go_wp2_with fail
  refine HP.out.mono ?_
  rintro e w1 ⟨rfl, v1, b1, j1, f1, o1⟩
  obtain ⟨g, cap, rfl, hc1, hc2⟩ := ownsRow_some j1 (by simp)
  have hc : w1.cell? ⟨X, o, none⟩ = some (.slice (some ⟨g, 0, none⟩) (hs ++ [j]).length cap) := (b1.cell o).trans (by simp [ho])
  have hgX : X ≠ g := by
    rintro rfl
    rcases o1 with e | ⟨k, e, hk⟩
    · exact hX e.symm
    · simp only [Value.ownBlock, Option.some.injEq] at e; omega
  have HUP := hide (up_any base X o g cap (hs ++ [j]).length hs.length (hs ++ [j]) w1 hc j1 rfl hgX b1.lt (by simp; omega) (by simp) (by rw [List.length_append]; exact upI_new HH.out))
  have hlen1 : (hs ++ [j]).length = hs.length + 1 := by simp
  have HB1 := hide b1
  have HF1 := hide f1
  have HO1 := hide o1
  have hm1 := meth_len w1 _ _ hc
  clear b1 j1 f1 o1
  rw [hlen1] at hm1 hc HUP
  go_wp2_with fail
  refine (pLen_any _ _ _ w1).mono ?_
  rintro e w2 ⟨rfl, rfl⟩
  go_wp2_with fail
  refine HUP.out.mono ?_
  rintro e w3 ⟨rfl, hs', j3, p3, h3, f3⟩
  have HF3 : Hid (∃ v' hs', Blk w3 X (cs.setIfInBounds o v') t ∧ JobsP w3 base v' hs' ∧ hs'.Perm (hs ++ [j]) ∧ Heapy hs' hs'.length ∧ Fr (fun k => k = X ∨ v.ownBlock = some k) w w3 ∧ (v'.ownBlock = v.ownBlock ∨ ∃ k, v'.ownBlock = some k ∧ w.heap.size ≤ k)) := by
    refine ⟨_, hs', (f3.block X HB1.out.lt hgX).trans HB1.out, by rw [hlen1]; exact j3, p3, ?_, HF1.out.trans f3 ?_, HO1.out⟩
    · rw [p3.length_eq, hlen1]; exact h3
    · rintro q hq rfl
      rcases HO1.out with e | ⟨k, e, hk⟩
      · exact .inr e.symm
      · simp only [Value.ownBlock, Option.some.injEq] at e; omega
  clear j3 p3 h3 f3
  go_wp2
  go_end0
  exact ⟨rfl, HF3.out⟩

set_option maxRecDepth 100000 in
set_option maxHeartbeats 1600000 in
/-- The job that must be done first is taken out. -/
theorem hPop_any (base X o n cap g : Nat) (cs : Array Value) (t : TypeId) (hs : List Jb) (w : World) (hB : Blk w X cs t) (hcs : cs[o]? = some (.slice (some ⟨g, 0, none⟩) (n + 1) cap)) (h : JobsP w base (.slice (some ⟨g, 0, none⟩) (n + 1) cap) hs) (hn : hs.length = n + 1) (hX : X ≠ g) (hH : Heapy hs hs.length) (hlen : n ≤ 900000) :
    Calls Try.prog 86 #[.iface 159 (.pointer (some ⟨X, o, none⟩))] w fun e w' => ∃ j hs', e = .returned (.iface 151 (jobV j)) ∧ Blk w' X (cs.setIfInBounds o (.slice (some ⟨g, 0, none⟩) n cap)) t ∧ JobsP w' base (.slice (some ⟨g, 0, none⟩) n cap) hs' ∧ (j :: hs').Perm hs ∧ (∀ b ∈ hs, jle j b) ∧ Heapy hs' hs'.length ∧ Fr (fun k => k = X ∨ k = g) w w' := by
  have hXl := hB.lt
  obtain ⟨a0, ha0⟩ := get_of_lt (l := hs) (k := 0) (by omega)
  obtain ⟨an, han⟩ := get_of_lt (l := hs) (k := n) (by omega)
  have hc : w.cell? ⟨X, o, none⟩ = some (.slice (some ⟨g, 0, none⟩) (n + 1) cap) := (hB.cell o).trans hcs
  have hm0 := meth_len w _ _ hc
  have hm1 := meth_swap w _ _ hc
  have HSW : Hid (Calls Try.prog 108 #[.slice (some ⟨g, 0, none⟩) (n + 1) cap, .int .i64 0, .int .i64 n] w fun e w' => e = .returned (.tuple #[]) ∧ JobsP w' base (.slice (some ⟨g, 0, none⟩) (n + 1) cap) (swp hs 0 n) ∧ Fr (fun k => k = g) w w') := pSwap_any base g cap (n + 1) 0 n hs a0 an w h hn ha0 han
  have HB := hide hB
  have HMIN : Hid (∀ b ∈ hs, jle a0 b) := fun b hb => by
    obtain ⟨k, hk⟩ := List.getElem?_of_mem hb
    exact heapy_first hH ha0 (Nat.le_refl _) k b (lt_of_get hk) hk
  have HDI : Hid (DownI (swp hs 0 n) n 0) := downI_new fun k a b h2 hk ha hb => by
    rw [swp_get ha0 han, if_neg (by omega), if_neg (by omega)] at ha hb
    exact hH k a b (by omega) (by omega) ha hb
  have HLAST : Hid ((swp hs 0 n)[n]? = some a0) := by rw [Hid, swp_get ha0 han, if_pos rfl]
  clear h hB hH ha0 han
  go_enter Try.func86, Try.ntmps86
  go_wp2_with fail
  refine (pLen_any _ _ _ w).mono ?_
  rintro e w2 ⟨rfl, rfl⟩
  go_wp2_with fail
  refine HSW.out.mono ?_
  rintro e w3 ⟨rfl, j3, f3⟩
  have b3 : Blk w3 X cs t := (f3.block X hXl hX).trans HB.out
  have hc3 : w3.cell? ⟨X, o, none⟩ = some (.slice (some ⟨g, 0, none⟩) (n + 1) cap) := (b3.cell o).trans hcs
  have HD := hide (down_any base X o g cap (n + 1) n (swp hs 0 n) w3 hc3 j3 (by rw [swp_length, hn]) hX b3.lt (by omega) (by omega) HDI.out)
  have HB3 := hide b3
  have HF3 := hide f3
  clear j3 f3 b3
  go_wp2_with fail
  refine HD.out.mono ?_
  rintro e w4 ⟨⟨r, rfl⟩, hs4, j4, p4, h4, k4, f4⟩
  have b4 : Blk w4 X cs t := (f4.block X HB3.out.lt hX).trans HB3.out
  have hl4 : hs4.length = n + 1 := by rw [p4.length_eq, swp_length, hn]
  have g4 : hs4[n]? = some a0 := (k4 n (Nat.le_refl _)).trans HLAST.out
  have HPOP := hide (pPop_any base X o n cap g cs t hs4 a0 w4 b4 hcs j4 hl4 g4 hX (by omega))
  have hm4 := meth_pop w4 ⟨X, o, none⟩
  have HF4 : Hid (Fr (fun k => k = X ∨ k = g) w2 w4) := (HF3.out.trans f4 fun _ _ x => x).mono fun _ _ x => .inr x
  have HP4 : Hid (hs4.Perm hs) := p4.trans (swp_perm _ _ _)
  have HH4 := hide h4
  have HG4 := hide g4
  clear j4 p4 h4 k4 f4 b4 g4
  go_wp2_with fail
  refine HPOP.out.mono ?_
  rintro e w5 ⟨rfl, b5, j5, f5⟩
  have HE : Hid (∃ j hs', (jobV a0 = jobV j) ∧ Blk w5 X (cs.setIfInBounds o (.slice (some ⟨g, 0, none⟩) n cap)) t ∧ JobsP w5 base (.slice (some ⟨g, 0, none⟩) n cap) hs' ∧ (j :: hs').Perm hs ∧ (∀ b ∈ hs, jle j b) ∧ Heapy hs' hs'.length ∧ Fr (fun k => k = X ∨ k = g) w2 w5) := by
    refine ⟨a0, hs4.take n, rfl, b5, j5, ?_, HMIN.out, ?_, HF4.out.trans f5 fun _ _ x => .inl x⟩
    · refine List.Perm.trans ?_ HP4.out
      have e : hs4 = hs4.take n ++ [a0] := by
        have := take_snoc HG4.out
        rw [List.take_of_length_le (by omega)] at this
        exact this
      rw [e, List.take_append_of_le_length (by simp [hl4]), List.take_take, Nat.min_self]
      exact List.perm_append_comm (l₁ := [a0])
    · have := heapy_take HH4.out
      rw [List.length_take, hl4, Nat.min_eq_left (Nat.le_succ n)]
      exact this
  clear b5 j5 f5
  go_wp2
  go_ret
  obtain ⟨j, hs', e1, r⟩ := HE.out
  exact ⟨j, hs', by rw [← e1]; rfl, r⟩

end Go.Proofs.Ythloffgebebijaa
