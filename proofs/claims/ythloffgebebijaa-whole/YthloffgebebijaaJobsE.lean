/- JobsE: the walks of the queue's Put, Take, Len. -/
import Derived.Test.YthloffgebebijaaJobsD
namespace Go.Proofs.Ythloffgebebijaa
open Go.RowKit

/-- The queue's cell at ⟨X, o⟩ of a block, as a heap of the jobs hs. -/
structure QueP (w : World) (base X o : Nat) (cs : Array Value) (t : TypeId) (v : Value) (hs : List Jb) : Prop where
  blk : Blk w X cs t
  at_ : cs[o]? = some v
  row : JobsP w base v hs
  ne : v.ownBlock ≠ some X
  heap : Heapy hs hs.length

theorem QueP.same {w w' : World} {base X o : Nat} {cs : Array Value} {t : TypeId} {v : Value} {hs : List Jb} (h : QueP w base X o cs t v hs) (hk : ∀ k, k = X ∨ v.ownBlock = some k → w'.heap[k]? = w.heap[k]?) : QueP w' base X o cs t v hs :=
  ⟨(hk X (.inl rfl)).trans h.blk, h.at_, h.row.same fun k e => hk k (.inr e), h.ne, h.heap⟩

theorem qLen_any (base X o : Nat) (cs : Array Value) (t : TypeId) (v : Value) (hs : List Jb) (w : World) (h : QueP w base X o cs t v hs) :
    Calls Try.prog 42 #[.pointer (some ⟨X, o, none⟩)] w fun e w' => e = .returned (.int .i64 hs.length) ∧ w' = w := by
  obtain ⟨a, c, hv⟩ := ownsRow_slice h.row
  subst hv
  have hc : w.cell? ⟨X, o, none⟩ = some (.slice a hs.length c) := (h.blk.cell o).trans h.at_
  clear h
  go_enter Try.func42, Try.ntmps42
  go_wp2
  go_ret
  exact ⟨rfl, rfl⟩

set_option maxRecDepth 100000 in
set_option maxHeartbeats 1600000 in
theorem qPut_any (base X o : Nat) (cs : Array Value) (t : TypeId) (v : Value) (hs : List Jb) (j : Jb) (w : World) (h : QueP w base X o cs t v hs) (hlen : hs.length ≤ 900000) (hbase : base ≤ w.heap.size) :
    Calls Try.prog 85 #[.pointer (some ⟨X, o, none⟩), jobV j] w fun e w' => e = .returned (.tuple #[]) ∧ ∃ v' hs', QueP w' base X o (cs.setIfInBounds o v') t v' hs' ∧ hs'.Perm (hs ++ [j]) ∧ Fr (fun k => k = X ∨ v.ownBlock = some k) w w' ∧ (v'.ownBlock = v.ownBlock ∨ ∃ k, v'.ownBlock = some k ∧ w.heap.size ≤ k) := by
  have hXl := h.blk.lt
  have ho : o < cs.size := by
    rcases Nat.lt_or_ge o cs.size with h' | h'
    · exact h'
    · have := h.at_; rw [Array.getElem?_eq_none h'] at this; cases this
  have HQ := hide h
  have hc : w.cell? ⟨X, o, none⟩ = some v := (h.blk.cell o).trans h.at_
  clear h
  obtain ⟨jn, jt, jd, jc⟩ := j
  have HP : Hid (∀ w1, Below w.heap.size w w1 → w.heap.size ≤ w1.heap.size → Calls Try.prog 87 #[.iface 159 (.pointer (some ⟨X, o, none⟩)), .iface 151 (.agg #[.int .i64 jn, .int .i64 jt, .int .i64 jc, .int .i64 jd])] w1 fun e w' => e = .returned (.tuple #[]) ∧ ∃ v' hs', QueP w' base X o (cs.setIfInBounds o v') t v' hs' ∧ hs'.Perm (hs ++ [⟨jn, jt, jd, jc⟩]) ∧ Fr (fun k => k = X ∨ v.ownBlock = some k) w w' ∧ (v'.ownBlock = v.ownBlock ∨ ∃ k, v'.ownBlock = some k ∧ w.heap.size ≤ k)) := by
    intro w1 hb hz
    refine (hPush_any base X o cs t v hs ⟨jn, jt, jd, jc⟩ w1 (HQ.out.blk.later hb hXl) HQ.out.at_ (HQ.out.row.later hb) HQ.out.ne HQ.out.heap hlen (by omega)).mono ?_
    rintro e w' ⟨rfl, v', hs', b', j', p', h', f', o'⟩
    refine ⟨rfl, v', hs', ⟨b', by simp [ho], j', ?_, h'⟩, p', (Fr.of_below (X := fun k => k = X ∨ v.ownBlock = some k) hb).trans f' fun _ _ x => x, o'.imp id fun ⟨k, e, hk⟩ => ⟨k, e, by omega⟩⟩
    intro e
    rcases o' with e' | ⟨k, e', hk⟩
    · exact HQ.out.ne (e'.symm.trans e)
    · rw [e] at e'; cases e'; omega
  simp only [jobV]
  go_enter Try.func85, Try.ntmps85
  go_wp2_with fail
  have HB0 : Hid (Below w.heap.size w (w.alloc (.cells #[.int .i64 jn, .int .i64 jt, .int .i64 jc, .int .i64 jd] 151)).drew) := ((Below.refl _ _).alloc (Nat.le_refl _) _).drew
  apply wp_someW (fun (w3 : World) => ∃ v' hs', QueP w3 base X o (cs.setIfInBounds o v') t v' hs' ∧ hs'.Perm (hs ++ [⟨jn, jt, jd, jc⟩]) ∧ Fr (fun k => k = X ∨ v.ownBlock = some k) w w3 ∧ (v'.ownBlock = v.ownBlock ∨ ∃ k, v'.ownBlock = some k ∧ w.heap.size ≤ k))
  case h =>
    go_region_with (first
      | (go_at_call 87; refine (HP.out _ HB0.out (by simp)).mono ?_; rintro e w3 ⟨rfl, hq⟩; have HQ3 := hide hq; clear hq))
    all_goals exact ⟨w3, HQ3.out, rfl, rfl⟩
  rintro w3 hq3
  have HQ3 := hide hq3
  clear hq3
  go_wp2
  go_end0
  exact ⟨rfl, HQ3.out⟩

set_option maxRecDepth 100000 in
set_option maxHeartbeats 1600000 in
theorem qTake_any (base X o : Nat) (cs : Array Value) (t : TypeId) (v : Value) (hs : List Jb) (w : World) (h : QueP w base X o cs t v hs) (hne : hs ≠ []) (hlen : hs.length ≤ 900000) :
    Calls Try.prog 78 #[.pointer (some ⟨X, o, none⟩)] w fun e w' => ∃ j v' hs', e = .returned (jobV j) ∧ QueP w' base X o (cs.setIfInBounds o v') t v' hs' ∧ (j :: hs').Perm hs ∧ (∀ b ∈ hs, jle j b) ∧ Fr (fun k => k = X ∨ v.ownBlock = some k) w w' ∧ v'.ownBlock = v.ownBlock := by
  have hXl := h.blk.lt
  have ho : o < cs.size := by
    rcases Nat.lt_or_ge o cs.size with h' | h'
    · exact h'
    · have := h.at_; rw [Array.getElem?_eq_none h'] at this; cases this
  have hpos : 0 < hs.length := List.length_pos_iff.2 hne
  obtain ⟨n, hn⟩ : ∃ n, hs.length = n + 1 := ⟨hs.length - 1, by omega⟩
  obtain ⟨g, cap, hv, hc1, hc2⟩ := ownsRow_some h.row hpos
  subst hv
  rw [hn] at h
  have hgX : X ≠ g := fun e => h.ne (by simp [Value.ownBlock, e])
  have hH : Heapy hs hs.length := hn ▸ h.heap
  have HQ := hide h
  have hc : w.cell? ⟨X, o, none⟩ = some (.slice (some ⟨g, 0, none⟩) (n + 1) cap) := (h.blk.cell o).trans h.at_
  clear h
  have HP : Hid (∀ w1, Below w.heap.size w w1 → Calls Try.prog 86 #[.iface 159 (.pointer (some ⟨X, o, none⟩))] w1 fun e w' => ∃ j hs', e = .returned (.iface 151 (jobV j)) ∧ (QueP w' base X o (cs.setIfInBounds o (.slice (some ⟨g, 0, none⟩) n cap)) t (.slice (some ⟨g, 0, none⟩) n cap) hs' ∧ (j :: hs').Perm hs ∧ (∀ b ∈ hs, jle j b)) ∧ Fr (fun k => k = X ∨ k = g) w1 w') := by
    intro w1 hb
    refine (hPop_any base X o n cap g cs t hs w1 (HQ.out.blk.later hb hXl) HQ.out.at_ (HQ.out.row.later hb) hn hgX hH (by omega)).mono ?_
    rintro e w' ⟨j, hs', rfl, b', j', p', m', h', f'⟩
    exact ⟨j, hs', rfl, ⟨⟨b', by simp [ho], j', by simp [Value.ownBlock]; exact fun e => hgX e.symm, h'⟩, p', m'⟩, f'⟩
  go_enter Try.func78, Try.ntmps78
  go_wp2_with fail
  have hb0 : Below w.heap.size w (w.alloc (.cells #[.int .i64 0, .int .i64 0, .int .i64 0, .int .i64 0] 151)) := (Below.refl _ _).alloc (Nat.le_refl _) _
  refine (HP.out _ hb0).mono ?_
  rintro e w2 ⟨⟨jn, jt, jd, jc⟩, hs', rfl, hq, f2⟩
  have hgl : g < w.heap.size := (ownsRow_lt HQ.out.row (k := g) rfl).2
  have HR : Hid (Blk w2 w.heap.size #[.int .i64 0, .int .i64 0, .int .i64 0, .int .i64 0] 151) := (f2.block w.heap.size (by simp) (by rintro (e | e) <;> omega)).trans (Blk.new w _ _)
  have r0 := HR.out.cell 0
  have r1 := HR.out.cell 1
  have r2 := HR.out.cell 2
  have r3 := HR.out.cell 3
  have z0 := HR.out.free 0
  have z1 := HR.out.free 1
  have z2 := HR.out.free 2
  have z3 := HR.out.free 3
  simp at r0 r1 r2 r3
  have hta := assert_job (.agg #[.int .i64 jn, .int .i64 jt, .int .i64 jc, .int .i64 jd]) w2
  have HQ2 := hide hq
  have HF2 : Hid (Fr (fun k => k = X ∨ k = g) w w2) := (Fr.of_below (X := fun k => k = X ∨ k = g) hb0).trans f2 fun _ _ x => x
  have HZ : Hid (w.heap.size < w2.heap.size) := HR.out.lt
  clear hq f2 hb0
  simp only [jobV]
  repeat (first | go_values | go_skip | go_guarded | go_step | go_upon)
  have HF := (((HR.out.set 0 (.int .i64 jn)).set 1 (.int .i64 jt)).set 2 (.int .i64 jc)).set 3 (.int .i64 jd)
  have s0 := HF.cell 0
  have s1 := HF.cell 1
  have s2 := HF.cell 2
  have s3 := HF.cell 3
  simp at s0 s1 s2 s3
  have hk : ∀ k, k ≠ w.heap.size → ((((w2.setCell ⟨w.heap.size, 0, none⟩ (.int .i64 jn)).setCell ⟨w.heap.size, 1, none⟩ (.int .i64 jt)).setCell ⟨w.heap.size, 2, none⟩ (.int .i64 jc)).setCell ⟨w.heap.size, 3, none⟩ (.int .i64 jd)).heap[k]? = w2.heap[k]? := by
    intro k hk
    rw [heap_setCell_other _ ⟨w.heap.size, 3, none⟩ k _ hk, heap_setCell_other _ ⟨w.heap.size, 2, none⟩ k _ hk, heap_setCell_other _ ⟨w.heap.size, 1, none⟩ k _ hk, heap_setCell_other _ ⟨w.heap.size, 0, none⟩ k _ hk]
  have hq : QueP ((((w2.setCell ⟨w.heap.size, 0, none⟩ (.int .i64 jn)).setCell ⟨w.heap.size, 1, none⟩ (.int .i64 jt)).setCell ⟨w.heap.size, 2, none⟩ (.int .i64 jc)).setCell ⟨w.heap.size, 3, none⟩ (.int .i64 jd)) base X o (cs.setIfInBounds o (.slice (some ⟨g, 0, none⟩) n cap)) t (.slice (some ⟨g, 0, none⟩) n cap) hs' :=
    HQ2.out.1.same fun k e => hk k (by
      rcases e with e | e
      · omega
      · simp only [Value.ownBlock, Option.some.injEq] at e; omega)
  have hf := (((HF2.out.setNew 0 (.int .i64 jn) (Nat.le_refl _)).setNew 1 (.int .i64 jt) (Nat.le_refl _)).setNew 2 (.int .i64 jc) (Nat.le_refl _)).setNew 3 (.int .i64 jd) (Nat.le_refl _)
  refine bodyPost_ret (v := .agg #[.int .i64 jn, .int .i64 jt, .int .i64 jc, .int .i64 jd]) (by simp [results, Try.results78, go_sem, s0, s1, s2, s3]) rfl ⟨⟨jn, jt, jd, jc⟩, .slice (some ⟨g, 0, none⟩) n cap, hs', rfl, hq, HQ2.out.2.1, HQ2.out.2.2, hf.mono ?_, rfl⟩
  rintro q _ (e | e)
  · exact .inl e
  · exact .inr (by simp [Value.ownBlock, e])

end Go.Proofs.Ythloffgebebijaa
