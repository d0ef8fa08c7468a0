/- RexA: the reference's executive in memory: its rows, the configuration that it keeps; its New. -/
import Derived.Test.YthloffgebebijaaGreatExecK
import Derived.Test.YthloffgebebijaaGreatRndA
import Derived.Test.YthloffgebebijaaGreatLineK
import Derived.Test.YthloffgebebijaaGreatRefK
import Derived.Deep.RegionWith
import Derived.Deep.CutBlock
import Derived.Deep.DeepCutAuto
import Derived.Deep.OwnRows
import Derived.Deep.DeepMust
import Derived.Deep.RegionLaw
import Derived.Deep.LoopGhost
import Derived.Laws.AppendOwnNone
import Derived.Maps.AppendAt
namespace Go.Proofs.YthloffgebebijaaGreat
open Go.RowKit

/-- Limits that are read, in blocks of T. -/
def LimsQ (w : World) (T : Nat → Prop) (v : Value) (ls : List (Int × Int)) : Prop :=
  ∃ a cap, v = .slice a ls.length cap ∧ (ls = [] ∨ ∃ b o, a = some ⟨b, o, none⟩ ∧ T b ∧ ∀ i l, ls[i]? = some l → LimAt w b (o + i * 2) l)
def TaskAtQ (w : World) (T : Nat → Prop) (b o : Nat) (t : Tk) : Prop :=
  w.cell? ⟨b, o, none⟩ = some (.int .i64 t.cost) ∧ w.cell? ⟨b, o + 1, none⟩ = some (.int .i64 t.due) ∧ ∃ s, w.cell? ⟨b, o + 2, none⟩ = some s ∧ LimsQ w T s t.lims
/-- Tasks that are read, in blocks of T. -/
def TasksQ (w : World) (T : Nat → Prop) (v : Value) (ts : List Tk) : Prop :=
  ∃ a cap, v = .slice a ts.length cap ∧ (ts = [] ∨ ∃ b o, a = some ⟨b, o, none⟩ ∧ T b ∧ ∀ i t, ts[i]? = some t → TaskAtQ w T b (o + i * 3) t)
theorem cell_same {w w' : World} {b : Nat} (h : w'.heap[b]? = w.heap[b]?) (o : Nat) : w'.cell? ⟨b, o, none⟩ = w.cell? ⟨b, o, none⟩ := by
  unfold World.cell?
  simp only
  rw [h]
theorem LimsQ.same {w w' : World} {T : Nat → Prop} {v : Value} {ls : List (Int × Int)} (h : LimsQ w T v ls) (hs : ∀ k, T k → w'.heap[k]? = w.heap[k]?) : LimsQ w' T v ls := by
  obtain ⟨a, cap, hv, h⟩ := h
  exact ⟨a, cap, hv, h.imp id fun ⟨b, o, ha, hb, hc⟩ => ⟨b, o, ha, hb, fun i l hi => ⟨(cell_same (hs b hb) _).trans (hc i l hi).1, (cell_same (hs b hb) _).trans (hc i l hi).2⟩⟩⟩
theorem TasksQ.same {w w' : World} {T : Nat → Prop} {v : Value} {ts : List Tk} (h : TasksQ w T v ts) (hs : ∀ k, T k → w'.heap[k]? = w.heap[k]?) : TasksQ w' T v ts := by
  obtain ⟨a, cap, hv, h⟩ := h
  refine ⟨a, cap, hv, h.imp id fun ⟨b, o, ha, hb, hc⟩ => ⟨b, o, ha, hb, fun i t hi => ?_⟩⟩
  obtain ⟨h1, h2, s, h3, h4⟩ := hc i t hi
  exact ⟨(cell_same (hs b hb) _).trans h1, (cell_same (hs b hb) _).trans h2, s, (cell_same (hs b hb) _).trans h3, h4.same hs⟩
theorem TasksQ.tasks {w : World} {T : Nat → Prop} {v : Value} {ts : List Tk} {B : Nat} (h : TasksQ w T v ts) (hT : ∀ k, T k → k < B) : Tasks w B v ts := by
  obtain ⟨a, cap, hv, h⟩ := h
  refine ⟨a, cap, hv, h.imp id fun ⟨b, o, ha, hb, hc⟩ => ⟨b, o, ha, hT b hb, fun i t hi => ?_⟩⟩
  obtain ⟨h1, h2, s, h3, a', cap', hv', h4⟩ := hc i t hi
  exact ⟨h1, h2, s, h3, a', cap', hv', h4.imp id fun ⟨b', o', ha', hb', hc'⟩ => ⟨b', o', ha', hT b' hb', hc'⟩⟩
theorem Tasks.inQ {w : World} {v : Value} {ts : List Tk} {B : Nat} (h : Tasks w B v ts) : TasksQ w (fun k => k < B) v ts := by
  obtain ⟨a, cap, hv, h⟩ := h
  refine ⟨a, cap, hv, h.imp id fun ⟨b, o, ha, hb, hc⟩ => ⟨b, o, ha, hb, fun i t hi => ?_⟩⟩
  obtain ⟨h1, h2, s, h3, a', cap', hv', h4⟩ := hc i t hi
  exact ⟨h1, h2, s, h3, a', cap', hv', h4⟩
theorem TasksQ.slice {w : World} {T : Nat → Prop} {v : Value} {ts : List Tk} (h : TasksQ w T v ts) : ∃ a cap, v = .slice a ts.length cap := by
  obtain ⟨a, cap, hv, _⟩ := h
  exact ⟨a, cap, hv⟩

/-- Bytes with their ticks, in a row of the reference's own. -/
def RFedP (w : World) (base : Nat) (v : Value) (l : List Fd) : Prop := w.ownsRow base 146 2 v l.length (frow l)
def rjCells (j : Jb) : List Value := [.int .i64 j.number, .int .i64 j.task, .int .i64 j.deadline, .int .i64 j.cost]
def rjrow (js : List Jb) : List Value := (js.map rjCells).flatten
theorem rjrow_append (a b : List Jb) : rjrow (a ++ b) = rjrow a ++ rjrow b := by simp [rjrow]
/-- Jobs that wait, in a row of the reference's own. -/
def RJobP (w : World) (base : Nat) (v : Value) (js : List Jb) : Prop := w.ownsRow base 169 4 v js.length (rjrow js)
theorem info_rfed : (Tryz.prog.info? 146).map (fun i => (i.zero, i.size, i.bytes)) = some (some (.agg #[.int .u8 0, .int .i64 0]), 2, 16) := by kernel_rfl
theorem info_rjob : (Tryz.prog.info? 169).map (fun i => (i.zero, i.size, i.bytes)) = some (some (.agg #[.int .i64 0, .int .i64 0, .int .i64 0, .int .i64 0]), 4, 32) := by kernel_rfl
theorem info_rlin : (Tryz.prog.info? 143).map (fun i => (i.zero, i.size, i.bytes)) = some (some (.slice none 0 0), 1, 24) := by kernel_rfl

/-- The cells of the reference's executive. -/
def rcs (c : Cfg) (tv lv jv : Value) (clock fed : Int) (ct : Ct) : Array Value := #[.int .i64 c.lines, .int .i64 c.room, .int .i64 c.poll, .int .i64 c.idle, .int .i64 c.sw, tv, lv, jv, .int .i64 clock, .int .i64 fed, .int .i64 0, .int .i64 ct.jobs, .int .i64 ct.done, .int .i64 0, .int .i64 ct.lost, .int .i64 ct.unknown, .int .i64 ct.bad, .int .i64 ct.spilled, .int .i64 0]
/-- The reference's executive in memory: its own blocks in S, the configuration that it keeps in T. -/
structure RecP (w : World) (S T : Nat → Prop) (base Y L : Nat) (x : Exs) (tv jv : Value) (lvs : List Value) : Prop where
  blk : Blk w Y (rcs x.cfg tv (.slice (some ⟨L, 0, none⟩) lvs.length lvs.length) jv x.clock x.fed x.ct) 142
  lns : Blk w L lvs.toArray 143
  len : lvs.length = x.lines.length
  row : ∀ (i : Nat) v l, lvs[i]? = some v → x.lines[i]? = some l → RFedP w base v l
  jbs : RJobP w base jv x.jobs
  ts : TasksQ w T tv x.cfg.tasks
  tl : ∀ k, T k → k < w.heap.size ∧ ¬ S k
  sy : S Y
  sl : S L
  sj : ∀ k, jv.ownBlock = some k → S k
  sr : ∀ (i : Nat) v k, lvs[i]? = some v → v.ownBlock = some k → S k
  sep : ∀ (i j : Nat) v u k, lvs[i]? = some v → lvs[j]? = some u → v.ownBlock = some k → u.ownBlock = some k → i = j
def Rec (w : World) (S T : Nat → Prop) (base Y : Nat) (x : Exs) : Prop := ∃ L tv jv lvs, RecP w S T base Y L x tv jv lvs
theorem RecP.same {w w' : World} {S T : Nat → Prop} {base Y L : Nat} {x : Exs} {tv jv : Value} {lvs : List Value} (h : RecP w S T base Y L x tv jv lvs) (hk : ∀ k, S k ∨ T k → w'.heap[k]? = w.heap[k]?) (hz : w.heap.size ≤ w'.heap.size) : RecP w' S T base Y L x tv jv lvs :=
  ⟨(hk Y (.inl h.sy)).trans h.blk, (hk L (.inl h.sl)).trans h.lns, h.len, fun i v l hv hl => ownsRow_same (h.row i v l hv hl) fun k e => hk k (.inl (h.sr i v k hv e)), ownsRow_same h.jbs fun k e => hk k (.inl (h.sj k e)), h.ts.same fun k e => hk k (.inr e), fun k e => ⟨Nat.lt_of_lt_of_le (h.tl k e).1 hz, (h.tl k e).2⟩, h.sy, h.sl, h.sj, h.sr, h.sep⟩
theorem RecP.mono {w : World} {S S' T : Nat → Prop} {base Y L : Nat} {x : Exs} {tv jv : Value} {lvs : List Value} (h : RecP w S T base Y L x tv jv lvs) (hs : ∀ k, k < w.heap.size → S k → S' k) (ht : ∀ k, T k → ¬ S' k) : RecP w S' T base Y L x tv jv lvs := by
  have hrow : ∀ (i : Nat) v k, lvs[i]? = some v → v.ownBlock = some k → k < w.heap.size := fun i v k hv e => by
    obtain ⟨l, hl⟩ := get_of_lt (l := x.lines) (k := i) (by have := lt_of_get hv; have := h.len; omega)
    exact (ownsRow_lt (h.row i v l hv hl) e).2
  exact ⟨h.blk, h.lns, h.len, h.row, h.jbs, h.ts, fun k e => ⟨(h.tl k e).1, ht k e⟩, hs Y h.blk.lt h.sy, hs L h.lns.lt h.sl, fun k e => hs k (ownsRow_lt h.jbs e).2 (h.sj k e), fun i v k hv e => hs k (hrow i v k hv e) (h.sr i v k hv e), h.sep⟩

theorem madeL (n : Nat) : (madeCells #[.slice none 0 0] n).toList = List.replicate n (.slice none 0 0) := by
  apply List.ext_getElem?
  intro i
  by_cases h : i < n
  · rw [List.getElem?_replicate, if_pos h]
    simp [madeCells, h, Nat.mod_one]
  · rw [List.getElem?_eq_none (by simp [madeCells]; omega), List.getElem?_eq_none (by simp; omega)]

set_option maxRecDepth 100000 in
set_option maxHeartbeats 1600000 in
theorem rNew_no (tv : Value) (B : Nat) (c : Cfg) (w : World) (ht : Tasks w B tv c.tasks) (hB : B ≤ w.heap.size) (hok : cfgOk c = false) :
    Calls Tryz.prog 37 #[.agg #[.int .i64 c.lines, .int .i64 c.room, .int .i64 c.poll, .int .i64 c.idle, .int .i64 c.sw, tv]] w fun e w' => e = .returned (.tuple #[.pointer none, .int .i64 1]) ∧ Below w.heap.size w w' := by
  have hb0 : Below w.heap.size w (w.alloc (.cells #[.int .i64 c.lines, .int .i64 c.room, .int .i64 c.poll, .int .i64 c.idle, .int .i64 c.sw, tv] 40)) := (Below.refl _ _).alloc (Nat.le_refl _) _
  have HF := hide (refFits_any _ B c _ ⟨tv, rfl, ht.later hb0 hB⟩ (by simp; omega))
  have HB0 := hide hb0
  obtain ⟨ta, tc, rfl⟩ := ht.slice
  rw [hok] at HF
  clear ht hb0
  go_enter Tryz.func37, Tryz.ntmps37
  go_wp2_with fail
  refine HF.out.mono ?_
  rintro e w1 ⟨rfl, b1⟩
  have HB1 : Hid (Below w.heap.size w w1) := HB0.out.trans (b1.mono (by simp))
  clear b1
  go_wp2_with fail
  go_ret2
  exact ⟨rfl, HB1.out⟩

set_option maxRecDepth 100000 in
set_option maxHeartbeats 1600000 in
theorem rNew_yes (tv : Value) (T : Nat → Prop) (c : Cfg) (w : World) (ht : TasksQ w T tv c.tasks) (hT : ∀ k, T k → k < w.heap.size) (hok : cfgOk c = true) :
    Calls Tryz.prog 37 #[.agg #[.int .i64 c.lines, .int .i64 c.room, .int .i64 c.poll, .int .i64 c.idle, .int .i64 c.sw, tv]] w fun e w' => ∃ Y, e = .returned (.tuple #[.pointer (some ⟨Y, 0, none⟩), .int .i64 0]) ∧ Rec w' (fun k => w.heap.size ≤ k) T w.heap.size Y (exNew c) ∧ Below w.heap.size w w' := by
  have hb0 : Below w.heap.size w (w.alloc (.cells #[.int .i64 c.lines, .int .i64 c.room, .int .i64 c.poll, .int .i64 c.idle, .int .i64 c.sw, tv] 40)) := (Below.refl _ _).alloc (Nat.le_refl _) _
  have HF := hide (refFits_any _ w.heap.size c _ ⟨tv, rfl, (ht.tasks hT).later hb0 (Nat.le_refl _)⟩ (by simp))
  have HB0 := hide hb0
  have HK0 := hide (Blk.new w #[.int .i64 c.lines, .int .i64 c.room, .int .i64 c.poll, .int .i64 c.idle, .int .i64 c.sw, tv] 40)
  have HT := hide ht
  obtain ⟨ta, tc, rfl⟩ := ht.slice
  obtain ⟨⟨c1, c2⟩, -⟩ := cfgNum hok
  rw [hok] at HF
  obtain ⟨ln, hln⟩ : ∃ n : Nat, c.lines = n := ⟨c.lines.toNat, by omega⟩
  have HLN := hide hln
  clear ht hb0 hln
  go_enter Tryz.func37, Tryz.ntmps37
  go_wp2_with fail
  refine HF.out.mono ?_
  rintro e w1 ⟨rfl, b1⟩
  have hk1 := HK0.out.later b1 (by simp)
  have hz1 := b1.size
  have hwl := hk1.lt
  have k0 : w1.cell? ⟨w.heap.size, 0, none⟩ = some (.int .i64 ln) := by rw [← HLN.out]; exact hk1.cell 0
  have k1 : w1.cell? ⟨w.heap.size, 1, none⟩ = some (.int .i64 c.room) := hk1.cell 1
  have k2 : w1.cell? ⟨w.heap.size, 2, none⟩ = some (.int .i64 c.poll) := hk1.cell 2
  have k3 : w1.cell? ⟨w.heap.size, 3, none⟩ = some (.int .i64 c.idle) := hk1.cell 3
  have k4 : w1.cell? ⟨w.heap.size, 4, none⟩ = some (.int .i64 c.sw) := hk1.cell 4
  have k5 : w1.cell? ⟨w.heap.size, 5, none⟩ = some (.slice ta c.tasks.length tc) := hk1.cell 5
  have HB1 : Hid (Below w.heap.size w w1) := HB0.out.trans (b1.mono (by simp))
  clear b1 hk1
  rw [HLN.out] at c1 c2
  have hmk := run_make_row' (P := Tryz.prog) 139 143 (.slice none 0 0) 24 Tryz.underlying139 info_rlin rfl .i64 .i64 ln (by omega) (by omega)
  go_upto_region 4 with (fail)
  go_region
  have HK2 := hide (Blk.new w1 (madeCells #[Value.slice none 0 0] ln) 143)
  have HKY := hide (Blk.new (w1.alloc (.cells (madeCells #[Value.slice none 0 0] ln) 143)) #[.int .i64 ln, .int .i64 c.room, .int .i64 c.poll, .int .i64 c.idle, .int .i64 c.sw, .slice ta c.tasks.length tc, .slice (some ⟨w1.heap.size, 0, none⟩) ln ln, .slice none 0 0, .int .i64 0, .int .i64 0, .int .i64 0, .int .i64 0, .int .i64 0, .int .i64 0, .int .i64 0, .int .i64 0, .int .i64 0, .int .i64 0, .int .i64 0] 142)
  have HZ1 : Hid (w.heap.size < w1.heap.size) := hwl
  go_wp2_with fail
  go_ret2
  have hz2 : (w1.alloc (.cells (madeCells #[Value.slice none 0 0] ln) 143)).heap.size = w1.heap.size + 1 := by simp
  have hk2 := HK2.out.alloc (.cells #[.int .i64 ln, .int .i64 c.room, .int .i64 c.poll, .int .i64 c.idle, .int .i64 c.sw, .slice ta c.tasks.length tc, .slice (some ⟨w1.heap.size, 0, none⟩) ln ln, .slice none 0 0, .int .i64 0, .int .i64 0, .int .i64 0, .int .i64 0, .int .i64 0, .int .i64 0, .int .i64 0, .int .i64 0, .int .i64 0, .int .i64 0, .int .i64 0] 142)
  have hky := HKY.out
  rw [hz2] at hky
  have e1 : madeCells #[Value.slice none 0 0] ln = (List.replicate ln (Value.slice none 0 0)).toArray := by rw [← madeL]
  have hbb : Below w1.heap.size w1 ((w1.alloc (.cells (madeCells #[Value.slice none 0 0] ln) 143)).alloc (.cells #[.int .i64 ln, .int .i64 c.room, .int .i64 c.poll, .int .i64 c.idle, .int .i64 c.sw, .slice ta c.tasks.length tc, .slice (some ⟨w1.heap.size, 0, none⟩) ln ln, .slice none 0 0, .int .i64 0, .int .i64 0, .int .i64 0, .int .i64 0, .int .i64 0, .int .i64 0, .int .i64 0, .int .i64 0, .int .i64 0, .int .i64 0, .int .i64 0] 142)).drew := (((Below.refl _ _).alloc (Nat.le_refl _) _).alloc (by simp) _).drew
  have hbw := HB1.out.trans (hbb.mono (Nat.le_of_lt HZ1.out))
  have hsz := hbw.size
  have hz1' := HZ1.out
  refine ⟨w1.heap.size + 1, rfl, ⟨w1.heap.size, .slice ta c.tasks.length tc, .slice none 0 0, List.replicate ln (.slice none 0 0), ?_⟩, hbw⟩
  have hget : ∀ (i : Nat) v, (List.replicate ln (Value.slice none 0 0))[i]? = some v → v = .slice none 0 0 := fun i v hv => by
    have := List.mem_of_getElem? hv
    exact (List.mem_replicate.1 this).2
  exact {
    blk := by
      simp only [List.length_replicate]
      show Blk _ _ (rcs c _ _ _ 0 0 ⟨0, 0, 0, 0, 0, 0⟩) _
      unfold rcs
      rw [HLN.out]
      exact hky.drew
    lns := by rw [← e1]; exact hk2.drew
    len := by simp only [List.length_replicate, exNew]; rw [HLN.out]; simp
    row := fun i v l hv hl => by
      rw [hget i v hv]
      simp only [exNew] at hl
      rw [(List.mem_replicate.1 (List.mem_of_getElem? hl)).2]
      exact World.ownsRow_nil _ _ _ _
    jbs := World.ownsRow_nil _ _ _ _
    ts := HT.out.same fun k hk => hbw.block k (hT k hk)
    tl := fun k hk => ⟨Nat.lt_of_lt_of_le (hT k hk) hsz, by have := hT k hk; omega⟩
    sy := by omega
    sl := by omega
    sj := fun k hk => by simp [Value.ownBlock] at hk
    sr := fun i v k hv hk => by rw [hget i v hv] at hk; simp [Value.ownBlock] at hk
    sep := fun i j v u k hv _ hk _ => by rw [hget i v hv] at hk; simp [Value.ownBlock] at hk }

theorem lvs_lt {w : World} {S T : Nat → Prop} {base Y L : Nat} {x : Exs} {tv jv : Value} {lvs : List Value} (h : RecP w S T base Y L x tv jv lvs) {i : Nat} {v : Value} {k : Nat} (hv : lvs[i]? = some v) (e : v.ownBlock = some k) : k < w.heap.size := by
  obtain ⟨l, hl⟩ := get_of_lt (l := x.lines) (k := i) (by have := lt_of_get hv; have := h.len; omega)
  exact (ownsRow_lt (h.row i v l hv hl) e).2
theorem lvs_ne {w : World} {S T : Nat → Prop} {base Y L : Nat} {x : Exs} {tv jv : Value} {lvs : List Value} (h : RecP w S T base Y L x tv jv lvs) {i : Nat} {v : Value} (hv : lvs[i]? = some v) : v.ownBlock ≠ some Y ∧ v.ownBlock ≠ some L := by
  obtain ⟨l, hl⟩ := get_of_lt (l := x.lines) (k := i) (by have := lt_of_get hv; have := h.len; omega)
  exact ⟨ownsRow_ne_blk (h.row i v l hv hl) h.blk (by decide), ownsRow_ne_blk (h.row i v l hv hl) h.lns (by decide)⟩
/-- One line turns: its row has been appended to, or another is laid in its place. -/
theorem RecP.line {w w' : World} {S T : Nat → Prop} {base Y L : Nat} {x : Exs} {tv jv : Value} {lvs : List Value} (h : RecP w S T base Y L x tv jv lvs) {i : Nat} {v v' : Value} {l' : List Fd} (hv : lvs[i]? = some v) (hf : Fr (fun k => v.ownBlock = some k) w w') (hr : RFedP w' base v' l') (ho : v'.ownBlock = v.ownBlock ∨ ∀ k, v'.ownBlock = some k → w.heap.size ≤ k) :
    RecP (w'.setCell ⟨L, i, none⟩ v') (fun k => S k ∨ w.heap.size ≤ k) T base Y L { x with lines := x.lines.set i l' } tv jv (lvs.set i v') := by
  have hYL : Y ≠ L := fun e => by
    have h1 := h.blk
    have h2 := h.lns
    rw [e] at h1
    unfold Blk at h1 h2
    rw [h1] at h2
    simp at h2
  have hvn := lvs_ne h hv
  have hil := lt_of_get hv
  have hY : Blk w' Y _ _ := (hf.block Y h.blk.lt hvn.1).trans h.blk
  have hL : Blk w' L _ _ := (hf.block L h.lns.lt hvn.2).trans h.lns
  have hjn : jv.ownBlock ≠ some L := ownsRow_ne_blk h.jbs h.lns (by decide)
  have hvl : ∀ k, v'.ownBlock = some k → k ≠ L := fun k e hk => by
    rcases ho with ho | ho
    · rw [ho] at e; exact hvn.2 (hk ▸ e)
    · have := ho k e; have := h.lns.lt; omega
  have hget : ∀ (j : Nat) u, (lvs.set i v')[j]? = some u → (j = i ∧ u = v') ∨ (j ≠ i ∧ lvs[j]? = some u) := fun j u hu => by
    by_cases e : j = i
    · subst e
      rw [List.getElem?_set_self hil] at hu
      exact .inl ⟨rfl, by simpa using hu.symm⟩
    · rw [List.getElem?_set_ne (fun e' => e e'.symm)] at hu
      exact .inr ⟨e, hu⟩
  have hfree : ∀ (j : Nat) u, j ≠ i → lvs[j]? = some u → ∀ k, u.ownBlock = some k → v.ownBlock ≠ some k := fun j u hj hu k hk e => hj (h.sep j i u v k hu hv hk e)
  have hz : (w'.setCell ⟨L, i, none⟩ v').heap.size = w'.heap.size := by simp
  exact {
    blk := by
      have := hY.other (a := ⟨L, i, none⟩) hYL v'
      simpa using this
    lns := by
      have := hL.set i v'
      rwa [List.setIfInBounds_toArray] at this
    len := by rw [List.length_set, List.length_set]; exact h.len
    row := fun j u l hu hl => by
      rcases hget j u hu with ⟨rfl, rfl⟩ | ⟨hj, hu⟩
      · have hjl : j < x.lines.length := by have := h.len; omega
        simp only at hl
        rw [List.getElem?_set_self hjl] at hl
        simp only [Option.some.injEq] at hl
        subst hl
        exact ownsRow_same hr fun k e => heap_setCell_other w' ⟨L, j, none⟩ k _ (hvl k e)
      · simp only at hl
        rw [List.getElem?_set_ne (fun e' => hj e'.symm)] at hl
        have hrow := h.row j u l hu hl
        refine ownsRow_same hrow fun k e => ?_
        rw [heap_setCell_other w' ⟨L, i, none⟩ k _ (fun e' => (lvs_ne h hu).2 (by rw [e, e']))]
        exact hf.block k (ownsRow_lt hrow e).2 (hfree j u hj hu k e)
    jbs := ownsRow_same h.jbs fun k e => by
      rw [heap_setCell_other w' ⟨L, i, none⟩ k _ (fun e' => hjn (by rw [e, e']))]
      refine hf.block k (ownsRow_lt h.jbs e).2 fun e' => ?_
      obtain ⟨l, hl⟩ := get_of_lt (l := x.lines) (k := i) (by have := h.len; omega)
      exact ownsRow_ne h.jbs (h.row i v l hv hl) (by decide) e e'
    ts := h.ts.same fun k hk => by
      rw [heap_setCell_other w' ⟨L, i, none⟩ k _ (fun e' => (h.tl k hk).2 (e' ▸ h.sl))]
      exact hf.block k (h.tl k hk).1 fun e' => (h.tl k hk).2 (h.sr i v k hv e')
    tl := fun k hk => ⟨by rw [hz]; exact Nat.lt_of_lt_of_le (h.tl k hk).1 hf.size, fun e => e.elim (h.tl k hk).2 fun e => by have := (h.tl k hk).1; omega⟩
    sy := .inl h.sy
    sl := .inl h.sl
    sj := fun k e => .inl (h.sj k e)
    sr := fun j u k hu e => by
      rcases hget j u hu with ⟨rfl, rfl⟩ | ⟨hj, hu⟩
      · rcases ho with ho | ho
        · rw [ho] at e; exact .inl (h.sr j v k hv e)
        · exact .inr (ho k e)
      · exact .inl (h.sr j u k hu e)
    sep := fun j j' u u' k hu hu' e e' => by
      rcases hget j u hu with ⟨h1, h2⟩ | ⟨hj, h2⟩ <;> rcases hget j' u' hu' with ⟨h3, h4⟩ | ⟨hj', h4⟩
      · rw [h1, h3]
      · rw [h2] at e
        rcases ho with ho | ho
        · rw [ho] at e; rw [h1]; exact h.sep _ _ _ _ _ hv h4 e e'
        · have := ho k e; have := lvs_lt h h4 e'; omega
      · rw [h4] at e'
        rcases ho with ho | ho
        · rw [ho] at e'; rw [h3]; exact h.sep _ _ _ _ _ h2 hv e e'
        · have := ho k e'; have := lvs_lt h h2 e; omega
      · exact h.sep _ _ _ _ _ h2 h4 e e' }
/-- A number of the executive turns: a store into its block. -/
theorem RecP.cell {w : World} {S T : Nat → Prop} {base Y L : Nat} {x : Exs} {tv jv : Value} {lvs : List Value} (h : RecP w S T base Y L x tv jv lvs) (o : Nat) (u : Value) {clock fed : Int} {ct : Ct} (he : (rcs x.cfg tv (.slice (some ⟨L, 0, none⟩) lvs.length lvs.length) jv x.clock x.fed x.ct).setIfInBounds o u = rcs x.cfg tv (.slice (some ⟨L, 0, none⟩) lvs.length lvs.length) jv clock fed ct) :
    RecP (w.setCell ⟨Y, o, none⟩ u) S T base Y L { x with clock := clock, fed := fed, ct := ct } tv jv lvs := by
  have hLY : L ≠ Y := fun e => by
    have h1 := h.blk
    have h2 := h.lns
    rw [e] at h2
    unfold Blk at h1 h2
    rw [h1] at h2
    simp at h2
  have hjn : jv.ownBlock ≠ some Y := ownsRow_ne_blk h.jbs h.blk (by decide)
  exact {
    blk := by have := h.blk.set o u; rwa [he] at this
    lns := h.lns.other (a := ⟨Y, o, none⟩) hLY u
    len := h.len
    row := fun i v l hv hl => ownsRow_same (h.row i v l hv hl) fun k e => heap_setCell_other w ⟨Y, o, none⟩ k _ (fun e' => (lvs_ne h hv).1 (by rw [e, e']))
    jbs := ownsRow_same h.jbs fun k e => heap_setCell_other w ⟨Y, o, none⟩ k _ (fun e' => hjn (by rw [e, e']))
    ts := h.ts.same fun k hk => heap_setCell_other w ⟨Y, o, none⟩ k _ (fun e' => (h.tl k hk).2 (e' ▸ h.sy))
    tl := fun k hk => by simpa using h.tl k hk
    sy := h.sy
    sl := h.sl
    sj := h.sj
    sr := h.sr
    sep := h.sep }

end Go.Proofs.YthloffgebebijaaGreat

/- RexB: the walk of the reference's Feed. -/
namespace Go.Proofs.YthloffgebebijaaGreat
open Go.RowKit

/-- Feed, so far: bytes bs of one line. -/
def fedTo (x : Exs) (k : Nat) (t : Int) (bs : List Int) : Exs :=
  { x with lines := x.lines.set k (lineFeed t (x.lines.getD k []) bs).1, fed := t, ct := { x.ct with spilled := x.ct.spilled + (lineFeed t (x.lines.getD k []) bs).2 } }
theorem fedTo_nil (x : Exs) (k : Nat) (t : Int) : fedTo x k t [] = { x with clock := x.clock, fed := t, ct := x.ct } := by
  have h1 : x.lines.set k (x.lines.getD k []) = x.lines := by
    apply List.ext_getElem?
    intro i
    by_cases e : k = i
    · subst e
      by_cases hk : k < x.lines.length
      · rw [List.getElem?_set_self hk]
        simp [List.getD, hk]
      · rw [List.getElem?_eq_none (by rw [List.length_set]; omega), List.getElem?_eq_none (by omega)]
    · rw [List.getElem?_set_ne e]
  unfold fedTo lineFeed
  simp only [List.foldl_nil, Int.add_zero]
  rw [h1]
theorem lineFeed_snoc (t : Int) (l : List Fd) (bs : List Int) (b : Int) : lineFeed t l (bs ++ [b]) = lineAdd t (lineFeed t l bs) b := by
  unfold lineFeed
  rw [List.foldl_append]
  rfl
theorem fedTo_room {x : Exs} {k : Nat} {t : Int} {bs : List Int} {b : Int} (h : (lineFeed t (x.lines.getD k []) bs).1.length < 32) :
    fedTo x k t (bs ++ [b]) = { fedTo x k t bs with lines := (fedTo x k t bs).lines.set k ((lineFeed t (x.lines.getD k []) bs).1 ++ [(⟨b, t⟩ : Fd)]) } := by
  unfold fedTo
  rw [lineFeed_snoc, lineAdd, if_pos h]
  simp only [List.set_set]
theorem fedTo_full {x : Exs} {k : Nat} {t : Int} {bs : List Int} {b : Int} (h : ¬ (lineFeed t (x.lines.getD k []) bs).1.length < 32) :
    fedTo x k t (bs ++ [b]) = { fedTo x k t bs with clock := (fedTo x k t bs).clock, fed := (fedTo x k t bs).fed, ct := { (fedTo x k t bs).ct with spilled := (fedTo x k t bs).ct.spilled + 1 } } := by
  unfold fedTo
  rw [lineFeed_snoc, lineAdd, if_neg h]
  simp only [Int.add_assoc]
theorem fedTo_line {x : Exs} {k : Nat} {t : Int} {bs : List Int} (hk : k < x.lines.length) : (fedTo x k t bs).lines[k]? = some (lineFeed t (x.lines.getD k []) bs).1 := by
  unfold fedTo
  simp only
  rw [List.getElem?_set_self hk]
theorem lineFeed_spill (t : Int) (l : List Fd) (bs : List Int) : 0 ≤ (lineFeed t l bs).2 ∧ (lineFeed t l bs).2 ≤ bs.length := by
  suffices h : ∀ (bs : List Int) (p : List Fd × Int), p.2 ≤ (bs.foldl (lineAdd t) p).2 ∧ (bs.foldl (lineAdd t) p).2 ≤ p.2 + bs.length by
    have := h bs (l, 0)
    simp only [Int.zero_add] at this
    exact this
  intro bs
  induction bs with
  | nil => intro p; simp
  | cons b bs ih =>
    intro p
    rw [List.foldl_cons]
    have h1 := ih (lineAdd t p b)
    have h2 : (lineAdd t p b).2 = p.2 ∨ (lineAdd t p b).2 = p.2 + 1 := by
      unfold lineAdd
      split
      · exact .inl rfl
      · exact .inr rfl
    simp only [List.length_cons]
    omega

set_option maxRecDepth 100000 in
set_option maxHeartbeats 3200000 in
theorem rFeed_in (S T : Nat → Prop) (base Y L k : Nat) (N t : Int) (x : Exs) (tv jv : Value) (lvs : List Value) (bv : Value) (bs : List Int) (w : World)
    (h : RecP w S T base Y L x tv jv lvs) (hb : BytV w S bv bs) (hbl : bs.length ≤ 100000000000) (hbase : base ≤ w.heap.size) (hi : ExIn x N) (hN : N ≤ 800000000000000) (hk : k < x.lines.length) (ht1 : x.clock ≤ t) (ht2 : x.fed ≤ t) (ht3 : t < 1000) :
    Calls Tryz.prog 40 #[.pointer (some ⟨Y, 0, none⟩), .int .i64 k, .int .i64 t, bv] w fun e w' => e = .returned (.int .i64 0) ∧ Rec w' (fun k => S k ∨ w.heap.size ≤ k) T base Y (fedTo x k t bs) ∧ Fr S w w' := by
  have hsp : 0 ≤ x.ct.spilled ∧ x.ct.spilled ≤ N := by
    have h1 := hi.rd.tot
    have h2 := hi.rd.d0
    have h3 := hi.rd.dn
    have h4 := hi.rd.l0
    have h5 := hi.rd.u0
    have h6 := hi.rd.b0
    have h7 := held_nonneg x.lines
    have h8 := hi.sp0
    simp only at h1 h2 h3 h4 h5 h6
    omega
  have hln : (x.lines.length : Int) = x.cfg.lines := hi.nl
  obtain ⟨⟨c1, c2⟩, -⟩ := cfgNum hi.cfg
  have hck0 := hi.ck0
  have hck1 := hi.ck1
  have hfe0 := hi.fe0
  have hfe1 := hi.fe1
  obtain ⟨hs0, hs1⟩ := hsp
  have HLN : Hid (∀ i, (lineFeed t (x.lines.getD k []) (bs.take i)).1.length ≤ 32) := fun i => by
    have hl : (x.lines.getD k []).length ≤ 32 := by
      obtain ⟨l, hl⟩ := get_of_lt (l := x.lines) (k := k) hk
      simp only [List.getD, hl, Option.getD_some]
      exact (hi.ln l (List.mem_of_getElem? hl)).len
    have h1 := lineFeed_eq t (bs.take i) (x.lines.getD k []) 0 hl
    unfold lineFeed
    rw [h1]
    simp only [List.length_append, List.length_map, List.length_take]
    omega
  have HSP : Hid (∀ i, 0 ≤ (lineFeed t (x.lines.getD k []) (bs.take i)).2 ∧ (lineFeed t (x.lines.getD k []) (bs.take i)).2 ≤ 100000000000) := fun i => by
    have := lineFeed_spill t (x.lines.getD k []) (bs.take i)
    rw [List.length_take] at this
    omega
  have h0 : w.cell? ⟨Y, 0, none⟩ = some (.int .i64 x.cfg.lines) := h.blk.cell 0
  have h8 : w.cell? ⟨Y, 8, none⟩ = some (.int .i64 x.clock) := h.blk.cell 8
  have h9 : w.cell? ⟨Y, 9, none⟩ = some (.int .i64 x.fed) := h.blk.cell 9
  have hYl := h.blk.lt
  have hSY := h.sy
  have hSL := h.sl
  have h9f := h.blk.free 9
  have hwl : IntKind.i64.wrap (x.cfg.lines - 1) = x.cfg.lines - 1 := IntWalk.i64_in _ ⟨by omega, by omega⟩
  have HIN := hide (refIn_yes (k : Int) 0 (x.cfg.lines - 1) w ⟨by omega, by omega⟩)
  have HR0 : Hid (RecP (w.setCell ⟨Y, 9, none⟩ (.int .i64 t)) S T base Y L (fedTo x k t []) tv jv lvs) := by
    rw [Hid, fedTo_nil]
    exact h.cell 9 (.int .i64 t) rfl
  have HF0 : Hid (Fr S w (w.setCell ⟨Y, 9, none⟩ (.int .i64 t))) := Fr.set w Y 9 _ h.sy
  have hd1 : decide (t < x.clock) = false := decide_eq_false (by omega)
  have hd2 : decide (t < x.fed) = false := decide_eq_false (by omega)
  have hd3 : decide (1000 ≤ t) = false := decide_eq_false (by omega)
  obtain ⟨ba, bc, rfl, hbc, hbs⟩ := hb
  have HBS := hide hbs
  generalize hn : bs.length = n at *
  have HN := hide hn
  clear h hbs hi hn
  go_enter Tryz.func40, Tryz.ntmps40
  go_wp2_with fail
  refine HIN.out.mono ?_
  rintro e w1 ⟨rfl, rfl⟩
  go_wp2_with fail
  go_loopg [10] n (fun g iv wr => ∃ (i : Nat) (us : List Value), iv = .int .i64 i ∧ g = n - i ∧ i ≤ n ∧ RecP wr (fun k => S k ∨ w.heap.size ≤ k) T base Y L (fedTo x k t (bs.take i)) tv jv us ∧ Fr S w wr)
  case atStart => exact ⟨0, lvs, rfl, by omega, Nat.zero_le _, HR0.out.mono (fun k _ e => .inl e) (fun k e => by
    have := HR0.out.tl k e
    have hz0 : (w.setCell ⟨Y, 9, none⟩ (.int .i64 t)).heap.size = w.heap.size := by simp
    rintro (e' | e')
    · exact this.2 e'
    · omega), HF0.out⟩
  case round =>
    obtain ⟨i, us, rfl, hg, hil, hp, hf⟩ := hrel
    have HG := hide hg
    have HP := hide hp
    have HF := hide hf
    have hz := hf.size
    have hYr := hp.blk.lt
    have hLr := hp.lns.lt
    have hun : us.length = x.lines.length := by rw [hp.len]; simp [fedTo]
    have g6 : wr.cell? ⟨Y, 6, none⟩ = some (.slice (some ⟨L, 0, none⟩) us.length us.length) := hp.blk.cell 6
    have g17 : wr.cell? ⟨Y, 17, none⟩ = some (.int .i64 (fedTo x k t (bs.take i)).ct.spilled) := hp.blk.cell 17
    have g17f := hp.blk.free 17
    have hsp1 : 0 ≤ (fedTo x k t (bs.take i)).ct.spilled ∧ (fedTo x k t (bs.take i)).ct.spilled ≤ 900000000000000 := by
      have := HSP.out i
      simp only [fedTo]
      omega
    clear hg hp hf h0 h8 h9 h9f HIN HR0 HF0
    by_cases hlt : i < n
    · have hii : (i : Int) < (n : Int) := by omega
      obtain ⟨b, hb⟩ := get_of_lt (l := bs) (k := i) (by rw [HN.out]; exact hlt)
      rcases HBS.out with he | ⟨bb, bo, rfl, hbb, hbS, hbx⟩
      · rw [he] at hb; simp at hb
      have hbr : bb < wr.heap.size := by omega
      have mb : wr.cell? ⟨bb, bo + i, none⟩ = some (.int .u8 b) := (HF.out.cell (p := ⟨bb, bo + i, none⟩) hbb hbS).trans (hbx i b hb)
      obtain ⟨v, hv⟩ := get_of_lt (l := us) (k := k) (by omega)
      have hrow := HP.out.row k v _ hv (fedTo_line hk)
      have HTK := hide (take_snoc hb)
      obtain ⟨va, vc, hve⟩ := ownsRow_slice hrow
      have hl32 := HLN.out i
      have HRM := hide (fun h => fedTo_room (x := x) (k := k) (t := t) (bs := bs.take i) (b := b) h)
      have HFU := hide (fun h => fedTo_full (x := x) (k := k) (t := t) (bs := bs.take i) (b := b) h)
      generalize (lineFeed t (x.lines.getD k []) (bs.take i)).1 = l at *
      generalize hyy : fedTo x k t (bs.take i) = y at *
      subst hve
      have g7 : wr.cell? ⟨L, k, none⟩ = some (.slice va l.length vc) := (HP.out.lns.cell k).trans (by simp [hv])
      have g7f := HP.out.lns.free k
      have HV := hide hv
      have HROW := hide hrow
      have hki : (k : Int) < (us.length : Int) := by omega
      have hk0 : (0 : Int) ≤ (k : Int) := by omega
      generalize hul : us.length = ul at *
      have HUL := hide hul
      have HUN := hide hun
      clear hb hbx hv hrow hyy hul hun hln hwl hd1 hd2 hd3
      by_cases h32 : l.length < 32
      · have h32i : (l.length : Int) < 32 := by omega
        have HSAY := hide (HRM.out h32)
        obtain ⟨i0, hi0, hz0, hz1, hz2⟩ := info_parts info_rfed
        have HI := hide (And.intro hi0 (And.intro hz0 (And.intro hz1 hz2)))
        have hq1 : Below wr.heap.size wr (wr.alloc (.cells #[.int .u8 b, .int .i64 t] 146)).drew := ((Below.refl _ _).alloc (Nat.le_refl _) _).drew
        have HO : Hid ((wr.alloc (.cells #[.int .u8 b, .int .i64 t] 146)).drew.ownsRow base 146 2 (.slice va l.length vc) l.length (frow l)) := ownsRow_same HROW.out fun q e => hq1.block q (ownsRow_lt HROW.out e).2
        have HNEW : Hid (∀ (j : Nat) (u : Value), [Value.int .u8 b, Value.int .i64 t][j]? = some u → (wr.alloc (.cells #[.int .u8 b, .int .i64 t] 146)).drew.cell? ((⟨wr.heap.size, 0, none⟩ : Addr).add j) = some u) := fun j u hj => fresh_cells wr [Value.int .u8 b, Value.int .i64 t] 146 wr.heap.size rfl j u hj
        have HONE : Hid (∀ u ∈ [Value.int .u8 b, Value.int .i64 t], u.oneCell' = true) := by
          intro u hu
          simp at hu
          rcases hu with rfl | rfl <;> rfl
        have HYW : Hid (Blk (wr.alloc (.cells #[.int .u8 b, .int .i64 t] 146)).drew Y _ 142) := (HP.out.blk.alloc _).drew
        have HLW : Hid (Blk (wr.alloc (.cells #[.int .u8 b, .int .i64 t] 146)).drew L _ 143) := (HP.out.lns.alloc _).drew
        have HNE := hide (lvs_ne HP.out HV.out)
        have HQ1 := hide hq1
        clear hi0 hz0 hz1 hz2 hq1
        go_upto_region 11 with (fail)
        apply wp_some3 (fun (xa : Option Addr) (xc : Nat) (w4 : World) => w4.ownsRow base 146 2 (.slice xa (l.length + 1) xc) (l.length + 1) (frow l ++ [Value.int .u8 b, Value.int .i64 t]) ∧ (wr.alloc (.cells #[.int .u8 b, .int .i64 t] 146)).drew.grownBy w4 (Value.slice va l.length vc).ownBlock ∧ ((Value.slice xa (l.length + 1) xc).ownBlock = (Value.slice va l.length vc).ownBlock ∨ (Value.slice xa (l.length + 1) xc).ownBlock = some (wr.alloc (.cells #[.int .u8 b, .int .i64 t] 146)).drew.heap.size))
        case h =>
          go_region_law (first | (refine step_append_own rfl (.tmp 69) (.tmp 76) 143 rfl base 146 i0 (.agg #[.int .u8 0, .int .i64 0]) 2 16 Tryz.underlying143 HI.out.1 HI.out.2.1 HI.out.2.2.1 HI.out.2.2.2 rfl (by decide) (.slice va l.length vc) l.length (frow l) (by simp [Act.eval]) HO.out ⟨wr.heap.size, 0, none⟩ 1 1 [Value.int .u8 b, Value.int .i64 t] (by simp [Act.eval]) rfl HNEW.out HONE.out (by decide) (by unfold maxLen; omega) (by omega) (by simp <;> omega) ?_; intro v1 w4 hown hgrow hat; obtain ⟨xa, xc, rfl⟩ := ownsRow_slice hown; have hy4 := (hgrow.block Y (by simp <;> omega) (fun e => HNE.out.1 e.symm)).trans HYW.out; have hl4 := (hgrow.block L (by simp <;> omega) (fun e => HNE.out.2 e.symm)).trans HLW.out; have d6 : w4.cell? ⟨Y, 6, none⟩ = some (.slice (some ⟨L, 0, none⟩) ul ul) := (by rw [← HUL.out]; exact Blk.cell hy4 6); have d7 : w4.cell? ⟨L, k, none⟩ = some (.slice va l.length vc) := (Blk.cell hl4 k).trans (by simp [HV.out]); have d7f := Blk.free hl4 k; have hs4 := hgrow.size; have HOW := hide hown; have HGR := hide hgrow; have HAT := hide hat; clear hown hgrow hat hy4 hl4))
          all_goals exact ⟨xa, xc, w4, ⟨HOW.out, HGR.out, HAT.out⟩, rfl, rfl⟩
        rintro xa xc w4 ⟨how, hgr, hat⟩
        have HOW := hide how
        have HGR := hide hgr
        have HAT := hide hat
        clear how hgr hat
        go_wp2_with fail
        go_roundg (n - (i + 1))
        case measure => have := HG.out; omega
        case rel =>
          have hfr : Fr (fun q => (Value.slice va l.length vc).ownBlock = some q) wr w4 := (Fr.of_below HQ1.out).trans (Fr.of_grown (X := fun q => (Value.slice va l.length vc).ownBlock = some q) HGR.out fun q e _ => e) fun _ _ e => e
          have hz4 : (wr.alloc (.cells #[.int .u8 b, .int .i64 t] 146)).drew.heap.size = wr.heap.size + 1 := by simp
          have hr4 : RFedP w4 base (.slice xa (l.length + 1) xc) (l ++ [(⟨b, t⟩ : Fd)]) := by
            unfold RFedP
            rw [frow_append, List.length_append]
            exact HOW.out
          have hrp := HP.out.line HV.out hfr hr4 (HAT.out.imp id fun e q e' => by rw [e] at e'; simp only [Option.some.injEq] at e'; omega)
          rw [← HSAY.out, ← HTK.out] at hrp
          refine ⟨i + 1, us.set k (.slice xa (l.length + 1) xc), by go_num, rfl, by omega, hrp.mono (fun q _ e => e.elim id fun e => .inr (by omega)) (fun q e => ?_), (HF.out.trans hfr fun q hq e => ?_).trans (Fr.set (X := S) w4 L k _ ?_) fun _ _ e => e⟩
          · exact (HP.out.tl q e).2
          · exact (HP.out.sr k _ q HV.out e).elim id fun e => by omega
          · exact hSL
      · have h32i : ¬ (l.length : Int) < 32 := by omega
        have HSAY := hide (HFU.out h32)
        have hw1 : IntKind.i64.wrap (y.ct.spilled + 1) = y.ct.spilled + 1 := IntWalk.i64_in _ ⟨by omega, by omega⟩
        go_wp2_with fail
        go_roundg (n - (i + 1))
        case measure => have := HG.out; omega
        case rel =>
          have hrp := HP.out.cell 17 (.int .i64 (y.ct.spilled + 1)) (clock := y.clock) (fed := y.fed) (ct := { y.ct with spilled := y.ct.spilled + 1 }) rfl
          rw [← HSAY.out, ← HTK.out] at hrp
          exact ⟨i + 1, us, by go_num, rfl, by omega, hrp, HF.out.trans (Fr.set (X := fun q => q = Y) wr Y 17 _ rfl) fun q hq e => by rw [e]; exact hSY⟩
    · have hii : ¬ (i : Int) < (n : Int) := by omega
      go_wp2_with fail
      go_ret
      refine ⟨rfl, ⟨L, tv, jv, us, ?_⟩, HF.out⟩
      have := HP.out
      rwa [List.take_of_length_le (by rw [HN.out]; omega)] at this

set_option maxRecDepth 100000 in
set_option maxHeartbeats 1600000 in
theorem rFeed_line (Y : Nat) (lines n t : Int) (ba : Option Addr) (bl bc : Nat) (w : World) (h0 : w.cell? ⟨Y, 0, none⟩ = some (.int .i64 lines)) (_hYl : Y < w.heap.size) (c1 : 1 ≤ lines) (c2 : lines ≤ 4) (hn : ¬ (0 ≤ n ∧ n ≤ lines - 1)) :
    Calls Tryz.prog 40 #[.pointer (some ⟨Y, 0, none⟩), .int .i64 n, .int .i64 t, .slice ba bl bc] w fun e w' => e = .returned (.int .i64 3) ∧ w' = w := by
  have hwl : IntKind.i64.wrap (lines - 1) = lines - 1 := IntWalk.i64_in _ ⟨by omega, by omega⟩
  have HIN := hide (refIn_no n 0 (lines - 1) w hn)
  clear hn
  go_enter Tryz.func40, Tryz.ntmps40
  go_wp2_with fail
  refine HIN.out.mono ?_
  rintro e w1 ⟨rfl, rfl⟩
  go_wp2_with fail
  go_ret
  exact ⟨rfl, rfl⟩

set_option maxRecDepth 100000 in
set_option maxHeartbeats 1600000 in
theorem rFeed_time (Y : Nat) (lines clock fed n t : Int) (ba : Option Addr) (bl bc : Nat) (w : World) (h0 : w.cell? ⟨Y, 0, none⟩ = some (.int .i64 lines)) (h8 : w.cell? ⟨Y, 8, none⟩ = some (.int .i64 clock)) (h9 : w.cell? ⟨Y, 9, none⟩ = some (.int .i64 fed)) (_hYl : Y < w.heap.size) (c1 : 1 ≤ lines) (c2 : lines ≤ 4) (hn : 0 ≤ n ∧ n ≤ lines - 1) (ht : t < clock ∨ t < fed ∨ 1000 ≤ t) :
    Calls Tryz.prog 40 #[.pointer (some ⟨Y, 0, none⟩), .int .i64 n, .int .i64 t, .slice ba bl bc] w fun e w' => e = .returned (.int .i64 4) ∧ w' = w := by
  have hwl : IntKind.i64.wrap (lines - 1) = lines - 1 := IntWalk.i64_in _ ⟨by omega, by omega⟩
  have HIN := hide (refIn_yes n 0 (lines - 1) w hn)
  clear hn
  by_cases h1 : t < clock
  · have hd1 : decide (t < clock) = true := decide_eq_true h1
    clear ht
    go_enter Tryz.func40, Tryz.ntmps40
    go_wp2_with fail
    refine HIN.out.mono ?_
    rintro e w1 ⟨rfl, rfl⟩
    go_wp2_with fail
    go_ret
    exact ⟨rfl, rfl⟩
  · have hd1 : decide (t < clock) = false := decide_eq_false h1
    by_cases h2 : t < fed
    · have hd2 : decide (t < fed) = true := decide_eq_true h2
      clear ht
      go_enter Tryz.func40, Tryz.ntmps40
      go_wp2_with fail
      refine HIN.out.mono ?_
      rintro e w1 ⟨rfl, rfl⟩
      go_wp2_with fail
      go_ret
      exact ⟨rfl, rfl⟩
    · have hd2 : decide (t < fed) = false := decide_eq_false h2
      have h3 : 1000 ≤ t := by omega
      have hd3 : decide (1000 ≤ t) = true := decide_eq_true h3
      clear ht
      go_enter Tryz.func40, Tryz.ntmps40
      go_wp2_with fail
      refine HIN.out.mono ?_
      rintro e w1 ⟨rfl, rfl⟩
      go_wp2_with fail
      go_ret
      exact ⟨rfl, rfl⟩

theorem rFeed_any (S T : Nat → Prop) (base Y : Nat) (N n t : Int) (x : Exs) (bv : Value) (bs : List Int) (w : World)
    (h : Rec w S T base Y x) (hb : BytV w S bv bs) (hbl : bs.length ≤ 100000000000) (hbase : base ≤ w.heap.size) (hi : ExIn x N) (hN : N ≤ 800000000000000) :
    Calls Tryz.prog 40 #[.pointer (some ⟨Y, 0, none⟩), .int .i64 n, .int .i64 t, bv] w fun e w' => e = .returned (.int .i64 (exFeed x n t bs).2) ∧ Rec w' (fun k => S k ∨ w.heap.size ≤ k) T base Y (exFeed x n t bs).1 ∧ Fr S w w' := by
  obtain ⟨L, tv, jv, lvs, h⟩ := h
  obtain ⟨⟨c1, c2⟩, -⟩ := cfgNum hi.cfg
  have hself : Rec w (fun k => S k ∨ w.heap.size ≤ k) T base Y x := ⟨L, tv, jv, lvs, h.mono (fun k _ e => .inl e) fun k e => by
    have := h.tl k e
    rintro (e' | e')
    · exact this.2 e'
    · omega⟩
  have h0 : w.cell? ⟨Y, 0, none⟩ = some (.int .i64 x.cfg.lines) := h.blk.cell 0
  have h8 : w.cell? ⟨Y, 8, none⟩ = some (.int .i64 x.clock) := h.blk.cell 8
  have h9 : w.cell? ⟨Y, 9, none⟩ = some (.int .i64 x.fed) := h.blk.cell 9
  by_cases hn : 0 ≤ n ∧ n ≤ x.cfg.lines - 1
  · by_cases ht : t < x.clock ∨ t < x.fed ∨ 1000 ≤ t
    · obtain ⟨ba, bc, rfl, -⟩ := hb
      refine (rFeed_time Y x.cfg.lines x.clock x.fed n t ba bs.length bc w h0 h8 h9 h.blk.lt c1 c2 hn ht).mono ?_
      rintro e w' ⟨rfl, rfl⟩
      unfold exFeed
      rw [if_pos hn, if_pos ht]
      exact ⟨rfl, hself, Fr.refl _ _⟩
    · obtain ⟨k, hk⟩ : ∃ k : Nat, n = k := ⟨n.toNat, by omega⟩
      subst hk
      have hl := hi.nl
      refine (rFeed_in S T base Y L k N t x tv jv lvs bv bs w h hb hbl hbase hi hN (by omega) (by omega) (by omega) (by omega)).mono ?_
      rintro e w' ⟨rfl, r, f⟩
      unfold exFeed
      rw [if_pos hn, if_neg ht]
      simp only [Int.toNat_natCast]
      exact ⟨trivial, r, f⟩
  · obtain ⟨ba, bc, rfl, -⟩ := hb
    refine (rFeed_line Y x.cfg.lines n t ba bs.length bc w h0 h.blk.lt c1 c2 hn).mono ?_
    rintro e w' ⟨rfl, rfl⟩
    unfold exFeed
    rw [if_neg hn]
    exact ⟨rfl, hself, Fr.refl _ _⟩

end Go.Proofs.YthloffgebebijaaGreat

/- RexC: rows of the reference's executive: pieces of a row, appends. -/
namespace Go.Proofs.YthloffgebebijaaGreat
open Go.RowKit

theorem RFedP.at {w : World} {base : Nat} {v : Value} {d : List Fd} (p : RFedP w base v d) {i : Nat} {f : Fd} (hs : d[i]? = some f) : ∃ dg dc, v = .slice (some ⟨dg, 0, none⟩) d.length dc ∧ dg < w.heap.size ∧ base ≤ dg ∧ w.cell? ⟨dg, i * 2, none⟩ = some (.int .u8 f.b) ∧ w.cell? ⟨dg, i * 2 + 1, none⟩ = some (.int .i64 f.tick) := by
  have hil := lt_of_get hs
  obtain ⟨dg, dcap, hdg, -, -⟩ := ownsRow_some p (by omega)
  subst hdg
  refine ⟨dg, dcap, rfl, (ownsRow_lt p (k := dg) rfl).2, (ownsRow_lt p (k := dg) rfl).1, ?_⟩
  have hc : ∀ j v, j < 2 → (fedCells f)[j]? = some v → w.cell? ⟨dg, i * 2 + j, none⟩ = some v := fun j v hj hv => by
    have hg : (frow d)[i * 2 + j]? = some v := by rw [frow_get hs j hj]; exact hv
    have h1 := World.ownsRow.cells (g := dg) p (by rfl) (i * 2 + j) _ hg
    rw [Addr.add] at h1
    split at h1
    · rename_i h0; rw [h0]; exact h1
    · simpa using h1
  exact ⟨hc 0 _ (by decide) rfl, hc 1 _ (by decide) rfl⟩
theorem rjrow_four (l : List Jb) : ∀ c ∈ l.map rjCells, c.length = 4 := by
  intro c hc
  obtain ⟨j, _, rfl⟩ := List.mem_map.1 hc
  rfl
theorem rjrow_length (l : List Jb) : (rjrow l).length = l.length * 4 := by rw [rjrow, flatten_len (rjrow_four l), List.length_map]
theorem rjrow_get {l : List Jb} {i : Nat} {f : Jb} (h : l[i]? = some f) (k : Nat) (hk : k < 4) : (rjrow l)[i * 4 + k]? = (rjCells f)[k]? := by
  rw [rjrow, flatten_get (rjrow_four l) i k hk, List.getElem?_map, h]
  rfl
theorem rjrow_one (l : List Jb) : ∀ u ∈ rjrow l, u.oneCell' = true := by
  intro u hu
  obtain ⟨c, hc, hu⟩ := List.mem_flatten.1 hu
  obtain ⟨f, _, rfl⟩ := List.mem_map.1 hc
  simp only [rjCells, List.mem_cons, List.not_mem_nil, or_false] at hu
  rcases hu with rfl | rfl | rfl | rfl <;> rfl

/-- A value that reads as some cells: a row of the reference's own, or a piece of one. -/
def Win (w : World) (b0 : Nat) (e : TypeId) (size : Nat) (v : Value) (n : Nat) (xs : List Value) : Prop :=
  (v = .slice none 0 0 ∧ n = 0 ∧ xs = []) ∨ ∃ g o cap cur, v = .slice (some ⟨g, o, none⟩) n cap ∧ b0 ≤ g ∧ n ≤ cap ∧ cap ≤ maxLen ∧ Blk w g cur e ∧ xs.length = n * size ∧ ∀ (i : Nat) u, xs[i]? = some u → cur[o + i]? = some u
theorem Win.keep {w w' : World} {b0 : Nat} {e : TypeId} {size : Nat} {v : Value} {n : Nat} {xs : List Value} (h : Win w b0 e size v n xs) (hs : ∀ g cur, b0 ≤ g → Blk w g cur e → w'.heap[g]? = w.heap[g]?) : Win w' b0 e size v n xs :=
  h.imp id fun ⟨g, o, cap, cur, h1, h2, h3, h4, h5, h6⟩ => ⟨g, o, cap, cur, h1, h2, h3, h4, (hs g cur h2 h5).trans h5, h6⟩
theorem ownsRow_win {w : World} {b0 : Nat} {e : TypeId} {size : Nat} {v : Value} {n : Nat} {xs : List Value} (h : w.ownsRow b0 e size v n xs) : Win w b0 e size v n xs := by
  have hc := fun g (hg : v.ownBlock = some g) => World.ownsRow.cells (g := g) h hg
  rcases h.2 with ⟨rfl, h0⟩ | ⟨g, cap, cur, rfl, hg, hh, hnc, hcm, _⟩
  · refine .inl ⟨rfl, h0, ?_⟩
    have := h.1
    rw [h0, Nat.zero_mul] at this
    exact List.length_eq_zero_iff.1 this
  · refine .inr ⟨g, 0, cap, cur, rfl, hg, hnc, hcm, hh, h.1, fun i u hi => ?_⟩
    have h1 := hc g rfl i u hi
    have h2 : w.cell? ⟨g, i, none⟩ = some u := by
      rw [Addr.add] at h1
      split at h1
      · rename_i h0; rw [h0]; exact h1
      · simpa using h1
    rw [Nat.zero_add]
    exact ((show Blk w g cur e from hh).cell i).symm.trans h2
theorem Win.lt {w : World} {b0 : Nat} {e : TypeId} {size n : Nat} {xs : List Value} {g o cap : Nat} (h : Win w b0 e size (.slice (some ⟨g, o, none⟩) n cap) n xs) : g < w.heap.size := by
  rcases h with ⟨h, _⟩ | ⟨g', o', cap', cur, h1, h2, h3, h4, h5, h6⟩
  · simp at h
  · simp only [Value.slice.injEq, Option.some.injEq, Addr.mk.injEq] at h1
    rw [h1.1.1]
    exact h5.lt
theorem Win.feds {w : World} {b0 : Nat} {v : Value} {l : List Fd} (h : Win w b0 146 2 v l.length (frow l)) : FedsR w w.heap.size v l := by
  rcases h with ⟨rfl, h0, _⟩ | ⟨g, o, cap, cur, rfl, h2, h3, h4, h5, h6, h7⟩
  · exact ⟨none, 0, by rw [h0], .inl (List.length_eq_zero_iff.1 h0)⟩
  · refine ⟨_, cap, rfl, .inr ⟨g, o, rfl, h5.lt, fun i f hi => ⟨?_, ?_⟩⟩⟩
    · have := h7 (i * 2 + 0) _ ((frow_get hi 0 (by decide)).trans rfl)
      rw [Nat.add_zero] at this
      exact (h5.cell _).trans this
    · have := h7 (i * 2 + 1) _ ((frow_get hi 1 (by decide)).trans rfl)
      exact (h5.cell _).trans (by rw [Nat.add_assoc]; exact this)
theorem Win.jobs {w : World} {b0 : Nat} {v : Value} {l : List Jb} (h : Win w b0 169 4 v l.length (rjrow l)) : JobsR w w.heap.size v l := by
  rcases h with ⟨rfl, h0, _⟩ | ⟨g, o, cap, cur, rfl, h2, h3, h4, h5, h6, h7⟩
  · exact ⟨none, 0, by rw [h0], .inl (List.length_eq_zero_iff.1 h0)⟩
  · refine ⟨_, cap, rfl, .inr ⟨g, o, rfl, h5.lt, fun i f hi => ?_⟩⟩
    have hk : ∀ k, k < 4 → w.cell? ⟨g, o + i * 4 + k, none⟩ = (rjCells f)[k]? := fun k hk => by
      obtain ⟨u, hu⟩ := get_of_lt (l := rjCells f) (k := k) hk
      rw [hu, h5.cell, Nat.add_assoc]
      exact h7 (i * 4 + k) u ((rjrow_get hi k hk).trans hu)
    exact ⟨hk 0 (by decide), hk 1 (by decide), hk 2 (by decide), hk 3 (by decide)⟩
/-- A piece of it, from the m-th element on. -/
theorem Win.drop {w : World} {b0 : Nat} {e : TypeId} {size n : Nat} {xs : List Value} {g o cap : Nat} (h : Win w b0 e size (.slice (some ⟨g, o, none⟩) n cap) n xs) (m c : Nat) (_hm : m ≤ n) (hc : n - m ≤ c) (hcm : c ≤ maxLen) : Win w b0 e size (.slice (some ⟨g, o + m * size, none⟩) (n - m) c) (n - m) (xs.drop (m * size)) := by
  rcases h with ⟨h, _⟩ | ⟨g', o', cap', cur, h1, h2, h3, h4, h5, h6, h7⟩
  · simp at h
  · simp only [Value.slice.injEq, Option.some.injEq, Addr.mk.injEq, and_true, true_and] at h1
    obtain ⟨⟨rfl, rfl⟩, rfl⟩ := h1
    refine .inr ⟨g, o + m * size, c, cur, rfl, h2, hc, hcm, h5, ?_, fun i u hi => ?_⟩
    · rw [List.length_drop, h6, Nat.sub_mul]
    · rw [List.getElem?_drop] at hi
      rw [Nat.add_assoc]
      exact h7 _ u hi
/-- A piece of it, up to the m-th element. -/
theorem Win.take {w : World} {b0 : Nat} {e : TypeId} {size n : Nat} {xs : List Value} {g o cap : Nat} (h : Win w b0 e size (.slice (some ⟨g, o, none⟩) n cap) n xs) (m : Nat) (hm : m ≤ n) : Win w b0 e size (.slice (some ⟨g, o, none⟩) m cap) m (xs.take (m * size)) := by
  rcases h with ⟨h, _⟩ | ⟨g', o', cap', cur, h1, h2, h3, h4, h5, h6, h7⟩
  · simp at h
  · simp only [Value.slice.injEq, Option.some.injEq, Addr.mk.injEq, and_true, true_and] at h1
    obtain ⟨⟨rfl, rfl⟩, rfl⟩ := h1
    refine .inr ⟨g, o, cap, cur, rfl, h2, by omega, h4, h5, ?_, fun i u hi => ?_⟩
    · rw [List.length_take, h6]
      exact Nat.min_eq_left (Nat.mul_le_mul_right _ hm)
    · rw [List.getElem?_take] at hi
      split at hi
      · exact h7 i u hi
      · simp at hi

/-- An append of what such a value reads to a row of the reference's own. -/
theorem wp_appWin {o : Oper} {a : Act} {w : World} {K : Act → World → Prop} {Q : Exit → Act → World → Prop} (s x : Operand) (t e : TypeId) (z : Value) (size bytes : Nat)
    (ho : o.op = .call { callee := .builtin .append, args := #[s, x], argTypes := #[t, t] }) (ht : Tryz.prog.underlying t = some (.slice e)) (hinfo : (Tryz.prog.info? e).map (fun i => (i.zero, i.size, i.bytes)) = some (some z, size, bytes)) (hzs : z.cells.size = size) (hsz : 0 < size) (hby : bytes ≤ 64)
    (base b2 : Nat) (v u : Value) (n m : Nat) (xs ys : List Value) (hs : a.eval s = v) (hown : w.ownsRow base e size v n xs) (hx : a.eval x = u) (hu : Win w b2 e size u m ys) (h1 : ∀ u ∈ ys, u.oneCell' = true) (hlen : n + m ≤ 1000000000) (hbase : base ≤ w.heap.size)
    (h : ∀ v' w', w'.ownsRow base e size v' (n + m) (xs ++ ys) → w.grownBy w' v.ownBlock → (v'.ownBlock = v.ownBlock ∨ v'.ownBlock = some w.heap.size) → K (a.put o.dst v') w') :
    Oper.wp Tryz.prog o a w K Q := by
  obtain ⟨i0, hi0, hz0, hz1, hz2⟩ := info_parts hinfo
  rcases hu with ⟨rfl, rfl, rfl⟩ | ⟨g, off, cap, cur, rfl, h2, h3, h4, h5, h6, h7⟩
  · have hrun := run_append_owned_none (P := Tryz.prog) (w := w) base t o.type e i0 size ht hi0 v n xs hown
    unfold Oper.wp execOp
    simp only [ho, resolve, invoke, builtin, Sem.run_bind, Sem.run_pure, Result.andThen_ok, List.map_toArray, List.map_cons, List.map_nil, hs, hx, hrun]
    exact h v w (by rw [List.append_nil]; exact hown) ⟨rfl, rfl, rfl, Nat.le_refl _, fun _ _ _ => rfl⟩ (.inl rfl)
  · have hcells : ∀ j q, ys[j]? = some q → w.cell? ((⟨g, off, none⟩ : Addr).add j) = some q := fun j q hj => by
      rw [Addr.add]
      split
      · rename_i h0
        subst h0
        exact (h5.cell off).trans (h7 0 q hj)
      · exact (h5.cell (off + j)).trans (h7 j q hj)
    have hbb : (n + m) * bytes ≤ 140737488355328 := Nat.le_trans (Nat.mul_le_mul hlen hby) (by decide)
    obtain ⟨v', w', hr, h2, h3, -, h5⟩ := run_append_own_at (P := Tryz.prog) w base t o.type e i0 z size bytes ht hi0 hz0 hz1 hz2 hzs hsz v n xs hown ⟨g, off, none⟩ m cap ys h6 hcells h1 (by unfold maxLen; omega) hbb hbase
    unfold Oper.wp execOp
    simp only [ho, resolve, invoke, builtin, Sem.run_bind, Sem.run_pure, Result.andThen_ok, List.map_toArray, List.map_cons, List.map_nil, hs, hx, hr]
    exact h v' w' h2 h3 h5
theorem wpList_appWin {w : World} {ops : Array Oper} {rest : List Oper} {o : Oper} {a : Act} {Q : Exit → Act → World → Prop} (hgd : o.guard = none) (s x : Operand) (t e : TypeId) (z : Value) (size bytes : Nat)
    (ho : o.op = .call { callee := .builtin .append, args := #[s, x], argTypes := #[t, t] }) (ht : Tryz.prog.underlying t = some (.slice e)) (hinfo : (Tryz.prog.info? e).map (fun i => (i.zero, i.size, i.bytes)) = some (some z, size, bytes)) (hzs : z.cells.size = size) (hsz : 0 < size) (hby : bytes ≤ 64)
    (base b2 : Nat) (v u : Value) (n m : Nat) (xs ys : List Value) (hs : a.eval s = v) (hown : w.ownsRow base e size v n xs) (hx : a.eval x = u) (hu : Win w b2 e size u m ys) (h1 : ∀ u ∈ ys, u.oneCell' = true) (hlen : n + m ≤ 1000000000) (hbase : base ≤ w.heap.size)
    (h : ∀ v' w', w'.ownsRow base e size v' (n + m) (xs ++ ys) → w.grownBy w' v.ownBlock → (v'.ownBlock = v.ownBlock ∨ v'.ownBlock = some w.heap.size) → wpList Tryz.prog ops Q rest (a.put o.dst v') w') :
    wpList Tryz.prog ops Q (o :: rest) a w :=
  wpList_plain hgd fun _ hK => wp_appWin s x t e z size bytes ho ht hinfo hzs hsz hby base b2 v u n m xs ys hs hown hx hu h1 hlen hbase fun v' w' h1 h2 h3 => hK _ _ (h v' w' h1 h2 h3)
theorem step_appWin {ops : Array Oper} {o : Oper} {a : Act} {w : World} {K : Act → World → Prop} {Q : Exit → Act → World → Prop} {E : Prop}
    (hgd : o.guard = none) (s x : Operand) (t e : TypeId) (z : Value) (size bytes : Nat)
    (ho : o.op = .call { callee := .builtin .append, args := #[s, x], argTypes := #[t, t] }) (ht : Tryz.prog.underlying t = some (.slice e)) (hinfo : (Tryz.prog.info? e).map (fun i => (i.zero, i.size, i.bytes)) = some (some z, size, bytes)) (hzs : z.cells.size = size) (hsz : 0 < size) (hby : bytes ≤ 64)
    (base b2 : Nat) (v u : Value) (n m : Nat) (xs ys : List Value) (hs : a.eval s = v) (hown : w.ownsRow base e size v n xs) (hx : a.eval x = u) (hu : Win w b2 e size u m ys) (h1 : ∀ u ∈ ys, u.oneCell' = true) (hlen : n + m ≤ 1000000000) (hbase : base ≤ w.heap.size)
    (h : ∀ v' w', w'.ownsRow base e size v' (n + m) (xs ++ ys) → w.grownBy w' v.ownBlock → (v'.ownBlock = v.ownBlock ∨ v'.ownBlock = some w.heap.size) → K (a.put o.dst v') w') :
    if Region.wanted o (yielded ops a.tmps) = true then Oper.wp Tryz.prog o a w K Q else E := by
  have hw : Region.wanted o (yielded ops a.tmps) = true := by simp [Region.wanted, hgd]
  rw [if_pos hw]
  exact wp_appWin s x t e z size bytes ho ht hinfo hzs hsz hby base b2 v u n m xs ys hs hown hx hu h1 hlen hbase h

/-- Where a fresh block is read: what a composite of one or more elements is. -/
theorem win_new (w : World) (b0 : Nat) (e : TypeId) (size n : Nat) (xs : List Value) (hl : xs.length = n * size) (hn : n ≤ maxLen) (hb : b0 ≤ w.heap.size) : Win (w.alloc (.cells xs.toArray e)) b0 e size (.slice (some ⟨w.heap.size, 0, none⟩) n n) n xs :=
  .inr ⟨w.heap.size, 0, n, xs.toArray, rfl, hb, Nat.le_refl _, hn, Blk.new w _ _, hl, fun i u hi => by simpa using hi⟩

/-- The jobs turn: their row has been appended to, or another is laid in its place. -/
theorem RecP.jobs {w w' : World} {S T : Nat → Prop} {base Y L : Nat} {x : Exs} {tv jv : Value} {lvs : List Value} (h : RecP w S T base Y L x tv jv lvs) {jv' : Value} {js : List Jb} (hf : Fr (fun k => jv.ownBlock = some k) w w') (hr : RJobP w' base jv' js) (ho : jv'.ownBlock = jv.ownBlock ∨ ∀ k, jv'.ownBlock = some k → w.heap.size ≤ k) :
    RecP (w'.setCell ⟨Y, 7, none⟩ jv') (fun k => S k ∨ w.heap.size ≤ k) T base Y L { x with jobs := js } tv jv' lvs := by
  have hLY : L ≠ Y := fun e => by
    have h1 := h.blk
    have h2 := h.lns
    rw [e] at h2
    unfold Blk at h1 h2
    rw [h1] at h2
    simp at h2
  have hjy : jv.ownBlock ≠ some Y := ownsRow_ne_blk h.jbs h.blk (by decide)
  have hjl : jv.ownBlock ≠ some L := ownsRow_ne_blk h.jbs h.lns (by decide)
  have hY : Blk w' Y _ _ := (hf.block Y h.blk.lt hjy).trans h.blk
  have hL : Blk w' L _ _ := (hf.block L h.lns.lt hjl).trans h.lns
  have hz : (w'.setCell ⟨Y, 7, none⟩ jv').heap.size = w'.heap.size := by simp
  have hny : ∀ k, jv'.ownBlock = some k → k ≠ Y := fun k e => by
    rcases ho with ho | ho
    · rw [ho] at e; exact fun e' => hjy (e' ▸ e)
    · have := ho k e; have := h.blk.lt; omega
  exact {
    blk := by have := hY.set 7 jv'; exact this
    lns := hL.other (a := ⟨Y, 7, none⟩) hLY jv'
    len := h.len
    row := fun i v l hv hl => by
      have hrow := h.row i v l hv hl
      refine ownsRow_same hrow fun k e => ?_
      rw [heap_setCell_other w' ⟨Y, 7, none⟩ k _ (fun e' => (lvs_ne h hv).1 (by rw [e, e']))]
      exact hf.block k (ownsRow_lt hrow e).2 fun e' => ownsRow_ne h.jbs hrow (by decide) e' e
    jbs := ownsRow_same hr fun k e => heap_setCell_other w' ⟨Y, 7, none⟩ k _ (hny k e)
    ts := h.ts.same fun k hk => by
      rw [heap_setCell_other w' ⟨Y, 7, none⟩ k _ (fun e' => (h.tl k hk).2 (e' ▸ h.sy))]
      exact hf.block k (h.tl k hk).1 fun e' => (h.tl k hk).2 (h.sj k e')
    tl := fun k hk => ⟨by rw [hz]; exact Nat.lt_of_lt_of_le (h.tl k hk).1 hf.size, fun e => e.elim (h.tl k hk).2 fun e => by have := (h.tl k hk).1; omega⟩
    sy := .inl h.sy
    sl := .inl h.sl
    sj := fun k e => by
      rcases ho with ho | ho
      · rw [ho] at e; exact .inl (h.sj k e)
      · exact .inr (ho k e)
    sr := fun i v k hv e => .inl (h.sr i v k hv e)
    sep := h.sep }

end Go.Proofs.YthloffgebebijaaGreat

/- RexH: what stands while the reference reads a line. -/
namespace Go.Proofs.YthloffgebebijaaGreat
open Go.RowKit

theorem exRead_nil (c : Cfg) (t : Int) (f : Nat) (r : Rdg) : exRead c t f [] r = ([], r) := by
  cases f with
  | zero => rfl
  | succ f => rfl
theorem exMsg_long {n : Nat} {l : List Fd} (h : exMsg n l = some (some none) ∨ ∃ k c t, exMsg n l = some (some (some (k, c, t)))) : 4 ≤ l.length := by
  match l, h with
  | [], h => simp [exMsg] at h
  | [a], h => by_cases e : a.b = 126 <;> simp [exMsg, e] at h
  | [a, b], h => by_cases e : a.b = 126 <;> simp [exMsg, e] at h
  | [a, b, c], h => by_cases e : a.b = 126 <;> simp [exMsg, e] at h
  | _ :: _ :: _ :: _ :: _, _ => simp
theorem exMsg_task {n : Nat} {l : List Fd} {k c t : Int} (h : exMsg n l = some (some (some (k, c, t)))) (hl : ∀ f ∈ l, FdIn f) : 0 ≤ k ∧ k < n ∧ 1 ≤ c ∧ c < 256 ∧ 0 ≤ t ∧ t < 1000 := by
  have h4 := exMsg_long (.inr ⟨k, c, t, h⟩)
  match l, h4, h with
  | f0 :: f1 :: f2 :: f3 :: r, _, h =>
    by_cases e : f0.b = 126
    · rw [exMsg_four e] at h
      split at h
      · simp at h
      · rename_i hne
        split at h
        · simp at h
        · simp only [Option.some.injEq, Prod.mk.injEq] at h
          obtain ⟨rfl, rfl, rfl⟩ := h
          have h1 := hl f1 (by simp)
          have h2 := hl f2 (by simp)
          have h3 := hl f3 (by simp)
          have := h1.b0; have := h1.b1; have := h2.b0; have := h2.b1; have := h3.t0; have := h3.t1
          omega
    · simp [exMsg, e] at h

/-- What is kept while a line is read: the counts stay small. -/
structure RdB (c : Cfg) (m : Nat) (r : Rdg) : Prop where
  nj : (r.jobs.length : Int) ≤ c.room
  b0 : 0 ≤ r.ct.bad
  b1 : r.ct.bad + m ≤ 1000000000000000
  u0 : 0 ≤ r.ct.unknown
  u1 : r.ct.unknown + m ≤ 1000000000000000
  l0 : 0 ≤ r.ct.lost
  l1 : r.ct.lost + m ≤ 1000000000000000
  j0 : 0 ≤ r.ct.jobs
  j1 : r.ct.jobs + m ≤ 1000000000000000
  ou : r.out.length + m ≤ 1000

theorem RdB.bad {c : Cfg} {m : Nat} {r : Rdg} (h : RdB c m r) (hm : 1 ≤ m) : RdB c (m - 1) { r with ct := { r.ct with bad := r.ct.bad + 1 } } := by
  obtain ⟨d1, d2, d3, d4, d5, d6, d7, d8, d9, d10⟩ := h
  exact ⟨d1, by simp only; omega, by simp only; omega, d4, by simp only; omega, d6, by simp only; omega, d8, by simp only; omega, by simp only; omega⟩
theorem RdB.unk {c : Cfg} {m : Nat} {r : Rdg} (h : RdB c m r) (hm : 4 ≤ m) : RdB c (m - 4) { r with ct := { r.ct with unknown := r.ct.unknown + 1 } } := by
  obtain ⟨d1, d2, d3, d4, d5, d6, d7, d8, d9, d10⟩ := h
  exact ⟨d1, d2, by simp only; omega, by simp only; omega, by simp only; omega, d6, by simp only; omega, d8, by simp only; omega, by simp only; omega⟩
theorem RdB.lost {c : Cfg} {m : Nat} {r : Rdg} (h : RdB c m r) (hm : 4 ≤ m) (e : Ev) : RdB c (m - 4) { r with ct := { r.ct with lost := r.ct.lost + 1 }, out := r.out ++ [e] } := by
  obtain ⟨d1, d2, d3, d4, d5, d6, d7, d8, d9, d10⟩ := h
  exact ⟨d1, d2, by simp only; omega, d4, by simp only; omega, by simp only; omega, by simp only; omega, d8, by simp only; omega, by simp only [List.length_append, List.length_cons, List.length_nil]; omega⟩
theorem RdB.job {c : Cfg} {m : Nat} {r : Rdg} (h : RdB c m r) (hm : 4 ≤ m) (hr : ¬ (r.jobs.length : Int) = c.room) (j : Jb) : RdB c (m - 4) { r with jobs := r.jobs ++ [j], ct := { r.ct with jobs := r.ct.jobs + 1 } } := by
  obtain ⟨d1, d2, d3, d4, d5, d6, d7, d8, d9, d10⟩ := h
  exact ⟨by simp only [List.length_append, List.length_cons, List.length_nil]; omega, d2, by simp only; omega, d4, by simp only; omega, d6, by simp only; omega, by simp only; omega, by simp only; omega, by simp only; omega⟩

theorem RecP.below {w w' : World} {S T : Nat → Prop} {base Y L : Nat} {x : Exs} {tv jv : Value} {lvs : List Value} (h : RecP w S T base Y L x tv jv lvs) (hS : ∀ q, S q → q < w.heap.size) (hb : Below w.heap.size w w') : RecP w' S T base Y L x tv jv lvs :=
  h.same (fun k e => hb.block k (e.elim (hS k) fun e => (h.tl k e).1)) hb.size
theorem blk_ne {w : World} {a b : Nat} {c c' : Array Value} {t t' : TypeId} (h : Blk w a c t) (h' : Blk w b c' t') (hne : t ≠ t') : a ≠ b := fun e => by
  subst e
  exact hne (Blk.inj h h').2

/-- One list is appended to, the other stays. -/
theorem two_rows {w wr W w5 : World} {lv av v5 : Value} {FL FA : List Fd} {f : Fd} (hl : RFedP wr w.heap.size lv FL) (ha : RFedP wr w.heap.size av FA) (hne : ∀ q, lv.ownBlock = some q → av.ownBlock ≠ some q) (hb : Below w.heap.size w wr) (hq : Below wr.heap.size wr W) (hg : W.grownBy w5 lv.ownBlock) (he : w5.ownsRow w.heap.size 146 2 v5 (FL.length + 1) (frow FL ++ [.int .u8 f.b, .int .i64 f.tick])) (ho : v5.ownBlock = lv.ownBlock ∨ v5.ownBlock = some W.heap.size) :
    RFedP w5 w.heap.size v5 (FL ++ [f]) ∧ RFedP w5 w.heap.size av FA ∧ (∀ q, v5.ownBlock = some q → av.ownBlock ≠ some q) ∧ Below w.heap.size w w5 := by
  have hz := hq.size
  have hzb := hb.size
  refine ⟨?_, ?_, ?_, ?_⟩
  · unfold RFedP
    rw [frow_append, List.length_append]
    exact he
  · refine ownsRow_same ha fun q e => ?_
    have hlt := (ownsRow_lt ha e).2
    rw [hg.block q (by omega) (fun e' => hne q e'.symm e)]
    exact hq.block q hlt
  · intro q e e'
    rcases ho with ho | ho
    · rw [ho] at e; exact hne q e e'
    · have := (ownsRow_lt ha e').2
      rw [ho] at e
      simp only [Option.some.injEq] at e
      omega
  · exact (hb.trans (hq.mono hzb)).trans (below_grownBy_new hg (by omega) fun g e => (ownsRow_lt hl e).1)

theorem Win.slice {w : World} {b0 : Nat} {e : TypeId} {size : Nat} {v : Value} {n : Nat} {xs : List Value} (h : Win w b0 e size v n xs) : ∃ a c, v = .slice a n c := by
  rcases h with ⟨rfl, h0, _⟩ | ⟨g, o, cap, cur, rfl, _⟩
  · exact ⟨none, 0, by rw [h0]⟩
  · exact ⟨_, cap, rfl⟩
theorem ownsRow_lower' {w : World} {b b' n size : Nat} {e : TypeId} {v : Value} {xs : List Value} (h : w.ownsRow b e size v n xs) (hb : b' ≤ b) : w.ownsRow b' e size v n xs := by
  obtain ⟨h1, h2⟩ := h
  refine ⟨h1, h2.imp id ?_⟩
  rintro ⟨g, cap, cur, rfl, hg, r⟩
  exact ⟨g, cap, cur, rfl, by omega, r⟩

/-- What stands while the bytes that came by then are read. -/
structure Rd2 (w wx : World) (S T : Nat → Prop) (base Y L : Nat) (x : Exs) (tv : Value) (lvs : List Value) (av : Value) (FA : List Fd) (ov lv jv : Value) (ls : List Fd) (r : Rdg) : Prop where
  ev : EvP wx w.heap.size ov r.out
  wi : Win wx w.heap.size 146 2 lv ls.length (frow ls)
  rc : RecP wx (fun q => S q ∨ jv.ownBlock = some q) T base Y L { x with jobs := r.jobs, ct := r.ct } tv jv lvs
  la : RFedP wx w.heap.size av FA
  fr : Fr S w wx
section
variable {w wx w' : World} {S T : Nat → Prop} {base Y L : Nat} {x : Exs} {tv : Value} {lvs : List Value} {av : Value} {FA : List Fd} {ov lv jv : Value} {ls : List Fd} {r : Rdg}
theorem Rd2.lt (p : Rd2 w wx S T base Y L x tv lvs av FA ov lv jv ls r) (hS : ∀ q, S q → q < w.heap.size) (q : Nat) (e : S q ∨ jv.ownBlock = some q) : q < wx.heap.size := by
  have := p.fr.size
  rcases e with e | e
  · have := hS q e; omega
  · exact (ownsRow_lt p.rc.jbs e).2
theorem Rd2.below (p : Rd2 w wx S T base Y L x tv lvs av FA ov lv jv ls r) (hS : ∀ q, S q → q < w.heap.size) (hb : Below wx.heap.size wx w') : Rd2 w w' S T base Y L x tv lvs av FA ov lv jv ls r :=
  ⟨p.ev.later hb, p.wi.keep fun g _ _ hB => hb.block g hB.lt, p.rc.below (p.lt hS) hb, ownsRow_same p.la fun q e => hb.block q (ownsRow_lt p.la e).2, p.fr.then_below hb⟩
theorem Rd2.cell (p : Rd2 w wx S T base Y L x tv lvs av FA ov lv jv ls r) (hSY : S Y) (o : Nat) (u : Value) {ct : Ct} (he : (rcs x.cfg tv (.slice (some ⟨L, 0, none⟩) lvs.length lvs.length) jv x.clock x.fed r.ct).setIfInBounds o u = rcs x.cfg tv (.slice (some ⟨L, 0, none⟩) lvs.length lvs.length) jv x.clock x.fed ct) :
    Rd2 w (wx.setCell ⟨Y, o, none⟩ u) S T base Y L x tv lvs av FA ov lv jv ls { r with ct := ct } :=
  ⟨ownsRow_same p.ev fun q e => heap_setCell_other wx ⟨Y, o, none⟩ q _ (fun e' => ownsRow_ne_blk p.ev p.rc.blk (by decide) (by rw [e, e'])),
   p.wi.keep fun g cur _ hB => heap_setCell_other wx ⟨Y, o, none⟩ g _ (blk_ne hB p.rc.blk (by decide)),
   p.rc.cell o u (clock := x.clock) (fed := x.fed) (ct := ct) he,
   ownsRow_same p.la fun q e => heap_setCell_other wx ⟨Y, o, none⟩ q _ (fun e' => ownsRow_ne_blk p.la p.rc.blk (by decide) (by rw [e, e'])),
   p.fr.trans (Fr.set (X := S) wx Y o u hSY) fun _ _ e => e⟩
theorem Rd2.drop (p : Rd2 w wx S T base Y L x tv lvs av FA ov lv jv ls r) {g o cap : Nat} (hv : lv = .slice (some ⟨g, o, none⟩) ls.length cap) (m c : Nat) (hm : m ≤ ls.length) (hc : ls.length - m ≤ c) (hcm : c ≤ maxLen) : Rd2 w wx S T base Y L x tv lvs av FA ov (.slice (some ⟨g, o + m * 2, none⟩) (ls.length - m) c) jv (ls.drop m) r := by
  refine ⟨p.ev, ?_, p.rc, p.la, p.fr⟩
  have hw := p.wi
  rw [hv] at hw
  have := hw.drop m c hm hc hcm
  rw [frow_drop] at this
  rw [List.length_drop]
  exact this
theorem Rd2.dropAll (p : Rd2 w wx S T base Y L x tv lvs av FA ov lv jv ls r) {g o cap : Nat} (hv : lv = .slice (some ⟨g, o, none⟩) ls.length cap) (m : Nat) (hm : m = ls.length) : Rd2 w wx S T base Y L x tv lvs av FA ov (.slice (some ⟨g, o, none⟩) 0 0) jv (ls.drop m) r := by
  refine ⟨p.ev, ?_, p.rc, p.la, p.fr⟩
  have hd : ls.drop m = [] := by rw [hm]; exact List.drop_length
  rw [hd]
  rcases p.wi with ⟨h, _⟩ | ⟨g', o', cap', cur, h1, h2, h3, h4, h5, h6, h7⟩
  · rw [hv] at h; simp at h
  · rw [hv] at h1
    simp only [Value.slice.injEq, Option.some.injEq, Addr.mk.injEq, and_true, true_and] at h1
    obtain ⟨⟨rfl, rfl⟩, rfl⟩ := h1
    exact .inr ⟨g, o, 0, cur, rfl, h2, Nat.le_refl _, by unfold maxLen; omega, h5, rfl, fun i u hi => by simp [frow] at hi⟩
theorem Rd2.out (p : Rd2 w wx S T base Y L x tv lvs av FA ov lv jv ls r) (hS : ∀ q, S q → q < w.heap.size) (hT : ∀ q, T q → q < w.heap.size) {W : World} (hb : Below wx.heap.size wx W) {v5 : Value} {o : List Ev} (hg : W.grownBy w' ov.ownBlock) (he : EvP w' w.heap.size v5 o) : Rd2 w w' S T base Y L x tv lvs av FA v5 lv jv ls { r with out := o } := by
  have p := p.below hS hb
  have hz := p.fr.size
  refine ⟨he, p.wi.keep fun g cur _ hB => hg.block g hB.lt (fun e => ownsRow_ne_blk p.ev hB (by decide) e.symm), p.rc.same (fun k e => hg.block k ?_ fun e' => ?_) hg.size, ownsRow_same p.la fun q e => hg.block q (ownsRow_lt p.la e).2 (fun e' => ownsRow_ne p.la p.ev (by decide) e e'.symm), p.fr.trans (Fr.of_grown (X := fun k => ov.ownBlock = some k) hg fun k e _ => e) fun q hq e => ?_⟩
  · exact e.elim (p.lt hS k) fun e => (p.rc.tl k e).1
  · have h1 := (ownsRow_lt p.ev e'.symm).1
    rcases e with (e | e) | e
    · have := hS k e; omega
    · exact ownsRow_ne p.rc.jbs p.ev (by decide) e e'.symm
    · have := hT k e; omega
  · have := (ownsRow_lt p.ev e).1; omega
theorem Rd2.jobs (p : Rd2 w wx S T base Y L x tv lvs av FA ov lv jv ls r) (hS : ∀ q, S q → q < w.heap.size) (_hT : ∀ q, T q → q < w.heap.size) (hSY : S Y) (hSj : ∀ q, jv.ownBlock = some q → q < w.heap.size → S q) {W : World} (hb : Below wx.heap.size wx W) {jv' : Value} {js : List Jb} (hg : W.grownBy w' jv.ownBlock) (hr : RJobP w' base jv' js) (ho : jv'.ownBlock = jv.ownBlock ∨ jv'.ownBlock = some W.heap.size) :
    Rd2 w (w'.setCell ⟨Y, 7, none⟩ jv') S T base Y L x tv lvs av FA ov lv jv' ls { r with jobs := js } := by
  have p := p.below hS hb
  have hz := p.fr.size
  have hf : Fr (fun k => jv.ownBlock = some k) W w' := Fr.of_grown hg fun k e _ => e
  have hrc := p.rc.jobs (jv' := jv') (js := js) hf hr (ho.imp id fun e k e' => by rw [e] at e'; simp only [Option.some.injEq] at e'; omega)
  have hzs : (w'.setCell ⟨Y, 7, none⟩ jv').heap.size = w'.heap.size := by simp
  have hgs := hg.size
  have hne : ∀ q, q < W.heap.size → jv.ownBlock ≠ some q → q ≠ Y → (w'.setCell ⟨Y, 7, none⟩ jv').heap[q]? = W.heap[q]? := fun q hq h1 h2 => by
    rw [heap_setCell_other w' ⟨Y, 7, none⟩ q _ h2]
    exact hg.block q hq (fun e => h1 e.symm)
  refine ⟨ownsRow_same p.ev fun q e => hne q (ownsRow_lt p.ev e).2 (ownsRow_ne p.ev p.rc.jbs (by decide) e) (fun e' => ownsRow_ne_blk p.ev p.rc.blk (by decide) (by rw [e, e'])), p.wi.keep fun g cur _ hB => hne g hB.lt (ownsRow_ne_blk p.rc.jbs hB (by decide)) (blk_ne hB p.rc.blk (by decide)), ?_, ownsRow_same p.la fun q e => hne q (ownsRow_lt p.la e).2 (ownsRow_ne p.la p.rc.jbs (by decide) e) (fun e' => ownsRow_ne_blk p.la p.rc.blk (by decide) (by rw [e, e'])), (p.fr.trans hf fun q hq e => hSj q e hq).trans (Fr.set (X := S) w' Y 7 jv' hSY) fun _ _ e => e⟩
  have hsj := hrc.sj
  have hjl : ∀ q, jv.ownBlock = some q → q < W.heap.size := fun q e => (ownsRow_lt p.rc.jbs e).2
  refine ⟨hrc.blk, hrc.lns, hrc.len, hrc.row, hrc.jbs, hrc.ts, fun k e => ⟨(hrc.tl k e).1, ?_⟩, .inl hSY, ?_, fun k e => .inr e, fun i v k hv e => ?_, hrc.sep⟩
  · rintro (e' | e')
    · exact (p.rc.tl k e).2 (.inl e')
    · rcases ho with ho | ho
      · rw [ho] at e'; exact (p.rc.tl k e).2 (.inr e')
      · rw [ho] at e'
        simp only [Option.some.injEq] at e'
        have := (p.rc.tl k e).1
        omega
  · rcases p.rc.sl with e | e
    · exact .inl e
    · exact absurd e (ownsRow_ne_blk p.rc.jbs p.rc.lns (by decide))
  · rcases p.rc.sr i v k hv e with e' | e'
    · exact .inl e'
    · obtain ⟨l', hl'⟩ := get_of_lt (l := x.lines) (k := i) (by have := lt_of_get hv; have := p.rc.len; simp only at this; omega)
      exact absurd e (ownsRow_ne p.rc.jbs (p.rc.row i v l' hv hl') (by decide) e')
end

end Go.Proofs.YthloffgebebijaaGreat
