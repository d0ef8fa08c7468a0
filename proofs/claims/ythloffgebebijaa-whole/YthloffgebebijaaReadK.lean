/- Read: the walks of package config's reader: numbers from the front of some bytes. -/
import Derived.Test.YthloffgebebijaaBytesB
import Derived.Deep.RegionWith
import Derived.Deep.DeepMust
namespace Go.Proofs.Ythloffgebebijaa
open Go.RowKit

theorem grown_trans {a b c : World} {r : Option Nat} (h : a.grownBy b r) (k : b.grownBy c r) : a.grownBy c r :=
  ⟨k.os.trans h.os, k.tape.trans h.tape, k.output.trans h.output, Nat.le_trans h.size k.size, fun i hi hr => (k.block i (Nat.lt_of_lt_of_le hi h.size) hr).trans (h.block i hi hr)⟩
theorem grown_below {B R : Nat} {w w' : World} (h : w.grownBy w' (some R)) (hB : B ≤ R) (hs : B ≤ w.heap.size) : Below B w w' :=
  ⟨h.os, h.tape, h.output, h.size, fun k hk => h.block k (by omega) (by simp; omega)⟩
theorem grown_set {w : World} {R o : Nat} (v : Value) : w.grownBy (w.setCell ⟨R, o, none⟩ v) (some R) :=
  ⟨rfl, rfl, rfl, by simp, fun k _ hk => heap_setCell_other w _ k v (by simpa using hk)⟩
theorem Blk.grown {w w' : World} {b R : Nat} {c : Array Value} {t : TypeId} (h : Blk w b c t) (hg : w.grownBy w' (some R)) (hn : b ≠ R) : Blk w' b c t :=
  (hg.block b h.lt (by simpa using hn)).trans h

/-- A reader at block R: what is left of its bytes (below block B), and whether it is bad. -/
def Rdr (w : World) (R B : Nat) (s : List Int × Bool) : Prop := ∃ v, Blk w R #[v, .bool s.2] 105 ∧ Rd8 w B v s.1

def one (s : List Int × Bool) : Int × (List Int × Bool) := match s.1 with
  | [] => (0, ([], true))
  | x :: r => (x, (r, s.2))

theorem Rd8.set {w : World} {B : Nat} {v : Value} {bs : List Int} (h : Rd8 w B v bs) {R o : Nat} (hR : B ≤ R) (u : Value) : Rd8 (w.setCell ⟨R, o, none⟩ u) B v bs := by
  obtain ⟨a, cap, hv, hle', h⟩ := h
  refine ⟨a, cap, hv, hle', h.imp id ?_⟩
  rintro ⟨b, o', ha, hlt, hc⟩
  exact ⟨b, o', ha, hlt, fun i x hi => (World.cell?_of_block (heap_setCell_other w _ _ _ (by simp; omega))).trans (hc i x hi)⟩

set_option maxRecDepth 100000 in
set_option maxHeartbeats 400000 in
theorem one_any (R B : Nat) (s : List Int × Bool) (w : World) (h : Rdr w R B s) (hB : B ≤ R) (hb : ∀ x ∈ s.1, 0 ≤ x ∧ x < 256) (hlen : s.1.length ≤ 140737488355328) :
    Calls Try.prog 49 #[.pointer (some ⟨R, 0, none⟩)] w fun e w' => e = .returned (.int .i64 (one s).1) ∧ Rdr w' R B (one s).2 ∧ w.grownBy w' (some R) := by
  obtain ⟨bs, bad⟩ := s
  obtain ⟨v, hblk, hrd⟩ := h
  simp only at hblk hrd hb hlen
  have c1 : w.cell? ⟨R, 1, none⟩ = some (.bool bad) := hblk.cell 1
  have f0 := hblk.free 0
  have f1 := hblk.free 1
  have HB := hide hblk
  cases bs with
  | nil =>
    obtain ⟨a, cap, rfl, hle, _⟩ := hrd
    have c0 : w.cell? ⟨R, 0, none⟩ = some (.slice a 0 cap) := hblk.cell 0
    clear hblk
    go_enter Try.func49, Try.ntmps49
    go_wp2
    go_ret
    exact ⟨rfl, ⟨_, HB.out.set 1 _, ⟨a, cap, rfl, hle, .inl rfl⟩⟩, grown_set _⟩
  | cons x r =>
    have HR := hide hrd
    obtain ⟨a, cap, rfl, hle, hv⟩ := hrd
    rcases hv with hv | ⟨b, o, rfl, hlt, hc⟩
    · simp at hv
    have d0 := hc 0 x rfl
    simp only [Nat.add_zero] at d0
    have hx := hb x (by simp)
    obtain ⟨hx0, hx1⟩ := hx
    simp only [List.length_cons] at hlen
    generalize hn : r.length = n at *
    have HN := hide hn
    have HC := hide hc
    have HHB := hide hb
    have c0 : w.cell? ⟨R, 0, none⟩ = some (.slice (some ⟨b, o, none⟩) (n + 1) cap) := by rw [hblk.cell 0]; simp [← hn]
    simp only [List.length_cons, hn] at hle
    clear hblk hn hc hb
    have hne : ((n : Int) + 1 == 0) = false := by simp; omega
    by_cases hcp : cap = 1
    · have hn0 : n = 0 := by omega
      subst hcp
      subst hn0
      clear hne
      go_enter Try.func49, Try.ntmps49
      go_wp2
      go_ret
      have hr : r = [] := List.eq_nil_of_length_eq_zero HN.out
      subst hr
      exact ⟨rfl, ⟨_, HB.out.set 0 _, ⟨_, _, rfl, Nat.le_refl _, .inl rfl⟩⟩, grown_set _⟩
    · go_enter Try.func49, Try.ntmps49
      go_wp2
      go_ret
      refine ⟨rfl, ⟨_, HB.out.set 0 _, ⟨_, _, by rw [← HN.out]; rfl, by simp [one, HN.out]; omega, .inr ⟨b, o + 1, rfl, hlt, fun i y hi => ?_⟩⟩⟩, grown_set _⟩
      have := HC.out (i + 1) y (by simpa [one] using hi)
      rw [World.cell?_of_block (heap_setCell_other w _ _ _ (by simp; omega)), ← this, Nat.add_assoc, Nat.add_comm 1 i]

def AllB (l : List Int) : Prop := ∀ x ∈ l, 0 ≤ x ∧ x < 256
theorem one_allB {s : List Int × Bool} (h : AllB s.1) : AllB (one s).2.1 := by
  obtain ⟨bs, bad⟩ := s
  cases bs with
  | nil => exact h
  | cons x r => exact fun y hy => h y (by simp [one] at hy; simp [hy])
theorem one_len (s : List Int × Bool) : (one s).2.1.length ≤ s.1.length := by
  obtain ⟨bs, bad⟩ := s
  cases bs <;> simp [one]
theorem one_val {s : List Int × Bool} (h : AllB s.1) : 0 ≤ (one s).1 ∧ (one s).1 < 256 := by
  obtain ⟨bs, bad⟩ := s
  cases bs with
  | nil => simp [one]
  | cons x r => exact h x (by simp)

theorem or_join (p q : Int) (hp : 0 ≤ p) (hp' : p < 256) (hq : 0 ≤ q) (hq' : q < 256) : bits .or .i64 (p * 256) q = p * 256 + q := by
  obtain ⟨a, rfl⟩ := Int.eq_ofNat_of_zero_le hp
  obtain ⟨b, rfl⟩ := Int.eq_ofNat_of_zero_le hq
  show IntKind.i64.wrap ((BitVec.ofInt 64 ((a : Int) * 256) ||| BitVec.ofInt 64 (b : Int)).toNat : Int) = _
  have e : ((a : Int) * 256) = ((a * 256 : Nat) : Int) := by omega
  rw [BitVec.toNat_or, e, ofInt_u64 (a * 256) (by omega), ofInt_u64 b (by omega), nat_join 8 _ _ (by omega) (by omega), IntKind.wrap_i64]
  omega

def two (s : List Int × Bool) : Int × (List Int × Bool) := ((one s).1 * 256 + (one (one s).2).1, (one (one s).2).2)
def lenOf (most : Int) (s : List Int × Bool) : Int × (List Int × Bool) := if most < (one s).1 then (0, ((one s).2.1, true)) else one s

set_option maxRecDepth 100000 in
set_option maxHeartbeats 400000 in
theorem two_any (R B : Nat) (s : List Int × Bool) (w : World) (h : Rdr w R B s) (hB : B ≤ R) (hb : AllB s.1) (hlen : s.1.length ≤ 140737488355328) :
    Calls Try.prog 65 #[.pointer (some ⟨R, 0, none⟩)] w fun e w' => e = .returned (.int .i64 (two s).1) ∧ Rdr w' R B (two s).2 ∧ w.grownBy w' (some R) := by
  have hb1 := one_allB hb
  have hl1 := one_len s
  have v1 := one_val hb
  have v2 := one_val hb1
  have HT : Hid (two s = ((one s).1 * 256 + (one (one s).2).1, (one (one s).2).2)) := rfl
  have HR := hide h
  have HB1 := hide hb
  have HB2 := hide hb1
  clear h hb hb1
  have H1 := hide (one_any R B s w HR.out hB HB1.out hlen)
  have H2 := fun w1 h1 => hide (one_any R B (one s).2 w1 h1 hB HB2.out (by omega))
  have H2' := hide H2
  clear H2
  generalize hp : one s = p at *
  generalize hq : one p.2 = q at *
  clear hp hq
  obtain ⟨v1, v1'⟩ := v1
  obtain ⟨v2, v2'⟩ := v2
  go_enter Try.func65, Try.ntmps65
  go_wp2_with fail
  refine H1.out.mono ?_
  rintro e w1 ⟨rfl, r1, g1⟩
  have HR1 := hide r1
  have HG1 := hide g1
  clear r1 g1
  go_wp2_with fail
  refine (H2'.out w1 HR1.out).out.mono ?_
  rintro e w2 ⟨rfl, r2, g2⟩
  have HR2 := hide r2
  have HG2 := hide (grown_trans HG1.out g2)
  clear r2 g2
  go_wp2
  go_ret
  refine ⟨ret_int ?_, ?_, HG2.out⟩
  · rw [HT.out]; exact or_join _ _ v1 v1' v2 v2'
  · rw [HT.out]; exact HR2.out

theorem Rdr.setBad {w : World} {R B : Nat} {s : List Int × Bool} (h : Rdr w R B s) (hB : B ≤ R) : Rdr (w.setCell ⟨R, 1, none⟩ (.bool true)) R B (s.1, true) := by
  obtain ⟨v, hb, hr⟩ := h
  exact ⟨v, hb.set 1 _, hr.set hB _⟩

set_option maxRecDepth 100000 in
set_option maxHeartbeats 400000 in
theorem length_any (R B : Nat) (s : List Int × Bool) (m : Int) (w : World) (h : Rdr w R B s) (hB : B ≤ R) (hb : AllB s.1) (hlen : s.1.length ≤ 140737488355328) :
    Calls Try.prog 50 #[.pointer (some ⟨R, 0, none⟩), .int .i64 m] w fun e w' => e = .returned (.int .i64 (lenOf m s).1) ∧ Rdr w' R B (lenOf m s).2 ∧ w.grownBy w' (some R) := by
  have H1 := hide (one_any R B s w h hB hb hlen)
  have HT : Hid (lenOf m s = if m < (one s).1 then (0, ((one s).2.1, true)) else one s) := rfl
  generalize hp : one s = p at *
  clear hp h hb
  by_cases hm : m < p.1
  · go_enter Try.func50, Try.ntmps50
    go_wp2_with fail
    refine H1.out.mono ?_
    rintro e w1 ⟨rfl, r1, g1⟩
    have HR1 := hide r1
    have HG1 := hide g1
    obtain ⟨v, hblk, _⟩ := r1
    have f1 := hblk.free 1
    have c1 : w1.cell? ⟨R, 1, none⟩ = some (.bool p.2.2) := hblk.cell 1
    clear g1 hblk
    go_wp2
    go_ret
    refine ⟨ret_int ?_, ?_, grown_trans HG1.out (grown_set _)⟩
    · rw [HT.out, if_pos hm]
    · rw [HT.out, if_pos hm]; exact HR1.out.setBad hB
  · go_enter Try.func50, Try.ntmps50
    go_wp2_with fail
    refine H1.out.mono ?_
    rintro e w1 ⟨rfl, r1, g1⟩
    have HR1 := hide r1
    have HG1 := hide g1
    clear g1 r1
    go_wp2
    go_ret
    refine ⟨ret_int ?_, ?_, HG1.out⟩
    · rw [HT.out, if_neg (by omega)]
    · rw [HT.out, if_neg (by omega)]; exact HR1.out

end Go.Proofs.Ythloffgebebijaa

/- ReadB: the walks of package config's reader: a task, a configuration. -/
namespace Go.Proofs.Ythloffgebebijaa
open Go.RowKit

theorem info_limit : (Try.prog.info? 74).map (fun i => (i.zero, i.size, i.bytes)) = some (some (.agg #[.int .i64 0, .int .i64 0]), 2, 16) := by kernel_rfl
theorem info_task : (Try.prog.info? 61).map (fun i => (i.zero, i.size, i.bytes)) = some (some (.agg #[.int .i64 0, .int .i64 0, .slice none 0 0]), 3, 40) := by kernel_rfl

theorem Rdr.frame {w w' : World} {R B : Nat} {s : List Int × Bool} (h : Rdr w R B s) (hf : ∀ k, k = R ∨ k < B → w'.heap[k]? = w.heap[k]?) : Rdr w' R B s := by
  obtain ⟨v, hb, a, cap, hv, hle, hr⟩ := h
  refine ⟨v, (hf R (.inl rfl)).trans hb, a, cap, hv, hle, hr.imp id ?_⟩
  rintro ⟨b, o, ha, hlt, hc⟩
  exact ⟨b, o, ha, hlt, fun i x hi => (World.cell?_of_block (hf b (.inr hlt))).trans (hc i x hi)⟩
theorem Rdr.lt {w : World} {R B : Nat} {s : List Int × Bool} (h : Rdr w R B s) : R < w.heap.size := by
  obtain ⟨v, hb, _⟩ := h
  exact hb.lt
theorem Rdr.drew {w : World} {R B : Nat} {s : List Int × Bool} (h : Rdr w R B s) : Rdr w.drew R B s := h.frame fun _ _ => rfl
theorem Rdr.alloc {w : World} {R B : Nat} {s : List Int × Bool} (h : Rdr w R B s) (hB : B ≤ R) (o : Obj) : Rdr (w.alloc o) R B s :=
  h.frame fun k hk => Below.heap_alloc w o k (by have := h.lt; omega)
theorem Rdr.other {w : World} {R B : Nat} {s : List Int × Bool} (h : Rdr w R B s) {a : Addr} (h1 : a.block ≠ R) (h2 : B ≤ a.block) (v : Value) : Rdr (w.setCell a v) R B s :=
  h.frame fun k hk => heap_setCell_other w a k v (by omega)

theorem own_blk {w : World} {base : Nat} {e : TypeId} {size g n : Nat} {xs : List Value} (h : w.ownsRow base e size (.slice (some ⟨g, 0, none⟩) n n) n xs) : Blk w g xs.toArray e ∧ base ≤ g := by
  obtain ⟨h1, h2⟩ := h
  rcases h2 with ⟨h2, _⟩ | ⟨g', cap, cur, hv, hg, hh, _, _, hs, ht⟩
  · simp at h2
  · simp at hv
    obtain ⟨rfl, rfl⟩ := hv
    have : cur.toList = xs := by rw [← ht, List.take_of_length_le (by simp [hs])]
    subst this
    exact ⟨hh, hg⟩

def flat2 (ls : List (Int × Int)) : List Value := ls.flatMap fun l => [.int .i64 l.1, .int .i64 l.2]
theorem flat2_length (ls : List (Int × Int)) : (flat2 ls).length = 2 * ls.length := by
  induction ls with
  | nil => rfl
  | cons l r ih => simp [flat2] at ih ⊢; omega
theorem flat2_get (ls : List (Int × Int)) (i : Nat) (l : Int × Int) (h : ls[i]? = some l) : (flat2 ls)[2 * i]? = some (.int .i64 l.1) ∧ (flat2 ls)[2 * i + 1]? = some (.int .i64 l.2) := by
  induction ls generalizing i with
  | nil => simp at h
  | cons x r ih =>
    cases i with
    | zero => simp at h; subst h; simp [flat2]
    | succ i =>
      have := ih i (by simpa using h)
      have e : 2 * (i + 1) = 2 * i + 2 := by omega
      rw [e]
      simpa [flat2] using this
theorem flat2_set (ls : List (Int × Int)) (i : Nat) (l : Int × Int) : flat2 (ls.set i l) = ((flat2 ls).set (2 * i) (.int .i64 l.1)).set (2 * i + 1) (.int .i64 l.2) := by
  induction ls generalizing i with
  | nil => simp [flat2]
  | cons x r ih =>
    cases i with
    | zero => simp [flat2]
    | succ i =>
      have := ih i
      have e : 2 * (i + 1) = 2 * i + 1 + 1 := by omega
      rw [e]
      simpa [flat2] using this
theorem made2 (n : Nat) : (madeCells #[.int .i64 0, .int .i64 0] (n * 2)).toList = flat2 (List.replicate n (0, 0)) := by
  induction n with
  | zero => simp [madeCells, flat2]
  | succ n ih =>
    simp only [madeCells, Array.toList_map, Array.toList_range] at ih ⊢
    have e : (n + 1) * 2 = n * 2 + 1 + 1 := by omega
    rw [e, List.range_succ, List.range_succ, List.map_append, List.map_append, ih, List.replicate_succ']
    have e1 : n * 2 % 2 = 0 := by omega
    have e2 : (n * 2 + 1) % 2 = 1 := by omega
    simp [flat2, e1, e2]

/-- A store into a block that was not there at the start. -/
theorem grown_own {w0 w : World} {r : Option Nat} (h : w0.grownBy w r) {b o : Nat} (hb : w0.heap.size ≤ b) (v : Value) : w0.grownBy (w.setCell ⟨b, o, none⟩ v) r :=
  ⟨h.os, h.tape, h.output, by simpa using h.size, fun k hk hr => (heap_setCell_other w _ k v (by simp; omega)).trans (h.block k hk hr)⟩
theorem grown_alloc {w0 w : World} {r : Option Nat} (h : w0.grownBy w r) (o : Obj) : w0.grownBy (w.alloc o) r :=
  ⟨h.os, h.tape, h.output, Nat.le_trans h.size (by simp), fun k hk hr => (Below.heap_alloc w o k (Nat.lt_of_lt_of_le hk h.size)).trans (h.block k hk hr)⟩
theorem grown_refl (w : World) (r : Option Nat) : w.grownBy w r := ⟨rfl, rfl, rfl, Nat.le_refl _, fun _ _ _ => rfl⟩
theorem grown_drew {w0 w : World} {r : Option Nat} (h : w0.grownBy w r) : w0.grownBy w.drew r := ⟨h.os, h.tape, h.output, h.size, h.block⟩

theorem grown_none {w w' : World} (h : w.grownBy w' none) (R : Nat) : w.grownBy w' (some R) := ⟨h.os, h.tape, h.output, h.size, fun k hk _ => h.block k hk (by simp)⟩

theorem set_past {c : Array Value} {k : Nat} {x y : Value} (h : c[k + 1]? = some x) : (c.setIfInBounds k y)[k + 1]? = some x := by
  rw [Array.getElem?_setIfInBounds_ne (by omega)]; exact h

def limsRd : Nat → List Int × Bool → List (Int × Int) × (List Int × Bool)
  | 0, s => ([], s)
  | n + 1, s => (((two s).1, (one (two s).2).1) :: (limsRd n (one (two s).2).2).1, (limsRd n (one (two s).2).2).2)

def taskRd (s : List Int × Bool) : Tk × (List Int × Bool) :=
  (⟨(one s).1, (two (one s).2).1, (limsRd (lenOf 3 (two (one s).2).2).1.toNat (lenOf 3 (two (one s).2).2).2).1⟩, (limsRd (lenOf 3 (two (one s).2).2).1.toNat (lenOf 3 (two (one s).2).2).2).2)

theorem two_allB {s : List Int × Bool} (h : AllB s.1) : AllB (two s).2.1 := one_allB (one_allB h)
theorem two_len (s : List Int × Bool) : (two s).2.1.length ≤ s.1.length := Nat.le_trans (one_len _) (one_len _)
theorem two_val {s : List Int × Bool} (h : AllB s.1) : 0 ≤ (two s).1 ∧ (two s).1 < 65536 := by
  have := one_val h
  have := one_val (one_allB h)
  simp only [two]; omega
theorem lenOf_allB {m : Int} {s : List Int × Bool} (h : AllB s.1) : AllB (lenOf m s).2.1 := by
  unfold lenOf; split
  · exact one_allB h
  · exact one_allB h
theorem lenOf_len (m : Int) (s : List Int × Bool) : (lenOf m s).2.1.length ≤ s.1.length := by
  unfold lenOf; split
  · exact one_len s
  · exact one_len s
theorem lenOf_val {m : Int} (hm : 0 ≤ m) {s : List Int × Bool} (h : AllB s.1) : 0 ≤ (lenOf m s).1 ∧ (lenOf m s).1 ≤ m := by
  have := one_val h
  unfold lenOf; split
  · simp; omega
  · omega

/-- Limits of the call's own: a row of its own from block 'base' on. -/
def OwnLims (w : World) (base : Nat) (v : Value) (ls : List (Int × Int)) : Prop := ∃ g, v = .slice (some ⟨g, 0, none⟩) ls.length ls.length ∧ base ≤ g ∧ Blk w g (flat2 ls).toArray 74

set_option maxRecDepth 100000 in
set_option maxHeartbeats 800000 in
theorem task_any (R B : Nat) (s : List Int × Bool) (w : World) (h : Rdr w R B s) (hB : B ≤ R) (hb : AllB s.1) (hlen : s.1.length ≤ 140737488355328) :
    Calls Try.prog 51 #[.pointer (some ⟨R, 0, none⟩)] w fun e w' => ∃ v, e = .returned (.agg #[.int .i64 (taskRd s).1.cost, .int .i64 (taskRd s).1.due, v]) ∧ OwnLims w' w.heap.size v (taskRd s).1.lims ∧ Rdr w' R B (taskRd s).2 ∧ w.grownBy w' (some R) := by
  have hR := h.lt
  have hb1 := one_allB hb
  have hl1 := one_len s
  have hb2 := two_allB hb1
  have hl2 := two_len (one s).2
  have hb3 := lenOf_allB (m := 3) hb2
  have hl3 := lenOf_len 3 (two (one s).2).2
  have hv3 := lenOf_val (m := 3) (by decide) hb2
  have H1 := hide (fun w' h' => one_any R B s w' h' hB hb hlen)
  have H2 := hide (fun w' h' => two_any R B _ w' h' hB hb1 (by omega))
  have H3 := hide (fun w' h' => length_any R B _ 3 w' h' hB hb2 (by omega))
  have HB3 := hide hb3
  have HT : Hid (taskRd s = (⟨(one s).1, (two (one s).2).1, (limsRd (lenOf 3 (two (one s).2).2).1.toNat (lenOf 3 (two (one s).2).2).2).1⟩, (limsRd (lenOf 3 (two (one s).2).2).1.toNat (lenOf 3 (two (one s).2).2).2).2)) := rfl
  generalize hp : one s = p at *
  generalize hq : two p.2 = q at *
  generalize hr : lenOf 3 q.2 = r at *
  have HH := hide h
  clear hp hq hr hb hb1 hb2 hb3 h
  obtain ⟨n, hn⟩ : ∃ n : Nat, r.1 = n := ⟨r.1.toNat, by omega⟩
  rw [hn] at hv3 HT H3
  simp only [Int.toNat_natCast] at HT
  clear hn
  obtain ⟨hv3, hv3'⟩ := hv3
  have hn3 : n ≤ 3 := by omega
  go_enter Try.func51, Try.ntmps51
  go_wp2_with fail
  refine (H1.out _ ((HH.out.alloc hB _).alloc hB _)).mono ?_
  rintro e w1 ⟨rfl, r1, g1⟩
  have A1 := (((Blk.new w #[.int .i64 0, .int .i64 0, .slice none 0 0] 61)).alloc (.cells #[.int .i64 0, .int .i64 0, .slice none 0 0] 61)).grown g1 (by omega)
  have T1 : Blk w1 (w.heap.size + 1) #[.int .i64 0, .int .i64 0, .slice none 0 0] 61 := by
    have := (Blk.new (w.alloc (.cells #[.int .i64 0, .int .i64 0, .slice none 0 0] 61)) #[.int .i64 0, .int .i64 0, .slice none 0 0] 61).grown g1 (by simp; omega)
    simpa using this
  have HG1 : Hid (w.grownBy w1 (some R)) := grown_trans (grown_alloc (grown_alloc (grown_refl w _) _) _) g1
  have c0 : w1.cell? ⟨w.heap.size + 1, 0, none⟩ = some (.int .i64 0) := T1.cell 0
  have f0 := T1.free 0
  have HR1 := hide r1
  have HA1 := hide A1
  have HT1 := hide T1
  have hz1 := T1.lt
  clear g1 r1 A1 T1
  go_wp2_with fail
  refine (H2.out _ (HR1.out.other (by simp; omega) (by simp; omega) _)).mono ?_
  rintro e w2 ⟨rfl, r2, g2⟩
  have A2 := (HA1.out.other (a := ⟨w.heap.size + 1, 0, none⟩) (by simp) (.int .i64 p.1)).grown g2 (by omega)
  have T2 := (HT1.out.set 0 (.int .i64 p.1)).grown g2 (by omega)
  have HG2 := hide (grown_trans (grown_own HG1.out (b := w.heap.size + 1) (o := 0) (by omega) (.int .i64 p.1)) g2)
  have T2' : Blk w2 (w.heap.size + 1) #[.int .i64 p.1, .int .i64 0, .slice none 0 0] 61 := T2
  have c1 : w2.cell? ⟨w.heap.size + 1, 1, none⟩ = some (.int .i64 0) := T2'.cell 1
  have f1 := T2'.free 1
  have HR2 := hide r2
  have HA2 := hide A2
  have HT2 := hide T2'
  have hz2 := T2'.lt
  clear g2 r2 A2 T2 T2' HR1 HA1 HT1 HG1 c0 f0 hz1
  go_wp2_with fail
  refine (H3.out _ (HR2.out.other (by simp; omega) (by simp; omega) _)).mono ?_
  rintro e w3 ⟨rfl, r3, g3⟩
  have A3 := (HA2.out.other (a := ⟨w.heap.size + 1, 1, none⟩) (by simp) (.int .i64 q.1)).grown g3 (by omega)
  have T3 : Blk w3 (w.heap.size + 1) #[.int .i64 p.1, .int .i64 q.1, .slice none 0 0] 61 := (HT2.out.set 1 (.int .i64 q.1)).grown g3 (by omega)
  have HG3 := hide (grown_trans (grown_own HG2.out (b := w.heap.size + 1) (o := 1) (by omega) (.int .i64 q.1)) g3)
  have HR3 := hide r3
  have HA3 := hide A3
  have HT3 := hide T3
  have hz3 := T3.lt
  clear g3 r3 A3 T3 HR2 HA2 HT2 HG2 c1 f1 hz2
  obtain ⟨i0, hi, hz0, hzs, hzb⟩ := info_parts info_limit
  have HI := hide (And.intro hi (And.intro hz0 (And.intro hzs hzb)))
  clear hi hz0 hzs hzb
  go_wp2_with (at_make; go_must (refine wpList_make_full _ rfl _ _ 59 rfl w.heap.size 74 i0 _ 2 Try.underlying59 HI.out.1 HI.out.2.1 HI.out.2.2.1 .i64 .i64 _ _ n rfl rfl rfl rfl ?_ ?_ ?_ ?_))
  · rw [HI.out.2.2.2]; omega
  · unfold maxLen; omega
  · omega
  intro w4 o4 g4'
  have g4 := grown_none g4' R
  obtain ⟨L4, hL⟩ := own_blk o4
  have e4 := made2 n
  rw [e4] at L4
  have A4 := HA3.out.grown g4 (by omega)
  have T4 := HT3.out.grown g4 (by omega)
  have HR4 : Hid (Rdr w4 R B r.2) := HR3.out.frame fun k hk => g4'.block k (by omega) (by simp)
  have HG4 := hide (grown_trans HG3.out g4)
  have c2 : w4.cell? ⟨w.heap.size + 1, 2, none⟩ = some (.slice none 0 0) := T4.cell 2
  have f2 := T4.free 2
  have HL4 := hide L4
  have HA4 := hide A4
  have HT4 := hide T4
  have hz4 := L4.lt
  have hz4' := T4.lt
  generalize hLB : w3.heap.size = L at *
  clear hLB o4 g4 g4' L4 e4 A4 T4 HA3 HT3 HR3 HG3 HI
  go_wp2_with fail
  go_loopw [18] (fun i wr => ∃ (k m : Nat) (st : List Int × Bool) (done : List (Int × Int)), i = .int .i64 k ∧ k + m = n ∧ done.length = k ∧ Rdr wr R B st ∧ limsRd n r.2 = (done ++ (limsRd m st).1, (limsRd m st).2) ∧ AllB st.1 ∧ st.1.length ≤ 140737488355328 ∧
      Blk wr L (flat2 (done ++ List.replicate m (0, 0))).toArray 74 ∧ Blk wr (w.heap.size + 1) #[.int .i64 p.1, .int .i64 q.1, .slice (some ⟨L, 0, none⟩) n n] 61 ∧ Blk wr w.heap.size #[.int .i64 0, .int .i64 0, .slice none 0 0] 61 ∧ w.grownBy wr (some R)) (fun i _ => n - (intOf i).toNat)
  case atStart => exact ⟨0, n, r.2, [], rfl, by omega, rfl, HR4.out.other (by simp; omega) (by simp; omega) _, by simp, HB3.out, by omega, HL4.out.other (by simp; omega) _, HT4.out.set 2 _, HA4.out.other (by simp) _, grown_own HG4.out (by omega) _⟩
  case round =>
    obtain ⟨k, m, st, done, rfl, hkm, hdl, hr, he, hb, hl, hL2, hT2, hA2, hg⟩ := hrel
    have HR := hide hr
    have HE := hide he
    have HB := hide hb
    have HDL := hide hdl
    have HL := hide hL2
    have HTT := hide hT2
    have HA := hide hA2
    have HG := hide hg
    have HKM := hide hkm
    have hkn : k ≤ n := by omega
    clear hr he hb hL2 hT2 hA2 hg hkm hdl
    cases m with
    | succ m =>
      have hlt : k < n := by have := HKM.out; omega
      have H5 := hide (fun w' h' => two_any R B st w' h' hB HB.out hl)
      have H6 := hide (fun w' h' => one_any R B _ w' h' hB (two_allB HB.out) (Nat.le_trans (two_len st) hl))
      have HE2 : Hid (limsRd (m + 1) st = (((two st).1, (one (two st).2).1) :: (limsRd m (one (two st).2).2).1, (limsRd m (one (two st).2).2).2)) := rfl
      have HB5 := hide (one_allB (two_allB HB.out))
      have HL5 := hide (Nat.le_trans (one_len _) (Nat.le_trans (two_len st) hl))
      generalize hu : two st = u at *
      generalize hv : one u.2 = v at *
      clear hu hv
      have tc2 : wr.cell? ⟨w.heap.size + 1, 2, none⟩ = some (.slice (some ⟨L, 0, none⟩) n n) := HTT.out.cell 2
      have HLR : Hid (L ≠ R) := by show L ≠ R; omega
      go_wp2_with fail
      have HX : Hid ((flat2 (done ++ List.replicate (m + 1) (0, 0))).toArray[k * 2]? = some (.int .i64 0) ∧ (flat2 (done ++ List.replicate (m + 1) (0, 0))).toArray[k * 2 + 1]? = some (.int .i64 0)) := by
        have := flat2_get (done ++ List.replicate (m + 1) (0, 0)) k (0, 0) (by rw [List.getElem?_append_right (by rw [HDL.out]; omega), HDL.out]; simp)
        rw [Nat.mul_comm k 2]
        simpa [Hid] using this
      go_region_with (go_at_call 65; refine (H5.out wr.drew HR.out.drew).mono ?_; rintro e w5 ⟨rfl, r5, g5⟩; have tc5 : w5.cell? ⟨w.heap.size + 1, 2, none⟩ = some (.slice (some ⟨L, 0, none⟩) n n) := (HTT.out.drew.grown g5 (by omega)).cell 2; have lc5 : w5.cell? ⟨L, k * 2, none⟩ = some (.int .i64 0) := ((HL.out.drew.grown g5 HLR.out).cell _).trans HX.out.1; have lf5 := (HL.out.drew.grown g5 HLR.out).free (k * 2); have HR5 := hide r5; have HG5 := hide g5; clear r5 g5)
      all_goals
        have HL6 := hide ((HL.out.drew.grown HG5.out HLR.out).set (k * 2) (.int .i64 u.1))
        have HT6 := hide ((HTT.out.drew.grown HG5.out (by omega)).other (a := ⟨L, k * 2, none⟩) (by simp; omega) (.int .i64 u.1))
        have HA6 := hide ((HA.out.drew.grown HG5.out (by omega)).other (a := ⟨L, k * 2, none⟩) (by simp; omega) (.int .i64 u.1))
        have HG6 := hide (grown_own (grown_trans (grown_drew HG.out) HG5.out) (b := L) (o := k * 2) hL (.int .i64 u.1))
        have HR6 := hide (HR5.out.other (a := ⟨L, k * 2, none⟩) HLR.out (by simp; omega) (.int .i64 u.1))
        have hk2 : (k * 2 == k * 2 + 1) = false := by simp
        clear lc5 lf5 tc5 tc2 HR5 HG5
        generalize hW : w5.setCell ⟨L, k * 2, none⟩ (.int .i64 u.1) = W6 at *
        have tc6 : W6.cell? ⟨w.heap.size + 1, 2, none⟩ = some (.slice (some ⟨L, 0, none⟩) n n) := HT6.out.cell 2
        clear hW
        go_wp2_with fail
        go_region_with (go_at_call 49; refine (H6.out W6.drew HR6.out.drew).mono ?_; rintro e w7 ⟨rfl, r7, g7⟩; have tc7 : w7.cell? ⟨w.heap.size + 1, 2, none⟩ = some (.slice (some ⟨L, 0, none⟩) n n) := (HT6.out.drew.grown g7 (by omega)).cell 2; have lc7 : w7.cell? ⟨L, k * 2 + 1, none⟩ = some (.int .i64 0) := ((HL6.out.drew.grown g7 HLR.out).cell _).trans (set_past HX.out.2); have lf7 := (HL6.out.drew.grown g7 HLR.out).free (k * 2 + 1); have HR7 := hide r7; have HG7 := hide g7; clear r7 g7)
        all_goals
          have HL8 := hide ((HL6.out.drew.grown HG7.out HLR.out).set (k * 2 + 1) (.int .i64 v.1))
          have HT8 := hide ((HT6.out.drew.grown HG7.out (by omega)).other (a := ⟨L, k * 2 + 1, none⟩) (by simp; omega) (.int .i64 v.1))
          have HA8 := hide ((HA6.out.drew.grown HG7.out (by omega)).other (a := ⟨L, k * 2 + 1, none⟩) (by simp; omega) (.int .i64 v.1))
          have HG8 := hide (grown_own (grown_trans (grown_drew HG6.out) HG7.out) (b := L) (o := k * 2 + 1) hL (.int .i64 v.1))
          have HR8 := hide (HR7.out.other (a := ⟨L, k * 2 + 1, none⟩) HLR.out (by simp; omega) (.int .i64 v.1))
          clear lc7 lf7 tc7 tc6 HR7 HG7
          generalize hW : w7.setCell ⟨L, k * 2 + 1, none⟩ (.int .i64 v.1) = W8 at *
          clear hW
          go_wp2
          go_roundw
          case rel =>
            refine ⟨k + 1, m, v.2, done ++ [(u.1, v.1)], by go_num, by have := HKM.out; omega, by simp [HDL.out], HR8.out, ?_, HB5.out, HL5.out, ?_, HT8.out, HA8.out, HG8.out⟩
            · rw [HE.out, HE2.out]; simp
            · have e1 : done ++ [(u.1, v.1)] ++ List.replicate m (0, 0) = (done ++ List.replicate (m + 1) (0, 0)).set k (u.1, v.1) := by
                rw [List.set_append_right _ _ (by rw [HDL.out]; omega), HDL.out]; simp [List.replicate_succ]
              rw [e1, flat2_set]
              have := HL8.out
              rw [Nat.mul_comm 2 k]
              simpa using this
          case measure => simp [intOf]; have := HKM.out; omega
    | zero =>
      have hlt : ¬ k < n := by have := HKM.out; omega
      have tc0 : wr.cell? ⟨w.heap.size + 1, 0, none⟩ = some (.int .i64 p.1) := HTT.out.cell 0
      have tc1 : wr.cell? ⟨w.heap.size + 1, 1, none⟩ = some (.int .i64 q.1) := HTT.out.cell 1
      have tc2 : wr.cell? ⟨w.heap.size + 1, 2, none⟩ = some (.slice (some ⟨L, 0, none⟩) n n) := HTT.out.cell 2
      have ac0 : wr.cell? ⟨w.heap.size, 0, none⟩ = some (.int .i64 0) := HA.out.cell 0
      have ac1 : wr.cell? ⟨w.heap.size, 1, none⟩ = some (.int .i64 0) := HA.out.cell 1
      have ac2 : wr.cell? ⟨w.heap.size, 2, none⟩ = some (.slice none 0 0) := HA.out.cell 2
      have af0 := HA.out.free 0
      have af1 := HA.out.free 1
      have af2 := HA.out.free 2
      go_wp2
      have HF := ((HA.out.set 0 (.int .i64 p.1)).set 1 (.int .i64 q.1)).set 2 (.slice (some ⟨L, 0, none⟩) n n)
      have HF0 := HF.cell 0
      have HF1 := HF.cell 1
      have HF2 := HF.cell 2
      simp at HF0 HF1 HF2
      have hdn : done.length = n := by have := HKM.out; have := HDL.out; omega
      refine bodyPost_ret (v := .agg #[.int .i64 p.1, .int .i64 q.1, .slice (some ⟨L, 0, none⟩) n n]) (by simp [results, Try.results51, go_sem, HF0, HF1, HF2]) rfl ⟨_, by rw [HT.out], ?_, ?_, ?_⟩
      · rw [HT.out, HE.out]
        refine ⟨L, by simp [limsRd, hdn], by omega, ?_⟩
        have := HL.out
        simp only [List.replicate_zero, limsRd, List.append_nil] at this ⊢
        exact ((this.other (by simp; omega) _).other (by simp; omega) _).other (by simp; omega) _
      · rw [HT.out, HE.out]
        exact ((HR.out.other (by simp; omega) (by simp; omega) _).other (by simp; omega) (by simp; omega) _).other (by simp; omega) (by simp; omega) _
      · exact grown_own (grown_own (grown_own HG.out (Nat.le_refl _) _) (Nat.le_refl _) _) (Nat.le_refl _) _

end Go.Proofs.Ythloffgebebijaa

/- ReadC: the walk of package config's reader over a whole configuration. -/
namespace Go.Proofs.Ythloffgebebijaa
open Go.RowKit

def tasksRd : Nat → List Int × Bool → List Tk × (List Int × Bool)
  | 0, s => ([], s)
  | n + 1, s => ((taskRd s).1 :: (tasksRd n (taskRd s).2).1, (tasksRd n (taskRd s).2).2)

def st1 (s : List Int × Bool) := (one s).2
def st2 (s : List Int × Bool) := (one (st1 s)).2
def st3 (s : List Int × Bool) := (one (st2 s)).2
def st4 (s : List Int × Bool) := (one (st3 s)).2
def st5 (s : List Int × Bool) := (one (st4 s)).2
def cfgRd (s : List Int × Bool) : Cfg × (List Int × Bool) :=
  (⟨(one s).1, (one (st1 s)).1, (one (st2 s)).1, (one (st3 s)).1, (one (st4 s)).1, (tasksRd (lenOf 6 (st5 s)).1.toNat (lenOf 6 (st5 s)).2).1⟩, (tasksRd (lenOf 6 (st5 s)).1.toNat (lenOf 6 (st5 s)).2).2)

theorem limsRd_allB {n : Nat} {s : List Int × Bool} (h : AllB s.1) : AllB (limsRd n s).2.1 := by
  induction n generalizing s with
  | zero => exact h
  | succ n ih => exact ih (one_allB (two_allB h))
theorem limsRd_len (n : Nat) (s : List Int × Bool) : (limsRd n s).2.1.length ≤ s.1.length := by
  induction n generalizing s with
  | zero => exact Nat.le_refl _
  | succ n ih => exact Nat.le_trans (ih _) (Nat.le_trans (one_len _) (two_len s))
theorem taskRd_allB {s : List Int × Bool} (h : AllB s.1) : AllB (taskRd s).2.1 := limsRd_allB (lenOf_allB (two_allB (one_allB h)))
theorem taskRd_len (s : List Int × Bool) : (taskRd s).2.1.length ≤ s.1.length :=
  Nat.le_trans (limsRd_len _ _) (Nat.le_trans (lenOf_len _ _) (Nat.le_trans (two_len _) (one_len _)))

def flat3 (es : List (Int × Int × Value)) : List Value := es.flatMap fun e => [.int .i64 e.1, .int .i64 e.2.1, e.2.2]
theorem flat3_get (ls : List (Int × Int × Value)) (i : Nat) (l : Int × Int × Value) (h : ls[i]? = some l) : (flat3 ls)[i * 3]? = some (.int .i64 l.1) ∧ (flat3 ls)[i * 3 + 1]? = some (.int .i64 l.2.1) ∧ (flat3 ls)[i * 3 + 2]? = some l.2.2 := by
  induction ls generalizing i with
  | nil => simp at h
  | cons x r ih =>
    cases i with
    | zero => simp at h; subst h; simp [flat3]
    | succ i =>
      have := ih i (by simpa using h)
      have e : (i + 1) * 3 = i * 3 + 1 + 1 + 1 := by omega
      rw [e]
      simpa [flat3] using this
theorem flat3_set (ls : List (Int × Int × Value)) (i : Nat) (l : Int × Int × Value) : flat3 (ls.set i l) = (((flat3 ls).set (i * 3) (.int .i64 l.1)).set (i * 3 + 1) (.int .i64 l.2.1)).set (i * 3 + 2) l.2.2 := by
  induction ls generalizing i with
  | nil => simp [flat3]
  | cons x r ih =>
    cases i with
    | zero => simp [flat3]
    | succ i =>
      have := ih i
      have e : (i + 1) * 3 = i * 3 + 1 + 1 + 1 := by omega
      rw [e]
      simpa [flat3] using this
theorem made3 (n : Nat) : (madeCells #[.int .i64 0, .int .i64 0, .slice none 0 0] (n * 3)).toList = flat3 (List.replicate n (0, 0, .slice none 0 0)) := by
  induction n with
  | zero => simp [madeCells, flat3]
  | succ n ih =>
    simp only [madeCells, Array.toList_map, Array.toList_range] at ih ⊢
    have e : (n + 1) * 3 = n * 3 + 1 + 1 + 1 := by omega
    rw [e, List.range_succ, List.range_succ, List.range_succ, List.map_append, List.map_append, List.map_append, ih, List.replicate_succ']
    have e1 : n * 3 % 3 = 0 := by omega
    have e2 : (n * 3 + 1) % 3 = 1 := by omega
    have e3 : (n * 3 + 1 + 1) % 3 = 2 := by omega
    simp [flat3, e1, e2, e3]

def TkRel (w : World) (base : Nat) (e : Int × Int × Value) (t : Tk) : Prop := e.1 = t.cost ∧ e.2.1 = t.due ∧ OwnLims w base e.2.2 t.lims
/-- No two of them share a list of limits. -/
def Apart (es : List (Int × Int × Value)) : Prop := es.Pairwise fun a b => a.2.2.ownBlock ≠ b.2.2.ownBlock
/-- Tasks of the call's own. -/
def OwnTasks (w : World) (base : Nat) (v : Value) (ts : List Tk) : Prop :=
  ∃ (g : Nat) (es : List (Int × Int × Value)), v = .slice (some ⟨g, 0, none⟩) ts.length ts.length ∧ base ≤ g ∧ Blk w g (flat3 es).toArray 61 ∧ es.length = ts.length ∧ (∀ (i : Nat) (e : Int × Int × Value) (t : Tk), es[i]? = some e → ts[i]? = some t → TkRel w base e t) ∧ Apart es

theorem OwnLims.lower {w : World} {base base' : Nat} {v : Value} {ls : List (Int × Int)} (h : OwnLims w base v ls) (hb : base' ≤ base) : OwnLims w base' v ls := by
  obtain ⟨g, hv, hg, hb'⟩ := h
  exact ⟨g, hv, by omega, hb'⟩
theorem OwnLims.grown {w w' : World} {base R : Nat} {v : Value} {ls : List (Int × Int)} (h : OwnLims w base v ls) (hg : w.grownBy w' (some R)) (hR : R < base) : OwnLims w' base v ls := by
  obtain ⟨g, hv, hg', hb'⟩ := h
  exact ⟨g, hv, hg', hb'.grown hg (by omega)⟩
theorem OwnLims.other {w : World} {base L : Nat} {v : Value} {ls : List (Int × Int)} {c : Array Value} {t : TypeId} (h : OwnLims w base v ls) (hL : Blk w L c t) (ht : 74 ≠ t) (o : Nat) (x : Value) : OwnLims (w.setCell ⟨L, o, none⟩ x) base v ls := by
  obtain ⟨g, hv, hg', hb'⟩ := h
  refine ⟨g, hv, hg', hb'.other (fun e => ?_) x⟩
  simp only at e
  subst e
  exact ht (hb'.inj hL).2
theorem OwnLims.drew {w : World} {base : Nat} {v : Value} {ls : List (Int × Int)} (h : OwnLims w base v ls) : OwnLims w.drew base v ls := h
theorem TkRel.grown {w w' : World} {base R : Nat} {e : Int × Int × Value} {t : Tk} (h : TkRel w base e t) (hg : w.grownBy w' (some R)) (hR : R < base) : TkRel w' base e t := ⟨h.1, h.2.1, h.2.2.grown hg hR⟩
theorem TkRel.other {w : World} {base L : Nat} {e : Int × Int × Value} {t : Tk} {c : Array Value} {ty : TypeId} (h : TkRel w base e t) (hL : Blk w L c ty) (ht : 74 ≠ ty) (o : Nat) (x : Value) : TkRel (w.setCell ⟨L, o, none⟩ x) base e t := ⟨h.1, h.2.1, h.2.2.other hL ht o x⟩

theorem snoc_rel {α β : Type} {P : α → β → Prop} {es : List α} {ts : List β} {e : α} {t : β} (hl : es.length = ts.length) (h : ∀ (i : Nat) (e : α) (t : β), es[i]? = some e → ts[i]? = some t → P e t) (he : P e t) : ∀ (i : Nat) (e' : α) (t' : β), (es ++ [e])[i]? = some e' → (ts ++ [t])[i]? = some t' → P e' t' := by
  intro i e' t' h1 h2
  by_cases hi : i < es.length
  · rw [List.getElem?_append_left hi] at h1
    rw [List.getElem?_append_left (by omega)] at h2
    exact h i e' t' h1 h2
  · rw [List.getElem?_append_right (by omega)] at h1
    rw [List.getElem?_append_right (by omega)] at h2
    have : i - es.length = 0 := by
      have := (List.getElem?_eq_some_iff.1 h1).1
      simp at this; omega
    rw [this] at h1
    rw [← hl, this] at h2
    simp at h1 h2
    subst h1; subst h2
    exact he

set_option maxRecDepth 100000 in
set_option maxHeartbeats 1600000 in
theorem config_any (R B : Nat) (s : List Int × Bool) (w : World) (h : Rdr w R B s) (hB : B ≤ R) (hb : AllB s.1) (hlen : s.1.length ≤ 140737488355328) :
    Calls Try.prog 36 #[.pointer (some ⟨R, 0, none⟩)] w fun e w' => ∃ v, e = .returned (.agg #[.int .i64 (cfgRd s).1.lines, .int .i64 (cfgRd s).1.room, .int .i64 (cfgRd s).1.poll, .int .i64 (cfgRd s).1.idle, .int .i64 (cfgRd s).1.sw, v]) ∧ OwnTasks w' w.heap.size v (cfgRd s).1.tasks ∧ Rdr w' R B (cfgRd s).2 ∧ w.grownBy w' (some R) := by
  have hR := h.lt
  have hb1 : AllB (st1 s).1 := one_allB hb
  have hb2 : AllB (st2 s).1 := one_allB hb1
  have hb3 : AllB (st3 s).1 := one_allB hb2
  have hb4 : AllB (st4 s).1 := one_allB hb3
  have hb5 : AllB (st5 s).1 := one_allB hb4
  have hb6 := lenOf_allB (m := 6) hb5
  have hl1 : (st1 s).1.length ≤ 140737488355328 := Nat.le_trans (one_len _) hlen
  have hl2 : (st2 s).1.length ≤ 140737488355328 := Nat.le_trans (one_len _) hl1
  have hl3 : (st3 s).1.length ≤ 140737488355328 := Nat.le_trans (one_len _) hl2
  have hl4 : (st4 s).1.length ≤ 140737488355328 := Nat.le_trans (one_len _) hl3
  have hl5 : (st5 s).1.length ≤ 140737488355328 := Nat.le_trans (one_len _) hl4
  have hl6 := Nat.le_trans (lenOf_len 6 (st5 s)) hl5
  have hv6 := lenOf_val (m := 6) (by decide) hb5
  have H1 := hide (fun w' h' => one_any R B s w' h' hB hb hlen)
  have H2 := hide (fun w' h' => one_any R B _ w' h' hB hb1 hl1)
  have H3 := hide (fun w' h' => one_any R B _ w' h' hB hb2 hl2)
  have H4 := hide (fun w' h' => one_any R B _ w' h' hB hb3 hl3)
  have H5 := hide (fun w' h' => one_any R B _ w' h' hB hb4 hl4)
  have H6 := hide (fun w' h' => length_any R B _ 6 w' h' hB hb5 hl5)
  rw [show (one s).2 = st1 s from rfl] at H1
  rw [show (one (st1 s)).2 = st2 s from rfl] at H2
  rw [show (one (st2 s)).2 = st3 s from rfl] at H3
  rw [show (one (st3 s)).2 = st4 s from rfl] at H4
  rw [show (one (st4 s)).2 = st5 s from rfl] at H5
  have HB6 := hide hb6
  have HT : Hid (cfgRd s = (⟨(one s).1, (one (st1 s)).1, (one (st2 s)).1, (one (st3 s)).1, (one (st4 s)).1, (tasksRd (lenOf 6 (st5 s)).1.toNat (lenOf 6 (st5 s)).2).1⟩, (tasksRd (lenOf 6 (st5 s)).1.toNat (lenOf 6 (st5 s)).2).2)) := rfl
  have HH := hide h
  clear hb hb1 hb2 hb3 hb4 hb5 hb6 h hl1 hl2 hl3 hl4 hl5
  generalize hr : lenOf 6 (st5 s) = r at *
  generalize (one s).1 = x1 at *
  generalize (one (st1 s)).1 = x2 at *
  generalize (one (st2 s)).1 = x3 at *
  generalize (one (st3 s)).1 = x4 at *
  generalize (one (st4 s)).1 = x5 at *
  clear hr
  obtain ⟨n, hn⟩ : ∃ n : Nat, r.1 = n := ⟨r.1.toNat, by omega⟩
  rw [hn] at hv6 HT H6
  simp only [Int.toNat_natCast] at HT
  clear hn
  obtain ⟨hv6, hv6'⟩ := hv6
  have hn3 : n ≤ 6 := by omega
  go_enter Try.func36, Try.ntmps36
  go_wp2_with fail
  refine (H1.out _ ((HH.out.alloc hB _).alloc hB _)).mono ?_
  rintro e w1 ⟨rfl, r1, g1⟩
  have A1 := (((Blk.new w #[.int .i64 0, .int .i64 0, .int .i64 0, .int .i64 0, .int .i64 0, .slice none 0 0] 26)).alloc (.cells #[.int .i64 0, .int .i64 0, .int .i64 0, .int .i64 0, .int .i64 0, .slice none 0 0] 26)).grown g1 (by omega)
  have T1 : Blk w1 (w.heap.size + 1) #[.int .i64 0, .int .i64 0, .int .i64 0, .int .i64 0, .int .i64 0, .slice none 0 0] 26 := by
    have := (Blk.new (w.alloc (.cells #[.int .i64 0, .int .i64 0, .int .i64 0, .int .i64 0, .int .i64 0, .slice none 0 0] 26)) #[.int .i64 0, .int .i64 0, .int .i64 0, .int .i64 0, .int .i64 0, .slice none 0 0] 26).grown g1 (by simp; omega)
    simpa using this
  have HG1 : Hid (w.grownBy w1 (some R)) := grown_trans (grown_alloc (grown_alloc (grown_refl w _) _) _) g1
  have c0 : w1.cell? ⟨w.heap.size + 1, 0, none⟩ = some (.int .i64 0) := T1.cell 0
  have f0 := T1.free 0
  have HR1 := hide r1
  have HA1 := hide A1
  have HT1 := hide T1
  have hz1 := T1.lt
  clear g1 r1 A1 T1
  go_wp2_with fail
  refine (H2.out _ (HR1.out.other (by simp; omega) (by simp; omega) _)).mono ?_
  rintro e w2 ⟨rfl, r2, g2⟩
  have A2 := (HA1.out.other (a := ⟨w.heap.size + 1, 0, none⟩) (by simp) (.int .i64 x1)).grown g2 (by omega)
  have T2 : Blk w2 (w.heap.size + 1) #[.int .i64 x1, .int .i64 0, .int .i64 0, .int .i64 0, .int .i64 0, .slice none 0 0] 26 := (HT1.out.set 0 (.int .i64 x1)).grown g2 (by omega)
  have HG2 := hide (grown_trans (grown_own HG1.out (b := w.heap.size + 1) (o := 0) (by omega) (.int .i64 x1)) g2)
  have c2 : w2.cell? ⟨w.heap.size + 1, 1, none⟩ = some (.int .i64 0) := T2.cell 1
  have f2 := T2.free 1
  have HR2 := hide r2
  have HA2 := hide A2
  have HT2 := hide T2
  have hz2 := T2.lt
  clear g2 r2 A2 T2 HR1 HA1 HT1 HG1 c0 f0 hz1
  go_wp2_with fail
  refine (H3.out _ (HR2.out.other (by simp; omega) (by simp; omega) _)).mono ?_
  rintro e w3 ⟨rfl, r3, g3⟩
  have A3 := (HA2.out.other (a := ⟨w.heap.size + 1, 1, none⟩) (by simp) (.int .i64 x2)).grown g3 (by omega)
  have T3 : Blk w3 (w.heap.size + 1) #[.int .i64 x1, .int .i64 x2, .int .i64 0, .int .i64 0, .int .i64 0, .slice none 0 0] 26 := (HT2.out.set 1 (.int .i64 x2)).grown g3 (by omega)
  have HG3 := hide (grown_trans (grown_own HG2.out (b := w.heap.size + 1) (o := 1) (by omega) (.int .i64 x2)) g3)
  have c3 : w3.cell? ⟨w.heap.size + 1, 2, none⟩ = some (.int .i64 0) := T3.cell 2
  have f3 := T3.free 2
  have HR3 := hide r3
  have HA3 := hide A3
  have HT3 := hide T3
  have hz3 := T3.lt
  clear g3 r3 A3 T3 HR2 HA2 HT2 HG2 c2 f2 hz2
  go_wp2_with fail
  refine (H4.out _ (HR3.out.other (by simp; omega) (by simp; omega) _)).mono ?_
  rintro e w4 ⟨rfl, r4, g4⟩
  have A4 := (HA3.out.other (a := ⟨w.heap.size + 1, 2, none⟩) (by simp) (.int .i64 x3)).grown g4 (by omega)
  have T4 : Blk w4 (w.heap.size + 1) #[.int .i64 x1, .int .i64 x2, .int .i64 x3, .int .i64 0, .int .i64 0, .slice none 0 0] 26 := (HT3.out.set 2 (.int .i64 x3)).grown g4 (by omega)
  have HG4 := hide (grown_trans (grown_own HG3.out (b := w.heap.size + 1) (o := 2) (by omega) (.int .i64 x3)) g4)
  have c4 : w4.cell? ⟨w.heap.size + 1, 3, none⟩ = some (.int .i64 0) := T4.cell 3
  have f4 := T4.free 3
  have HR4 := hide r4
  have HA4 := hide A4
  have HT4 := hide T4
  have hz4 := T4.lt
  clear g4 r4 A4 T4 HR3 HA3 HT3 HG3 c3 f3 hz3
  go_wp2_with fail
  refine (H5.out _ (HR4.out.other (by simp; omega) (by simp; omega) _)).mono ?_
  rintro e w5 ⟨rfl, r5, g5⟩
  have A5 := (HA4.out.other (a := ⟨w.heap.size + 1, 3, none⟩) (by simp) (.int .i64 x4)).grown g5 (by omega)
  have T5 : Blk w5 (w.heap.size + 1) #[.int .i64 x1, .int .i64 x2, .int .i64 x3, .int .i64 x4, .int .i64 0, .slice none 0 0] 26 := (HT4.out.set 3 (.int .i64 x4)).grown g5 (by omega)
  have HG5 := hide (grown_trans (grown_own HG4.out (b := w.heap.size + 1) (o := 3) (by omega) (.int .i64 x4)) g5)
  have c5 : w5.cell? ⟨w.heap.size + 1, 4, none⟩ = some (.int .i64 0) := T5.cell 4
  have f5 := T5.free 4
  have HR5 := hide r5
  have HA5 := hide A5
  have HT5 := hide T5
  have hz5 := T5.lt
  clear g5 r5 A5 T5 HR4 HA4 HT4 HG4 c4 f4 hz4
  go_wp2_with fail
  refine (H6.out _ (HR5.out.other (by simp; omega) (by simp; omega) _)).mono ?_
  rintro e w6 ⟨rfl, r6, g6⟩
  have A6 := (HA5.out.other (a := ⟨w.heap.size + 1, 4, none⟩) (by simp) (.int .i64 x5)).grown g6 (by omega)
  have T6 : Blk w6 (w.heap.size + 1) #[.int .i64 x1, .int .i64 x2, .int .i64 x3, .int .i64 x4, .int .i64 x5, .slice none 0 0] 26 := (HT5.out.set 4 (.int .i64 x5)).grown g6 (by omega)
  have HG6 := hide (grown_trans (grown_own HG5.out (b := w.heap.size + 1) (o := 4) (by omega) (.int .i64 x5)) g6)
  have HR6 := hide r6
  have HA6 := hide A6
  have HT6 := hide T6
  have hz6 := T6.lt
  clear g6 r6 A6 T6 HR5 HA5 HT5 HG5 c5 f5 hz5
  obtain ⟨i0, hi, hz0, hzs, hzb⟩ := info_parts info_task
  have HI := hide (And.intro hi (And.intro hz0 (And.intro hzs hzb)))
  clear hi hz0 hzs hzb
  go_wp2_with (at_make; go_must (refine wpList_make_full _ rfl _ _ 24 rfl w.heap.size 61 i0 _ 3 Try.underlying24 HI.out.1 HI.out.2.1 HI.out.2.2.1 .i64 .i64 _ _ n rfl rfl rfl rfl ?_ ?_ ?_ ?_))
  · rw [HI.out.2.2.2]; omega
  · unfold maxLen; omega
  · omega
  intro w4 o4 g4'
  have g4 := grown_none g4' R
  obtain ⟨L4, hL⟩ := own_blk o4
  have e4 := made3 n
  rw [e4] at L4
  have A4 := HA6.out.grown g4 (by omega)
  have T4 := HT6.out.grown g4 (by omega)
  have HR4 : Hid (Rdr w4 R B r.2) := HR6.out.frame fun k hk => g4'.block k (by omega) (by simp)
  have HG4 := hide (grown_trans HG6.out g4)
  have c2 : w4.cell? ⟨w.heap.size + 1, 5, none⟩ = some (.slice none 0 0) := T4.cell 5
  have f2 := T4.free 5
  have HL4 := hide L4
  have HA4 := hide A4
  have HT4 := hide T4
  have hz4 := L4.lt
  have hz4' := T4.lt
  generalize hLB : w6.heap.size = L at *
  clear hLB o4 g4 g4' L4 e4 A4 T4 HA6 HT6 HR6 HG6 HI
  go_wp2_with fail
  go_loopw [27] (fun i wr => ∃ (k m : Nat) (st : List Int × Bool) (done : List Tk) (es : List (Int × Int × Value)), i = .int .i64 k ∧ k + m = n ∧ done.length = k ∧ es.length = k ∧ Rdr wr R B st ∧ tasksRd n r.2 = (done ++ (tasksRd m st).1, (tasksRd m st).2) ∧ AllB st.1 ∧ st.1.length ≤ 140737488355328 ∧
      Blk wr L (flat3 (es ++ List.replicate m (0, 0, .slice none 0 0))).toArray 61 ∧ (∀ (i : Nat) (e : Int × Int × Value) (t : Tk), es[i]? = some e → done[i]? = some t → TkRel wr w.heap.size e t) ∧ Blk wr (w.heap.size + 1) #[.int .i64 x1, .int .i64 x2, .int .i64 x3, .int .i64 x4, .int .i64 x5, .slice (some ⟨L, 0, none⟩) n n] 26 ∧ Blk wr w.heap.size #[.int .i64 0, .int .i64 0, .int .i64 0, .int .i64 0, .int .i64 0, .slice none 0 0] 26 ∧ w.grownBy wr (some R) ∧ Apart es) (fun i _ => n - (intOf i).toNat)
  case atStart => exact ⟨0, n, r.2, [], [], rfl, by omega, rfl, rfl, HR4.out.other (by simp; omega) (by simp; omega) _, by simp, HB6.out, by omega, HL4.out.other (by simp; omega) _, by simp, HT4.out.set 5 _, HA4.out.other (by simp) _, grown_own HG4.out (by omega) _, List.Pairwise.nil⟩
  case round =>
    obtain ⟨k, m, st, done, es, rfl, hkm, hdl, hel, hr, he, hb, hl, hL2, hrel2, hT2, hA2, hg, hap⟩ := hrel
    have HAP := hide hap
    have HR := hide hr
    have HE := hide he
    have HB := hide hb
    have HDL := hide hdl
    have HEL := hide hel
    have HL := hide hL2
    have HREL := hide hrel2
    have HTT := hide hT2
    have HA := hide hA2
    have HG := hide hg
    have HKM := hide hkm
    have hkn : k ≤ n := by omega
    have HGS := hide hg.size
    clear hr he hb hL2 hT2 hA2 hg hkm hdl hel hrel2 hap
    cases m with
    | succ m =>
      have hlt : k < n := by have := HKM.out; omega
      have H7 := hide (fun w' h' => task_any R B st w' h' hB HB.out hl)
      have HE2 : Hid (tasksRd (m + 1) st = ((taskRd st).1 :: (tasksRd m (taskRd st).2).1, (tasksRd m (taskRd st).2).2)) := rfl
      have HB7 := hide (taskRd_allB HB.out)
      have HL7 := hide (Nat.le_trans (taskRd_len st) hl)
      generalize hu : taskRd st = u at *
      obtain ⟨⟨ucost, udue, ulims⟩, ust⟩ := u
      simp only at H7 HE2 HB7 HL7
      clear hu
      have tc2 : wr.cell? ⟨w.heap.size + 1, 5, none⟩ = some (.slice (some ⟨L, 0, none⟩) n n) := HTT.out.cell 5
      have HLR : Hid (L ≠ R) := by show L ≠ R; omega
      have HX : Hid ((flat3 (es ++ List.replicate (m + 1) (0, 0, .slice none 0 0))).toArray[k * 3]? = some (.int .i64 0) ∧ (flat3 (es ++ List.replicate (m + 1) (0, 0, .slice none 0 0))).toArray[k * 3 + 1]? = some (.int .i64 0) ∧ (flat3 (es ++ List.replicate (m + 1) (0, 0, .slice none 0 0))).toArray[k * 3 + 2]? = some (.slice none 0 0)) := by
        have := flat3_get (es ++ List.replicate (m + 1) (0, 0, .slice none 0 0)) k (0, 0, .slice none 0 0) (by rw [List.getElem?_append_right (by rw [HEL.out]; omega), HEL.out]; simp)
        simpa [Hid] using this
      go_wp2_with fail
      go_region_with (go_at_call 51; refine (H7.out wr.drew HR.out.drew).mono ?_; rintro e w5 ⟨v5, rfl, o5, r5, g5⟩; have HO5 := hide (o5.lower (base' := w.heap.size) HGS.out); obtain ⟨lg, rfl, hlg, hlb⟩ := o5; have tc5 : w5.cell? ⟨w.heap.size + 1, 5, none⟩ = some (.slice (some ⟨L, 0, none⟩) n n) := (HTT.out.drew.grown g5 (by omega)).cell 5; have lc0 : w5.cell? ⟨L, k * 3, none⟩ = some (.int .i64 0) := ((HL.out.drew.grown g5 HLR.out).cell _).trans HX.out.1; have lc1 : w5.cell? ⟨L, k * 3 + 1, none⟩ = some (.int .i64 0) := ((HL.out.drew.grown g5 HLR.out).cell _).trans HX.out.2.1; have lc2 : w5.cell? ⟨L, k * 3 + 2, none⟩ = some (.slice none 0 0) := ((HL.out.drew.grown g5 HLR.out).cell _).trans HX.out.2.2; have lf0 := (HL.out.drew.grown g5 HLR.out).free (k * 3); have lf1 := (HL.out.drew.grown g5 HLR.out).free (k * 3 + 1); have lf2 := (HL.out.drew.grown g5 HLR.out).free (k * 3 + 2); have HR5 := hide r5; have HG5 := hide g5; clear r5 g5 hlb)
      all_goals
        have L5 := HL.out.drew.grown HG5.out HLR.out
        have L6 := L5.set (k * 3) (.int .i64 ucost)
        have L7 := L6.set (k * 3 + 1) (.int .i64 udue)
        have HL8 := hide (L7.set (k * 3 + 2) (.slice (some ⟨lg, 0, none⟩) ulims.length ulims.length))
        have HT8 := hide ((((HTT.out.drew.grown HG5.out (by omega)).other (a := ⟨L, k * 3, none⟩) (by simp; omega) (.int .i64 ucost)).other (a := ⟨L, k * 3 + 1, none⟩) (by simp; omega) (.int .i64 udue)).other (a := ⟨L, k * 3 + 2, none⟩) (by simp; omega) (.slice (some ⟨lg, 0, none⟩) ulims.length ulims.length))
        have HA8 := hide ((((HA.out.drew.grown HG5.out (by omega)).other (a := ⟨L, k * 3, none⟩) (by simp; omega) (.int .i64 ucost)).other (a := ⟨L, k * 3 + 1, none⟩) (by simp; omega) (.int .i64 udue)).other (a := ⟨L, k * 3 + 2, none⟩) (by simp; omega) (.slice (some ⟨lg, 0, none⟩) ulims.length ulims.length))
        have HG8 := hide (grown_own (grown_own (grown_own (grown_trans (grown_drew HG.out) HG5.out) (b := L) (o := k * 3) hL (.int .i64 ucost)) (b := L) (o := k * 3 + 1) hL (.int .i64 udue)) (b := L) (o := k * 3 + 2) hL (.slice (some ⟨lg, 0, none⟩) ulims.length ulims.length))
        have HR8 := hide (((HR5.out.other (a := ⟨L, k * 3, none⟩) HLR.out (by simp; omega) (.int .i64 ucost)).other (a := ⟨L, k * 3 + 1, none⟩) HLR.out (by simp; omega) (.int .i64 udue)).other (a := ⟨L, k * 3 + 2, none⟩) HLR.out (by simp; omega) (.slice (some ⟨lg, 0, none⟩) ulims.length ulims.length))
        have HREL8 := hide (snoc_rel (P := TkRel (((w5.setCell ⟨L, k * 3, none⟩ (.int .i64 ucost)).setCell ⟨L, k * 3 + 1, none⟩ (.int .i64 udue)).setCell ⟨L, k * 3 + 2, none⟩ (.slice (some ⟨lg, 0, none⟩) ulims.length ulims.length)) w.heap.size) (e := (ucost, udue, .slice (some ⟨lg, 0, none⟩) ulims.length ulims.length)) (t := ⟨ucost, udue, ulims⟩) (HEL.out.trans HDL.out.symm)
          (fun i e t h1 h2 => ((((HREL.out i e t h1 h2).grown (grown_drew (grown_refl wr _)) hR).grown HG5.out hR).other L5 (by decide) _ _ |>.other L6 (by decide) _ _).other L7 (by decide) _ _)
          ⟨rfl, rfl, ((HO5.out.other L5 (by decide) _ _).other L6 (by decide) _ _).other L7 (by decide) _ _⟩)
        have HAP8 : Hid (Apart (es ++ [(ucost, udue, .slice (some ⟨lg, 0, none⟩) ulims.length ulims.length)])) := by
          refine List.pairwise_append.2 ⟨HAP.out, by simp, ?_⟩
          intro a ha b hb
          simp at hb
          subst hb
          obtain ⟨i, hi⟩ := List.getElem?_of_mem ha
          obtain ⟨t, ht⟩ := get_of_lt (l := done) (k := i) (by have := lt_of_get hi; have := HEL.out; have := HDL.out; omega)
          obtain ⟨_, _, g', hv, _, hb'⟩ := HREL.out i a t hi ht
          rw [hv]
          simp only [Value.ownBlock, ne_eq, Option.some.injEq]
          have h1 := hb'.lt
          have h2 : wr.heap.size ≤ lg := by simpa using hlg
          omega
        clear lc0 lc1 lc2 lf0 lf1 lf2 tc5 tc2 HR5 HG5 L5 L6 L7 HO5 hlg
        generalize hW : ((w5.setCell ⟨L, k * 3, none⟩ (.int .i64 ucost)).setCell ⟨L, k * 3 + 1, none⟩ (.int .i64 udue)).setCell ⟨L, k * 3 + 2, none⟩ (.slice (some ⟨lg, 0, none⟩) ulims.length ulims.length) = W8 at *
        clear hW
        go_wp2
        go_roundw
        case rel =>
          refine ⟨k + 1, m, ust, done ++ [⟨ucost, udue, ulims⟩], es ++ [(ucost, udue, .slice (some ⟨lg, 0, none⟩) ulims.length ulims.length)], by go_num, by have := HKM.out; omega, by simp [HDL.out], by simp [HEL.out], HR8.out, ?_, HB7.out, HL7.out, ?_, HREL8.out, HT8.out, HA8.out, HG8.out, HAP8.out⟩
          · rw [HE.out, HE2.out]; simp
          · have e1 : es ++ [(ucost, udue, Value.slice (some ⟨lg, 0, none⟩) ulims.length ulims.length)] ++ List.replicate m ((0 : Int), (0 : Int), Value.slice none 0 0) = (es ++ List.replicate (m + 1) ((0 : Int), (0 : Int), Value.slice none 0 0)).set k (ucost, udue, Value.slice (some ⟨lg, 0, none⟩) ulims.length ulims.length) := by
              rw [List.set_append_right _ _ (by rw [HEL.out]; omega), HEL.out]; simp [List.replicate_succ]
            rw [e1, flat3_set]
            have := HL8.out
            simpa using this
        case measure => simp [intOf]; have := HKM.out; omega
    | zero =>
      have hlt : ¬ k < n := by have := HKM.out; omega
      have tc0 : wr.cell? ⟨w.heap.size + 1, 0, none⟩ = some (.int .i64 x1) := HTT.out.cell 0
      have tc1 : wr.cell? ⟨w.heap.size + 1, 1, none⟩ = some (.int .i64 x2) := HTT.out.cell 1
      have tc2 : wr.cell? ⟨w.heap.size + 1, 2, none⟩ = some (.int .i64 x3) := HTT.out.cell 2
      have tc3 : wr.cell? ⟨w.heap.size + 1, 3, none⟩ = some (.int .i64 x4) := HTT.out.cell 3
      have tc4 : wr.cell? ⟨w.heap.size + 1, 4, none⟩ = some (.int .i64 x5) := HTT.out.cell 4
      have tc5 : wr.cell? ⟨w.heap.size + 1, 5, none⟩ = some (.slice (some ⟨L, 0, none⟩) n n) := HTT.out.cell 5
      have ac0 : wr.cell? ⟨w.heap.size, 0, none⟩ = some (.int .i64 0) := HA.out.cell 0
      have ac1 : wr.cell? ⟨w.heap.size, 1, none⟩ = some (.int .i64 0) := HA.out.cell 1
      have ac2 : wr.cell? ⟨w.heap.size, 2, none⟩ = some (.int .i64 0) := HA.out.cell 2
      have ac3 : wr.cell? ⟨w.heap.size, 3, none⟩ = some (.int .i64 0) := HA.out.cell 3
      have ac4 : wr.cell? ⟨w.heap.size, 4, none⟩ = some (.int .i64 0) := HA.out.cell 4
      have ac5 : wr.cell? ⟨w.heap.size, 5, none⟩ = some (.slice none 0 0) := HA.out.cell 5
      have af0 := HA.out.free 0
      have af1 := HA.out.free 1
      have af2 := HA.out.free 2
      have af3 := HA.out.free 3
      have af4 := HA.out.free 4
      have af5 := HA.out.free 5
      go_wp2
      have HF := (((((HA.out.set 0 (.int .i64 x1)).set 1 (.int .i64 x2)).set 2 (.int .i64 x3)).set 3 (.int .i64 x4)).set 4 (.int .i64 x5)).set 5 (.slice (some ⟨L, 0, none⟩) n n)
      have HF0 := HF.cell 0
      have HF1 := HF.cell 1
      have HF2 := HF.cell 2
      have HF3 := HF.cell 3
      have HF4 := HF.cell 4
      have HF5 := HF.cell 5
      simp at HF0 HF1 HF2 HF3 HF4 HF5
      have hdn : done.length = n := by have := HKM.out; have := HDL.out; omega
      have hen : es.length = n := by have := HKM.out; have := HEL.out; omega
      refine bodyPost_ret (v := .agg #[.int .i64 x1, .int .i64 x2, .int .i64 x3, .int .i64 x4, .int .i64 x5, .slice (some ⟨L, 0, none⟩) n n]) (by simp [results, Try.results36, go_sem, HF0, HF1, HF2, HF3, HF4, HF5]) rfl ⟨_, by rw [HT.out], ?_, ?_, ?_⟩
      · rw [HT.out, HE.out]
        simp only [tasksRd, List.append_nil]
        have L0 := HL.out
        simp only [List.replicate_zero, List.append_nil] at L0
        have hWL : w.heap.size ≠ L := by omega
        refine ⟨L, es, by simp [hdn], hL, ?_, by omega, fun i e t h1 h2 => ?_, HAP.out⟩
        · exact (((((L0.other (by simp; omega) _).other (by simp; omega) _).other (by simp; omega) _).other (by simp; omega) _).other (by simp; omega) _).other (by simp; omega) _
        · have A0 := HA.out
          have A1 := A0.set 0 (.int .i64 x1)
          have A2 := A1.set 1 (.int .i64 x2)
          have A3 := A2.set 2 (.int .i64 x3)
          have A4 := A3.set 3 (.int .i64 x4)
          have A5 := A4.set 4 (.int .i64 x5)
          exact ((((((HREL.out i e t h1 h2).other A0 (by decide) _ _).other A1 (by decide) _ _).other A2 (by decide) _ _).other A3 (by decide) _ _).other A4 (by decide) _ _).other A5 (by decide) _ _
      · rw [HT.out, HE.out]
        exact (((((HR.out.other (by simp; omega) (by simp; omega) _).other (by simp; omega) (by simp; omega) _).other (by simp; omega) (by simp; omega) _).other (by simp; omega) (by simp; omega) _).other (by simp; omega) (by simp; omega) _).other (by simp; omega) (by simp; omega) _
      · exact grown_own (grown_own (grown_own (grown_own (grown_own (grown_own HG.out (Nat.le_refl _) _) (Nat.le_refl _) _) (Nat.le_refl _) _) (Nat.le_refl _) _) (Nat.le_refl _) _) (Nat.le_refl _) _

end Go.Proofs.Ythloffgebebijaa
