/- Read: the walks of package config's reader: numbers from the front of some bytes. -/
import Derived.Test.YthloffgebebijaaBytesB
namespace Go.Proofs.Ythloffgebebijaa
open Go.RowKit

theorem grown_trans {a b c : World} {r : Option Nat} (h : a.grownBy b r) (k : b.grownBy c r) : a.grownBy c r :=
  ⟨k.os.trans h.os, k.tape.trans h.tape, k.output.trans h.output, Nat.le_trans h.size k.size, fun i hi hr => (k.block i (Nat.lt_of_lt_of_le hi h.size) hr).trans (h.block i hi hr)⟩
theorem grown_below {B R : Nat} {w w' : World} (h : w.grownBy w' (some R)) (hB : B ≤ R) (hs : B ≤ w.heap.size) : Below B w w' :=
  ⟨h.os, h.tape, h.output, h.size, fun k hk => h.block k (by omega) (by simp; omega)⟩
theorem grown_set {w : World} {R o : Nat} (v : Value) : w.grownBy (w.setCell ⟨R, o, none⟩ v) (some R) :=
  ⟨rfl, rfl, rfl, by simp, fun k _ hk => heap_setCell_other w _ k v (by simpa using hk)⟩
theorem Blk.grown {w w' : World} {b R : Nat} {c : Array Value} {t : TypeId} (h : Blk w b c t) (hg : w.grownBy w' (some R)) (hn : b ≠ R) : Blk w' b c t :=
  (hg.block b h.lt (by simpa using hn)).trans h

/-- A reader at block R: what is left of its bytes (below block B), and whether it is bad. -/
def Rdr (w : World) (R B : Nat) (s : List Int × Bool) : Prop := ∃ v, Blk w R #[v, .bool s.2] 105 ∧ Rd8 w B v s.1

def one (s : List Int × Bool) : Int × (List Int × Bool) := match s.1 with
  | [] => (0, ([], true))
  | x :: r => (x, (r, s.2))

theorem Rd8.set {w : World} {B : Nat} {v : Value} {bs : List Int} (h : Rd8 w B v bs) {R o : Nat} (hR : B ≤ R) (u : Value) : Rd8 (w.setCell ⟨R, o, none⟩ u) B v bs := by
  obtain ⟨a, cap, hv, hle', h⟩ := h
  refine ⟨a, cap, hv, hle', h.imp id ?_⟩
  rintro ⟨b, o', ha, hlt, hc⟩
  exact ⟨b, o', ha, hlt, fun i x hi => (World.cell?_of_block (heap_setCell_other w _ _ _ (by simp; omega))).trans (hc i x hi)⟩

set_option maxRecDepth 100000 in
set_option maxHeartbeats 400000 in
theorem one_any (R B : Nat) (s : List Int × Bool) (w : World) (h : Rdr w R B s) (hB : B ≤ R) (hb : ∀ x ∈ s.1, 0 ≤ x ∧ x < 256) (hlen : s.1.length ≤ 140737488355328) :
    Calls Try.prog 49 #[.pointer (some ⟨R, 0, none⟩)] w fun e w' => e = .returned (.int .i64 (one s).1) ∧ Rdr w' R B (one s).2 ∧ w.grownBy w' (some R) := by
  obtain ⟨bs, bad⟩ := s
  obtain ⟨v, hblk, hrd⟩ := h
  simp only at hblk hrd hb hlen
  have c1 : w.cell? ⟨R, 1, none⟩ = some (.bool bad) := hblk.cell 1
  have f0 := hblk.free 0
  have f1 := hblk.free 1
  have HB := hide hblk
  cases bs with
  | nil =>
    obtain ⟨a, cap, rfl, hle, _⟩ := hrd
    have c0 : w.cell? ⟨R, 0, none⟩ = some (.slice a 0 cap) := hblk.cell 0
    clear hblk
    go_enter Try.func49, Try.ntmps49
    go_wp2
    go_ret
    exact ⟨rfl, ⟨_, HB.out.set 1 _, ⟨a, cap, rfl, hle, .inl rfl⟩⟩, grown_set _⟩
  | cons x r =>
    have HR := hide hrd
    obtain ⟨a, cap, rfl, hle, hv⟩ := hrd
    rcases hv with hv | ⟨b, o, rfl, hlt, hc⟩
    · simp at hv
    have d0 := hc 0 x rfl
    simp only [Nat.add_zero] at d0
    have hx := hb x (by simp)
    obtain ⟨hx0, hx1⟩ := hx
    simp only [List.length_cons] at hlen
    generalize hn : r.length = n at *
    have HN := hide hn
    have HC := hide hc
    have HHB := hide hb
    have c0 : w.cell? ⟨R, 0, none⟩ = some (.slice (some ⟨b, o, none⟩) (n + 1) cap) := by rw [hblk.cell 0]; simp [← hn]
    simp only [List.length_cons, hn] at hle
    clear hblk hn hc hb
    have hne : ((n : Int) + 1 == 0) = false := by simp; omega
    by_cases hcp : cap = 1
    · have hn0 : n = 0 := by omega
      subst hcp
      subst hn0
      clear hne
      go_enter Try.func49, Try.ntmps49
      go_wp2
      go_ret
      have hr : r = [] := List.eq_nil_of_length_eq_zero HN.out
      subst hr
      exact ⟨rfl, ⟨_, HB.out.set 0 _, ⟨_, _, rfl, Nat.le_refl _, .inl rfl⟩⟩, grown_set _⟩
    · go_enter Try.func49, Try.ntmps49
      go_wp2
      go_ret
      refine ⟨rfl, ⟨_, HB.out.set 0 _, ⟨_, _, by rw [← HN.out]; rfl, by simp [one, HN.out]; omega, .inr ⟨b, o + 1, rfl, hlt, fun i y hi => ?_⟩⟩⟩, grown_set _⟩
      have := HC.out (i + 1) y (by simpa [one] using hi)
      rw [World.cell?_of_block (heap_setCell_other w _ _ _ (by simp; omega)), ← this, Nat.add_assoc, Nat.add_comm 1 i]

def AllB (l : List Int) : Prop := ∀ x ∈ l, 0 ≤ x ∧ x < 256
theorem one_allB {s : List Int × Bool} (h : AllB s.1) : AllB (one s).2.1 := by
  obtain ⟨bs, bad⟩ := s
  cases bs with
  | nil => exact h
  | cons x r => exact fun y hy => h y (by simp [one] at hy; simp [hy])
theorem one_len (s : List Int × Bool) : (one s).2.1.length ≤ s.1.length := by
  obtain ⟨bs, bad⟩ := s
  cases bs <;> simp [one]
theorem one_val {s : List Int × Bool} (h : AllB s.1) : 0 ≤ (one s).1 ∧ (one s).1 < 256 := by
  obtain ⟨bs, bad⟩ := s
  cases bs with
  | nil => simp [one]
  | cons x r => exact h x (by simp)

theorem or_join (p q : Int) (hp : 0 ≤ p) (hp' : p < 256) (hq : 0 ≤ q) (hq' : q < 256) : bits .or .i64 (p * 256) q = p * 256 + q := by
  obtain ⟨a, rfl⟩ := Int.eq_ofNat_of_zero_le hp
  obtain ⟨b, rfl⟩ := Int.eq_ofNat_of_zero_le hq
  show IntKind.i64.wrap ((BitVec.ofInt 64 ((a : Int) * 256) ||| BitVec.ofInt 64 (b : Int)).toNat : Int) = _
  have e : ((a : Int) * 256) = ((a * 256 : Nat) : Int) := by omega
  rw [BitVec.toNat_or, e, ofInt_u64 (a * 256) (by omega), ofInt_u64 b (by omega), nat_join 8 _ _ (by omega) (by omega), IntKind.wrap_i64]
  omega

def two (s : List Int × Bool) : Int × (List Int × Bool) := ((one s).1 * 256 + (one (one s).2).1, (one (one s).2).2)
def lenOf (most : Int) (s : List Int × Bool) : Int × (List Int × Bool) := if most < (one s).1 then (0, ((one s).2.1, true)) else one s

set_option maxRecDepth 100000 in
set_option maxHeartbeats 400000 in
theorem two_any (R B : Nat) (s : List Int × Bool) (w : World) (h : Rdr w R B s) (hB : B ≤ R) (hb : AllB s.1) (hlen : s.1.length ≤ 140737488355328) :
    Calls Try.prog 65 #[.pointer (some ⟨R, 0, none⟩)] w fun e w' => e = .returned (.int .i64 (two s).1) ∧ Rdr w' R B (two s).2 ∧ w.grownBy w' (some R) := by
  have hb1 := one_allB hb
  have hl1 := one_len s
  have v1 := one_val hb
  have v2 := one_val hb1
  have HT : Hid (two s = ((one s).1 * 256 + (one (one s).2).1, (one (one s).2).2)) := rfl
  have HR := hide h
  have HB1 := hide hb
  have HB2 := hide hb1
  clear h hb hb1
  have H1 := hide (one_any R B s w HR.out hB HB1.out hlen)
  have H2 := fun w1 h1 => hide (one_any R B (one s).2 w1 h1 hB HB2.out (by omega))
  have H2' := hide H2
  clear H2
  generalize hp : one s = p at *
  generalize hq : one p.2 = q at *
  clear hp hq
  obtain ⟨v1, v1'⟩ := v1
  obtain ⟨v2, v2'⟩ := v2
  go_enter Try.func65, Try.ntmps65
  go_wp2_with fail
  refine H1.out.mono ?_
  rintro e w1 ⟨rfl, r1, g1⟩
  have HR1 := hide r1
  have HG1 := hide g1
  clear r1 g1
  go_wp2_with fail
  refine (H2'.out w1 HR1.out).out.mono ?_
  rintro e w2 ⟨rfl, r2, g2⟩
  have HR2 := hide r2
  have HG2 := hide (grown_trans HG1.out g2)
  clear r2 g2
  go_wp2
  go_ret
  refine ⟨ret_int ?_, ?_, HG2.out⟩
  · rw [HT.out]; exact or_join _ _ v1 v1' v2 v2'
  · rw [HT.out]; exact HR2.out

theorem Rdr.setBad {w : World} {R B : Nat} {s : List Int × Bool} (h : Rdr w R B s) (hB : B ≤ R) : Rdr (w.setCell ⟨R, 1, none⟩ (.bool true)) R B (s.1, true) := by
  obtain ⟨v, hb, hr⟩ := h
  exact ⟨v, hb.set 1 _, hr.set hB _⟩

set_option maxRecDepth 100000 in
set_option maxHeartbeats 400000 in
theorem length_any (R B : Nat) (s : List Int × Bool) (m : Int) (w : World) (h : Rdr w R B s) (hB : B ≤ R) (hb : AllB s.1) (hlen : s.1.length ≤ 140737488355328) :
    Calls Try.prog 50 #[.pointer (some ⟨R, 0, none⟩), .int .i64 m] w fun e w' => e = .returned (.int .i64 (lenOf m s).1) ∧ Rdr w' R B (lenOf m s).2 ∧ w.grownBy w' (some R) := by
  have H1 := hide (one_any R B s w h hB hb hlen)
  have HT : Hid (lenOf m s = if m < (one s).1 then (0, ((one s).2.1, true)) else one s) := rfl
  generalize hp : one s = p at *
  clear hp h hb
  by_cases hm : m < p.1
  · go_enter Try.func50, Try.ntmps50
    go_wp2_with fail
    refine H1.out.mono ?_
    rintro e w1 ⟨rfl, r1, g1⟩
    have HR1 := hide r1
    have HG1 := hide g1
    obtain ⟨v, hblk, _⟩ := r1
    have f1 := hblk.free 1
    have c1 : w1.cell? ⟨R, 1, none⟩ = some (.bool p.2.2) := hblk.cell 1
    clear g1 hblk
    go_wp2
    go_ret
    refine ⟨ret_int ?_, ?_, grown_trans HG1.out (grown_set _)⟩
    · rw [HT.out, if_pos hm]
    · rw [HT.out, if_pos hm]; exact HR1.out.setBad hB
  · go_enter Try.func50, Try.ntmps50
    go_wp2_with fail
    refine H1.out.mono ?_
    rintro e w1 ⟨rfl, r1, g1⟩
    have HR1 := hide r1
    have HG1 := hide g1
    clear g1 r1
    go_wp2
    go_ret
    refine ⟨ret_int ?_, ?_, HG1.out⟩
    · rw [HT.out, if_neg (by omega)]
    · rw [HT.out, if_neg (by omega)]; exact HR1.out

end Go.Proofs.Ythloffgebebijaa
