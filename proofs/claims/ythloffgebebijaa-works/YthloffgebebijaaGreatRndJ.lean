/- RndJ: the walk of the executive's New. -/
import Derived.Test.YthloffgebebijaaGreatRndI
namespace Go.Proofs.YthloffgebebijaaGreat
open Go.RowKit Go.MuLone

theorem ownsRow_lower {w : World} {b b' n size : Nat} {e : TypeId} {v : Value} {xs : List Value} (h : w.ownsRow b e size v n xs) (hb : b' ≤ b) : w.ownsRow b' e size v n xs := by
  obtain ⟨h1, h2⟩ := h
  refine ⟨h1, h2.imp id ?_⟩
  rintro ⟨g, cap, cur, rfl, hg, r⟩
  exact ⟨g, cap, cur, rfl, by omega, r⟩

set_option maxRecDepth 100000 in
set_option maxHeartbeats 1600000 in
theorem new_no (B : Nat) (v : Value) (c : Cfg) (w : World) (hv : Cf w B v c) (hB : B ≤ w.heap.size) (hok : cfgOk c = false) :
    Calls Tryz.prog 36 #[v] w fun e w' => e = .returned (.tuple #[.pointer none, .int .i64 1]) ∧ Below w.heap.size w w' := by
  have HV := hide hv
  obtain ⟨s, rfl, hs⟩ := hv
  obtain ⟨sa, scap, rfl⟩ := hs.slice
  clear hs
  have hb0 : ∀ o, Below w.heap.size w (w.alloc o) := fun o => (Below.refl _ _).alloc (Nat.le_refl _) _
  go_enter Tryz.func36, Tryz.ntmps36
  go_wp2_with fail
  refine (valid_any _ B c _ (HV.out.later (hb0 _) hB) (by simp; omega)).mono ?_
  rintro e w1 ⟨rfl, q1⟩
  have HQ := hide ((hb0 _).trans (q1.mono (by simp)))
  clear q1 HV
  rw [hok]
  go_wp2
  go_ret2
  exact ⟨rfl, HQ.out⟩

set_option maxRecDepth 100000 in
set_option maxHeartbeats 1600000 in
theorem new_yes (B : Nat) (v : Value) (c : Cfg) (w : World) (hv : Cf w B v c) (hB : B ≤ w.heap.size) (hok : cfgOk c = true) :
    Calls Tryz.prog 36 #[v] w fun e w' => ∃ X, e = .returned (.tuple #[.pointer (some ⟨X, 0, none⟩), .int .i64 0]) ∧ Xec w' (fun k => w.heap.size ≤ k) w.heap.size X (exNew c) ∧ Below w.heap.size w w' := by
  have HV := hide hv
  obtain ⟨s, rfl, hs⟩ := hv
  obtain ⟨sa, scap, rfl⟩ := hs.slice
  clear hs
  have hb0 : ∀ o, Below w.heap.size w (w.alloc o) := fun o => (Below.refl _ _).alloc (Nat.le_refl _) _
  go_enter Tryz.func36, Tryz.ntmps36
  go_wp2_with fail
  refine (valid_any _ B c _ (HV.out.later (hb0 _) hB) (by simp; omega)).mono ?_
  rintro e w1 ⟨rfl, q1⟩
  have hz := q1.size
  simp at hz
  have HQ := hide ((hb0 _).trans (q1.mono (by simp)))
  have HV1 := hide (HV.out.later HQ.out hB)
  have hK : Blk w1 w.heap.size #[.int .i64 c.lines, .int .i64 c.room, .int .i64 c.poll, .int .i64 c.idle, .int .i64 c.sw, .slice sa c.tasks.length scap] 40 := (Blk.new w #[.int .i64 c.lines, .int .i64 c.room, .int .i64 c.poll, .int .i64 c.idle, .int .i64 c.sw, .slice sa c.tasks.length scap] 40).later q1 (by simp)
  have k0 : w1.cell? ⟨w.heap.size, 0, none⟩ = some (.int .i64 c.lines) := hK.cell 0
  have k1 : w1.cell? ⟨w.heap.size, 1, none⟩ = some (.int .i64 c.room) := hK.cell 1
  have k2 : w1.cell? ⟨w.heap.size, 2, none⟩ = some (.int .i64 c.poll) := hK.cell 2
  have k3 : w1.cell? ⟨w.heap.size, 3, none⟩ = some (.int .i64 c.idle) := hK.cell 3
  have k4 : w1.cell? ⟨w.heap.size, 4, none⟩ = some (.int .i64 c.sw) := hK.cell 4
  have k5 : w1.cell? ⟨w.heap.size, 5, none⟩ = some (.slice sa c.tasks.length scap) := hK.cell 5
  clear q1 HV hK
  rw [hok]
  go_wp2_with fail
  refine (start_any B _ c w1 HV1.out (by omega) hok).mono ?_
  rintro e w2 ⟨dv, L, rfl, hd, hL, hb, q2⟩
  obtain ⟨da, dc, hdv⟩ := ownsRow_slice hd
  subst hdv
  have hz2 := q2.size
  have HD := hide hd
  have HL := hide hb
  have HQ2 := hide (HQ.out.trans (q2.mono (by omega)))
  have HCI := hide hok
  clear hd hb q2 k0 k1 k2 k3 k4 k5 hok
  go_wp2
  go_ret2
  obtain ⟨⟨c1, c2⟩, -⟩ := cfgNum HCI.out
  refine ⟨w2.heap.size, rfl, ⟨.slice da c.tasks.length dc, .slice none 0 0, L, List.replicate c.lines.toNat (.slice none 0 0), [], ⟨⟨⟨?_, rfl, ?_, by simp [Value.ownBlock], ?_⟩, ?_⟩, List.Perm.refl _, ⟨?_, ?_, ?_, ?_⟩, ?_, ?_, ?_, ?_, ?_⟩⟩, HQ2.out.alloc (by omega) _⟩
  · have := Blk.new w2 (xcs 0 (.slice da c.tasks.length dc) (.slice (some ⟨L, 0, none⟩) c.lines.toNat c.lines.toNat) (.slice none 0 0) c 0 0 ⟨0, 0, 0, 0, 0, 0⟩) 138
    simp only [exNew, List.length_replicate]
    exact this
  · exact World.ownsRow_nil _ _ _ _
  · intro k a b h0 hk; simp at hk
  · have := ownsRow_lower (World.ownsRow.alloc HD.out (.cells (xcs 0 (.slice da c.tasks.length dc) (.slice (some ⟨L, 0, none⟩) c.lines.toNat c.lines.toNat) (.slice none 0 0) c 0 0 ⟨0, 0, 0, 0, 0, 0⟩) 138)) (b' := w.heap.size) (by omega)
    exact this
  · exact HL.out.alloc _
  · simp [exNew]
  · intro i v l hv hl
    have h1 := List.eq_of_mem_replicate (List.mem_of_getElem? hv)
    have h2 := List.eq_of_mem_replicate (List.mem_of_getElem? hl)
    subst h1; subst h2
    exact World.ownsRow_nil _ _ _ _
  · intro i j v u k hv hu hk
    have h1 := List.eq_of_mem_replicate (List.mem_of_getElem? hv)
    subst h1
    simp [Value.ownBlock] at hk
  · show w.heap.size ≤ w2.heap.size; omega
  · show w.heap.size ≤ L; omega
  · intro k hk
    have := (ownsRow_lt HD.out hk).1
    show w.heap.size ≤ k
    omega
  · intro k hk; simp [Value.ownBlock] at hk
  · intro k v hv hk
    have h1 := List.eq_of_mem_replicate hv
    subst h1
    simp [Value.ownBlock] at hk

end Go.Proofs.YthloffgebebijaaGreat
