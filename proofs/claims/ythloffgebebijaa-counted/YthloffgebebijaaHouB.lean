/- HouB: the walk of tillerkeep's message; what a message that is fed at once comes to. -/
import Derived.Test.YthloffgebebijaaHouA
namespace Go.Proofs.Ythloffgebebijaa
open Go.RowKit Go.MuLone

/-- The four bytes of a message. -/
def msgB (task cost : Int) : List Int := [126, task, cost, ((((task.toNat ^^^ cost.toNat) ^^^ 85 : Nat)) : Int)]
theorem msgB_in {task cost : Int} (ht : 0 ≤ task ∧ task < 256) (hc : 0 ≤ cost ∧ cost < 256) : ∀ b ∈ msgB task cost, 0 ≤ b ∧ b < 256 := by
  intro b hb
  simp only [msgB, List.mem_cons, List.not_mem_nil, or_false] at hb
  have hx : (task.toNat ^^^ cost.toNat) ^^^ 85 < 2 ^ 8 := Nat.xor_lt_two_pow (Nat.xor_lt_two_pow (by omega) (by omega)) (by omega)
  rcases hb with rfl | rfl | rfl | rfl
  · decide
  · exact ht
  · exact hc
  · omega

set_option maxRecDepth 100000 in
set_option maxHeartbeats 1600000 in
theorem kmessage_any (task cost : Int) (w : World) (ht : 0 ≤ task ∧ task < 256) (hc : 0 ≤ cost ∧ cost < 256) :
    Calls Try.prog 24 #[.int .i64 task, .int .i64 cost] w fun e w' => ∃ g, e = .returned (.slice (some ⟨g, 0, none⟩) 4 4) ∧ w.heap.size ≤ g ∧ Blk w' g ((msgB task cost).map (Value.int .u8)).toArray 5 ∧ Below w.heap.size w w' := by
  obtain ⟨t0, t1⟩ := ht
  obtain ⟨c0, c1⟩ := hc
  have HX := hide (xor3 ⟨t0, t1⟩ ⟨c0, c1⟩)
  have wt : IntKind.u8.wrap task = task := by simp [IntKind.wrap, IntKind.bits, IntKind.signed]; omega
  have wc : IntKind.u8.wrap cost = cost := by simp [IntKind.wrap, IntKind.bits, IntKind.signed]; omega
  generalize hxv : ((((task.toNat ^^^ cost.toNat) ^^^ 85 : Nat)) : Int) = xv at *
  have hxx : bits .xor .u8 (bits .xor .u8 task cost) 85 = xv := HX.out
  go_enter Try.func24, Try.ntmps24
  go_wp2
  go_ret
  refine ⟨w.heap.size, rfl, Nat.le_refl _, ?_, (Below.refl _ _).alloc (Nat.le_refl _) _⟩
  have := Blk.new w #[.int .u8 126, .int .u8 task, .int .u8 cost, .int .u8 xv] 5
  simp only [msgB, hxv]
  exact this

theorem exLines_none (c : Cfg) (t : Int) (r : Rdg) : ∀ n, exLines c t (List.replicate n []) r = (List.replicate n [], r)
  | 0 => rfl
  | n + 1 => by
    rw [List.replicate_succ, exLines]
    have h : exLine c t [] r = ([], r) := rfl
    rw [h, exLines_none c t r n]
/-- A message of the last task, fed at once to a new executive, is begun and done in the first round. -/
theorem open_run {c : Cfg} {k : Nat} {du : Int} (hok : cfgOk c = true) (hk : k + 1 = c.tasks.length) (hdu : (c.tasks.map Tk.due).getD k 0 = du) :
    (exFeed (exNew c) 0 0 (msgB k 1)).2 = 0 ∧ (exRun 1 3000 (exFeed (exNew c) 0 0 (msgB k 1)).1).2 = [⟨1, c.poll, 0, k, du⟩, ⟨2, c.poll + c.sw + 1, 0, k, du⟩] := by
  obtain ⟨⟨c1, c2⟩, ⟨c3, c4⟩, ⟨c5, c6⟩, ⟨c7, c8⟩, ⟨c9, c10⟩, ⟨c11, c12⟩, c13⟩ := cfgNum hok
  obtain ⟨n, hn⟩ : ∃ n, c.lines.toNat = n + 1 := ⟨c.lines.toNat - 1, by omega⟩
  have hf : exFeed (exNew c) 0 0 (msgB k 1) = ({ exNew c with lines := [⟨126, 0⟩, ⟨k, 0⟩, ⟨1, 0⟩, ⟨((((k : Int).toNat ^^^ (1 : Int).toNat) ^^^ 85 : Nat)), 0⟩] :: List.replicate n [], fed := 0, ct := ⟨0, 0, 0, 0, 0, 0⟩ }, 0) := by
    unfold exFeed
    rw [if_pos (by simp only [exNew]; omega), if_neg (by simp [exNew])]
    simp only [exNew, hn, List.replicate_succ]
    simp [lineFeed, msgB, lineAdd]
    exact IntWalk.i64_in 0 ⟨by decide, by decide⟩
  rw [hf]
  refine ⟨rfl, ?_⟩
  have hfl : firstJ [(⟨0, (k : Int), 0 + du, 1⟩ : Jb)] = 0 := rfl
  have hmsg : exMsg c.tasks.length [⟨126, 0⟩, ⟨k, 0⟩, ⟨1, 0⟩, ⟨((((k : Int).toNat ^^^ (1 : Int).toNat) ^^^ 85 : Nat)), 0⟩] = some (some (some ((k : Int), 1, 0))) := by
    simp only [exMsg]
    rw [if_neg (by simp), if_neg (by simp), if_neg (by omega)]
  have hln : exLine c 0 [⟨126, 0⟩, ⟨k, 0⟩, ⟨1, 0⟩, ⟨((((k : Int).toNat ^^^ (1 : Int).toNat) ^^^ 85 : Nat)), 0⟩] ⟨[], ⟨0, 0, 0, 0, 0, 0⟩, []⟩ = ([], ⟨[⟨0, k, 0 + du, 1⟩], ⟨1, 0, 0, 0, 0, 0⟩, []⟩) := by
    have hfi : ([⟨126, 0⟩, ⟨k, 0⟩, ⟨1, 0⟩, ⟨((((k : Int).toNat ^^^ (1 : Int).toNat) ^^^ 85 : Nat)), 0⟩] : List Fd).filter (fun f => decide (f.tick ≤ 0)) = [⟨126, 0⟩, ⟨k, 0⟩, ⟨1, 0⟩, ⟨((((k : Int).toNat ^^^ (1 : Int).toNat) ^^^ 85 : Nat)), 0⟩] := by simp
    have hfo : ([⟨126, 0⟩, ⟨k, 0⟩, ⟨1, 0⟩, ⟨((((k : Int).toNat ^^^ (1 : Int).toNat) ^^^ 85 : Nat)), 0⟩] : List Fd).filter (fun f => !decide (f.tick ≤ 0)) = [] := by simp
    unfold exLine
    simp only
    rw [hfi, hfo]
    simp only [List.length_cons, List.length_nil]
    rw [exRead, hmsg]
    simp only
    rw [if_neg (by simp; omega), exRead]
    simp only [List.drop_succ_cons, List.drop_zero, exMsg, Int.toNat_natCast, hdu]
    simp
  have hrd : exLines c 0 ([⟨126, 0⟩, ⟨k, 0⟩, ⟨1, 0⟩, ⟨((((k : Int).toNat ^^^ (1 : Int).toNat) ^^^ 85 : Nat)), 0⟩] :: List.replicate n []) ⟨[], ⟨0, 0, 0, 0, 0, 0⟩, []⟩ = ([] :: List.replicate n [], ⟨[⟨0, k, 0 + du, 1⟩], ⟨1, 0, 0, 0, 0, 0⟩, []⟩) := by
    rw [exLines, hln, exLines_none]
  rw [exRun_step (f := 2999) (by simp [exNew])]
  have hr : exRound ({ exNew c with lines := [⟨126, 0⟩, ⟨k, 0⟩, ⟨1, 0⟩, ⟨((((k : Int).toNat ^^^ (1 : Int).toNat) ^^^ 85 : Nat)), 0⟩] :: List.replicate n [], fed := 0, ct := ⟨0, 0, 0, 0, 0, 0⟩ } : Exs) = ({ exNew c with lines := [] :: List.replicate n [], fed := 0, jobs := [], ct := ⟨1, 1, 0, 0, 0, 0⟩, clock := 0 + c.poll + c.sw + 1 }, [⟨1, 0 + c.poll, 0, k, 0 + du⟩, ⟨2, 0 + c.poll + c.sw + 1, 0, k, 0 + du⟩]) := by
    unfold exRound
    simp only [exNew]
    rw [hrd]
    rfl
  rw [hr, exRun_stop (by simp only; omega)]
  simp

end Go.Proofs.Ythloffgebebijaa
