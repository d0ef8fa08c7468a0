/- LineB: a line's bytes as a row of the executive's own; the walks of package line's unfinished, isMessage, message, Held, fedBy. -/
import Derived.Test.YthloffgebebijaaPlainA
import Derived.Test.YthloffgebebijaaJobsA
namespace Go.Proofs.Ythloffgebebijaa
open Go.RowKit

def fedCells (f : Fd) : List Value := [.int .u8 f.b, .int .i64 f.tick]
def frow (l : List Fd) : List Value := (l.map fedCells).flatten
theorem frow_two (l : List Fd) : ∀ c ∈ l.map fedCells, c.length = 2 := by
  intro c hc
  obtain ⟨j, _, rfl⟩ := List.mem_map.1 hc
  rfl
theorem frow_length (l : List Fd) : (frow l).length = l.length * 2 := by rw [frow, flatten_len (frow_two l), List.length_map]
theorem frow_get {l : List Fd} {i : Nat} {f : Fd} (h : l[i]? = some f) (k : Nat) (hk : k < 2) : (frow l)[i * 2 + k]? = (fedCells f)[k]? := by
  rw [frow, flatten_get (frow_two l) i k hk, List.getElem?_map, h]
  rfl
theorem frow_append (a b : List Fd) : frow (a ++ b) = frow a ++ frow b := by simp [frow]
theorem frow_drop (l : List Fd) (m : Nat) : (frow l).drop (m * 2) = frow (l.drop m) := by
  induction l generalizing m with
  | nil => simp [frow]
  | cons j l ih =>
    cases m with
    | zero => simp [frow]
    | succ m =>
      have e : frow (j :: l) = fedCells j ++ frow l := rfl
      rw [List.drop_succ_cons, e, List.drop_append, List.drop_eq_nil_of_le (by simp [fedCells]; omega), List.nil_append]
      rw [show (m + 1) * 2 - (fedCells j).length = m * 2 from by simp [fedCells]; omega, ih]

/-- The bytes of a line, in a row of the executive's own. -/
def FedP (w : World) (base : Nat) (v : Value) (l : List Fd) : Prop := w.ownsRow base 132 2 v l.length (frow l)
theorem FedP.same {w w' : World} {base : Nat} {v : Value} {l : List Fd} (h : FedP w base v l) (hs' : ∀ k, v.ownBlock = some k → w'.heap[k]? = w.heap[k]?) : FedP w' base v l := ownsRow_same h hs'
theorem FedP.later {w w' : World} {base : Nat} {v : Value} {l : List Fd} (h : FedP w base v l) (hb : Below w.heap.size w w') : FedP w' base v l := ownsRow_same h fun k hk => hb.block k (ownsRow_lt h hk).2
theorem FedP.fd {w : World} {base g cap n : Nat} {l : List Fd} (h : FedP w base (.slice (some ⟨g, 0, none⟩) n cap) l) {i : Nat} {f : Fd} (hi : l[i]? = some f) : FdAt w g (i * 2) f := by
  have hc : ∀ k u, (frow l)[k]? = some u → w.cell? ⟨g, k, none⟩ = some u := fun k u hu => by
    have := World.ownsRow.cells (g := g) h (by rfl) k u hu
    rw [Addr.add] at this
    split at this
    · rename_i h0; subst h0; exact this
    · simpa using this
  exact ⟨hc _ _ ((frow_get hi 0 (by omega)).trans rfl), hc _ _ ((frow_get hi 1 (by omega)).trans rfl)⟩
/-- The same bytes, read through a slice from a place on. -/
theorem FedP.view {w : World} {base g cap n : Nat} {l : List Fd} (h : FedP w base (.slice (some ⟨g, 0, none⟩) n cap) l) (q m c : Nat) : FedsR w w.heap.size (.slice (some ⟨g, q * 2, none⟩) ((l.take m).drop q).length c) ((l.take m).drop q) := by
  refine ⟨_, _, rfl, .inr ⟨g, q * 2, rfl, (ownsRow_lt h (k := g) rfl).2, fun i f hi => ?_⟩⟩
  have hi2 : l[q + i]? = some f := by
    rw [List.getElem?_drop, List.getElem?_take] at hi
    split at hi
    · exact hi
    · cases hi
  have := h.fd hi2
  rw [show (q + i) * 2 = q * 2 + i * 2 from by omega] at this
  exact this

theorem unfin_any (B : Nat) (lv : Value) (fs : List Fd) (w : World) (hl : FedsR w B lv fs) (hne : fs ≠ []) :
    Calls Try.prog 81 #[lv] w fun e w' => e = .returned (.bool (unfin fs)) ∧ w' = w := by
  obtain ⟨a, c, rfl, hf⟩ := hl
  rcases hf with h0 | ⟨b, o, rfl, hb, hc⟩
  · exact absurd h0 hne
  cases fs with
  | nil => exact absurd rfl hne
  | cons f r =>
    obtain ⟨c0, _⟩ := hc 0 f rfl
    simp only [Nat.zero_mul, Nat.add_zero] at c0
    have hn : (f :: r).length = r.length + 1 := rfl
    have HN : Hid (r.length + 1 = (f :: r).length) := rfl
    have HU : Hid (unfin (f :: r) = (decide (f.b = 126) && decide (r.length < 3))) := rfl
    rw [hn]
    generalize r.length = n at *
    have hpos : (0 : Int) < ((n + 1 : Nat) : Int) := by omega
    clear hc
    by_cases h1 : f.b = 126
    · have he : (f.b == 126) = true := by simp [h1]
      go_enter Try.func81, Try.ntmps81
      go_wp2
      go_ret
      refine ⟨?_, rfl⟩
      rw [HU.out]
      simp [h1]
      try omega
    · have he : (f.b == 126) = false := by simp [h1]
      go_enter Try.func81, Try.ntmps81
      go_wp2
      go_ret
      refine ⟨?_, rfl⟩
      rw [HU.out]
      simp [h1]

theorem held_any (X o : Nat) (a : Option Addr) (n c : Nat) (w : World) (hc : w.cell? ⟨X, o, none⟩ = some (.slice a n c)) :
    Calls Try.prog 43 #[.pointer (some ⟨X, o, none⟩)] w fun e w' => e = .returned (.int .i64 n) ∧ w' = w := by
  go_enter Try.func43, Try.ntmps43
  go_wp2
  go_ret
  exact ⟨rfl, rfl⟩

end Go.Proofs.Ythloffgebebijaa
