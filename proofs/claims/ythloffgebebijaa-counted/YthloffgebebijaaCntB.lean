/- CntB: strings turned into bytes, lists of strings and of ints in memory. -/
import Derived.Test.YthloffgebebijaaHouC
import Derived.Test.YthloffgebebijaaPlainA
import Derived.Test.YthloffgebebijaaSetB
import Derived.Laws.IdiomStrings
namespace Go.Proofs.Ythloffgebebijaa
open Go.RowKit Go.MuLone

def strB (s : ByteArray) : List Int := s.data.toList.map fun x => (x.toNat : Int)
theorem strB_length (s : ByteArray) : (strB s).length = s.size := by
  rw [strB, List.length_map, Array.length_toList]
  rfl
theorem strB_in (s : ByteArray) : ∀ b ∈ strB s, 0 ≤ b ∧ b < 256 := by
  intro x hx
  simp only [strB, List.mem_map] at hx
  obtain ⟨y, _, rfl⟩ := hx
  have := y.toNat_lt
  omega
/-- A string turned into bytes. -/
theorem conv_strB (s : ByteArray) (w : World) : ∃ cap W, (convert 9 23 (.string s)).run Try.prog w = .ok (.slice (some ⟨w.heap.size, 0, none⟩) s.size cap) W ∧ Below w.heap.size w W ∧ ∀ S : Nat → Prop, ¬ S w.heap.size → BytV W S (.slice (some ⟨w.heap.size, 0, none⟩) s.size cap) (strB s) := by
  refine ⟨_, _, run_bytes_of_string (P := Try.prog) w 9 23 5 s Try.underlying9 Try.underlying23 Try.underlying5, ?_, ?_⟩
  · exact (show Below w.heap.size w w.drew from (Below.refl _ _).drew).alloc (Nat.le_refl _) _
  · intro S hS
    refine ⟨_, _, by rw [strB_length], by rw [strB_length]; exact grownCap_ge w s.size 0 _, .inr ⟨w.heap.size, 0, rfl, by simp, hS, fun i x hi => ?_⟩⟩
    rw [Nat.zero_add, cell_of_row _ w.heap.size i _ _ _ (heap_alloc_new w.drew _)]
    have hlt := lt_of_get hi
    rw [strB_length] at hlt
    unfold bytesRow
    rw [Array.getElem?_append_left (by rw [Array.size_map]; exact hlt)]
    simp only [strB, List.getElem?_map, Array.getElem?_toList] at hi
    rw [Array.getElem?_map]
    cases hd : s.data[i]? with
    | none => rw [hd] at hi; simp at hi
    | some y => rw [hd] at hi; simp at hi; subst hi; rfl

/-- How many bytes the first k strings have. -/
def sumS (ss : List ByteArray) (k : Nat) : Nat := ((ss.take k).map ByteArray.size).sum
theorem sumS_zero (ss : List ByteArray) : sumS ss 0 = 0 := by simp [sumS]
theorem sumS_succ {ss : List ByteArray} {k : Nat} {s : ByteArray} (h : ss[k]? = some s) : sumS ss (k + 1) = sumS ss k + s.size := by
  unfold sumS
  rw [take_snoc h]
  simp only [List.map_append, List.map_cons, List.map_nil, List.sum_append, List.sum_cons, List.sum_nil]
  omega
theorem sumS_le (ss : List ByteArray) (k : Nat) : sumS ss k ≤ (ss.map ByteArray.size).sum := by
  unfold sumS
  have h : (ss.map ByteArray.size).sum = ((ss.take k).map ByteArray.size).sum + ((ss.drop k).map ByteArray.size).sum := by
    rw [← List.sum_append, ← List.map_append, List.take_append_drop]
  omega

/-- The value reads as the strings. -/
def StrsR (w : World) (B : Nat) (v : Value) (ss : List ByteArray) : Prop :=
  ∃ a cap, v = .slice a ss.length cap ∧ (ss = [] ∨ ∃ b o, a = some ⟨b, o, none⟩ ∧ b < B ∧ ∀ i s, ss[i]? = some s → w.cell? ⟨b, o + i, none⟩ = some (.string s))
/-- The value reads as the ints. -/
def IntsK (w : World) (B : Nat) (v : Value) (ts : List Int) : Prop :=
  ∃ a cap, v = .slice a ts.length cap ∧ (ts = [] ∨ ∃ b o, a = some ⟨b, o, none⟩ ∧ b < B ∧ ∀ i t, ts[i]? = some t → w.cell? ⟨b, o + i, none⟩ = some (.int .i64 t))

end Go.Proofs.Ythloffgebebijaa
