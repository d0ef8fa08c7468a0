/- DecA: what comes out of Decode, as the book takes it; a string turned into bytes. -/
import Derived.Test.YthloffgebebijaaGreatEncW
import Derived.Test.YthloffgebebijaaGreatBkT
import Derived.Test.YthloffgebebijaaGreatStrB
import Derived.Test.YthloffgebebijaaGreatDecode
import Derived.Test.YthloffgebebijaaGreatSameL
import Derived.Laws.IdiomStrings
namespace Go.Proofs.YthloffgebebijaaGreat
open Go.RowKit

theorem flat3_len (es : List (Int × Int × Value)) : (flat3 es).length = es.length * 3 := by
  induction es with
  | nil => rfl
  | cons a r ih => simp [flat3] at ih ⊢; omega

theorem OwnLims.owns {w : World} {base : Nat} {v : Value} {ls : List (Int × Int)} (h : OwnLims w base v ls) (hn : ls.length ≤ maxLen) : w.ownsRow base 52 2 v ls.length (flat2 ls) := by
  obtain ⟨g, rfl, hg, hb⟩ := h
  refine ⟨by rw [flat2_length]; omega, .inr ⟨g, ls.length, (flat2 ls).toArray, rfl, hg, hb, Nat.le_refl _, hn, by simp [flat2_length]; omega, ?_⟩⟩
  simp only []
  rw [List.take_of_length_le (by rw [flat2_length]; omega)]

/-- What the book wants of tasks that came out. -/
theorem OwnTasks.bk {w : World} {base : Nat} {v : Value} {ts : List Tk} (h : OwnTasks w base v ts) (hn : ts.length ≤ 6) (hl : ∀ t ∈ ts, t.lims.length ≤ 3) :
    ∃ es, w.ownsRow base 55 3 v es.length (flat3 es) ∧ es.length = ts.length ∧ (∀ e ∈ es, ∃ n xs, w.ownsRow base 52 2 e.2.2 n xs ∧ n ≤ 3) ∧ Apart es := by
  obtain ⟨g, es, rfl, hg, hb, hle, hr, ha⟩ := h
  refine ⟨es, ⟨flat3_len es, .inr ⟨g, ts.length, (flat3 es).toArray, by rw [hle], hg, hb, by omega, by unfold maxLen; omega, by simp [flat3_len, hle], ?_⟩⟩, hle, fun e he => ?_, ha⟩
  · simp only []
    rw [List.take_of_length_le (by rw [flat3_len]; omega)]
  · obtain ⟨i, hi⟩ := List.getElem?_of_mem he
    obtain ⟨t, ht⟩ := get_of_lt (l := ts) (k := i) (by have := lt_of_get hi; omega)
    have h3 := hl t (List.mem_of_getElem? ht)
    exact ⟨_, _, (hr i e t hi ht).2.2.owns (by unfold maxLen; omega), h3⟩

theorem TBk.range {w : World} {base : Nat} {v : Value} {es : List (Int × Int × Value)} (h : w.ownsRow base 55 3 v es.length (flat3 es)) (he : ∀ e ∈ es, ∃ n xs, w.ownsRow base 52 2 e.2.2 n xs ∧ n ≤ 3) {k : Nat} (hk : TBk v es k) : base ≤ k ∧ k < w.heap.size := by
  rcases hk with hk | ⟨e, hm, hk⟩
  · exact World.ownsRow.lt h k hk
  · obtain ⟨n, xs, ho, _⟩ := he e hm
    exact World.ownsRow.lt ho k hk

/-- A string turned into bytes. -/
theorem conv_str (s : ByteArray) (w : World) : ∃ cap W, (convert 9 57 (.string s)).run Tryz.prog w = .ok (.slice (some ⟨w.heap.size, 0, none⟩) s.size cap) W ∧ Below w.heap.size w W ∧ Rd8 W W.heap.size (.slice (some ⟨w.heap.size, 0, none⟩) s.size cap) (sbytes s) := by
  refine ⟨_, _, run_bytes_of_string (P := Tryz.prog) w 9 57 5 s Tryz.underlying9 Tryz.underlying57 Tryz.underlying5, ?_, ?_⟩
  · exact (show Below w.heap.size w w.drew from (Below.refl _ _).drew).alloc (Nat.le_refl _) _
  · refine ⟨_, _, by rw [sbytes_length], by rw [sbytes_length]; exact grownCap_ge w s.size 0 _, .inr ⟨w.heap.size, 0, rfl, by simp, fun i x hi => ?_⟩⟩
    rw [Nat.zero_add, cell_of_row _ w.heap.size i _ _ _ (heap_alloc_new w.drew _)]
    have hlt := lt_of_get hi
    rw [sbytes_length] at hlt
    unfold bytesRow
    rw [Array.getElem?_append_left (by rw [Array.size_map]; exact hlt)]
    simp only [sbytes, List.getElem?_map, Array.getElem?_toList] at hi
    rw [Array.getElem?_map]
    cases hd : s.data[i]? with
    | none => rw [hd] at hi; simp at hi
    | some y => rw [hd] at hi; simp at hi; subst hi; rfl

/-- What is decoded, as two results. -/
def dval : Option Cfg → Cfg × Int
  | none => (⟨0, 0, 0, 0, 0, []⟩, 2)
  | some c => (c, 0)

/-- Tasks that came out: none at all, or a list of the call's own. -/
def Out (w : World) (base : Nat) (v : Value) (ts : List Tk) : Prop := (v = .slice none 0 0 ∧ ts = []) ∨ OwnTasks w base v ts

theorem Out.kept {w w' : World} {base : Nat} {v : Value} {ts : List Tk} (h : Out w base v ts) (hf : ∀ k, base ≤ k → k < w.heap.size → w'.heap[k]? = w.heap[k]?) : Out w' base v ts := h.imp id fun h => h.kept hf
theorem Out.below {w w' : World} {base : Nat} {v : Value} {ts : List Tk} (h : Out w base v ts) (hb : Below w.heap.size w w') : Out w' base v ts := h.kept fun k _ hk => hb.block k hk
theorem Out.slice {w : World} {base : Nat} {v : Value} {ts : List Tk} (h : Out w base v ts) : ∃ a c, v = .slice a ts.length c := by
  rcases h with ⟨rfl, rfl⟩ | h
  · exact ⟨none, 0, rfl⟩
  · obtain ⟨g, hg⟩ := h.slice
    exact ⟨_, _, hg⟩
theorem Out.tasks {w : World} {base : Nat} {v : Value} {ts : List Tk} (h : Out w base v ts) : Tasks w w.heap.size v ts := by
  rcases h with ⟨rfl, rfl⟩ | h
  · exact ⟨none, 0, rfl, .inl rfl⟩
  · exact h.tasks
theorem Out.bk {w : World} {base : Nat} {v : Value} {ts : List Tk} (h : Out w base v ts) (hn : ts.length ≤ 6) (hl : ∀ t ∈ ts, t.lims.length ≤ 3) :
    ∃ es, w.ownsRow base 55 3 v es.length (flat3 es) ∧ es.length = ts.length ∧ (∀ e ∈ es, ∃ n xs, w.ownsRow base 52 2 e.2.2 n xs ∧ n ≤ 3) ∧ Apart es := by
  rcases h with ⟨rfl, rfl⟩ | h
  · exact ⟨[], World.ownsRow_nil _ _ _ _, rfl, fun e he => by simp at he, List.Pairwise.nil⟩
  · exact h.bk hn hl

theorem decode_two (B : Nat) (v : Value) (bs : List Int) (w : World) (h : Rd8 w B v bs) (hB : B ≤ w.heap.size) (hb : AllB bs) (hlen : bs.length ≤ 140737488355328) :
    Calls Tryz.prog 28 #[v] w fun e w' => ∃ tv, e = .returned (.tuple #[.agg #[.int .i64 (dval (dec bs)).1.lines, .int .i64 (dval (dec bs)).1.room, .int .i64 (dval (dec bs)).1.poll, .int .i64 (dval (dec bs)).1.idle, .int .i64 (dval (dec bs)).1.sw, tv], .int .i64 (dval (dec bs)).2]) ∧ Out w' w.heap.size tv (dval (dec bs)).1.tasks ∧ Below w.heap.size w w' := by
  refine (decode_any B v bs w h hB hb hlen).mono ?_
  intro e w' hp
  cases hd : dec bs with
  | none =>
    rw [hd] at hp
    exact ⟨.slice none 0 0, hp.1, .inl ⟨rfl, rfl⟩, hp.2⟩
  | some c =>
    rw [hd] at hp
    obtain ⟨v, he, ho, hb⟩ := hp
    exact ⟨v, he, .inr ho, hb⟩

theorem dval_small {bs : List Int} (hb : AllB bs) : (dval (dec bs)).1.tasks.length ≤ 6 ∧ ∀ t ∈ (dval (dec bs)).1.tasks, t.lims.length ≤ 3 := by
  cases hd : dec bs with
  | none => exact ⟨by simp [dval], fun t ht => by simp [dval] at ht⟩
  | some c =>
    have hc := cfgOk_parts (dec_inv hb hd).1
    obtain ⟨-, -, -, -, -, h6, h7⟩ := hc
    refine ⟨h6.2, fun t ht => ?_⟩
    have := List.all_eq_true.1 h7 t ht
    simp only [taskOk, limsOk, Bool.and_eq_true, decide_eq_true_eq] at this
    exact this.2.2.1.2

/-- A piece of code that comes, on every way, to one frame and to some world. -/
theorem wp_some1 {P : Program} {c : Code} {Q : Exit → Act → World → Prop} {a : Act} {w : World} (F : World → Prop) (A : World → Act) (W : World → World)
    (h : c.wp P (OnlyNormal fun a' w' => ∃ z, F z ∧ a' = A z ∧ w' = W z) a w) (h2 : ∀ z, F z → Q .normal (A z) (W z)) : c.wp P Q a w :=
  wp_mono h (OnlyNormal.imp (by rintro a' w' ⟨z, hf, rfl, rfl⟩; exact h2 z hf))

end Go.Proofs.YthloffgebebijaaGreat
