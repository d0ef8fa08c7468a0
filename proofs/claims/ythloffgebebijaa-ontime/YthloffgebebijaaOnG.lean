/- OnG: what stands at each place of tillerkeep.OnTime, and what its calls make of it. -/
import Derived.Test.YthloffgebebijaaOnP
import Derived.Test.YthloffgebebijaaSoonA
import Derived.Test.YthloffgebebijaaWhoB
namespace Go.Proofs.Ythloffgebebijaa
open Go.RowKit Go.MuLone

/-- What stands in OnTime's first loop, q messages gone through. -/
structure OtS (V w : World) (H X : Nat) (c : Cfg) (tv : Value) (q : Nat) : Prop where
  hou : ∃ h, CmP V w (fun _ => False) H X c tv h ∧ HsT c h ∧ WhP c h.x h.done ∧ h.sent.length ≤ q
theorem OtS.bel {V w : World} {H X : Nat} {c : Cfg} {tv : Value} {q : Nat} (p : OtS V w H X c tv q) : Below V.heap.size V w := by
  obtain ⟨h, p1, r⟩ := p
  exact p1.bel
theorem OtS.comes {V w : World} {H X n scap sb so : Nat} {c : Cfg} {q : Nat} (hn : c.tasks.length = n) (p : OtS V w H X c (.slice (some ⟨sb, so, none⟩) n scap) q) (hq : q < 60) (hsb : sb < V.heap.size) (ht : ∀ i t, c.tasks[i]? = some t → TaskAt V V.heap.size sb (so + i * 3) t) (hok : cfgOk c = true) {o : Come5} (hf : o.fits) :
    Calls Try.prog 18 #[.pointer (some ⟨H, 0, none⟩), .agg #[.int .i64 o.task, .int .i64 o.gap, .int .i64 o.line, .int .i64 o.cost, .bool o.split], .bool true] w fun e w' => e = .returned (.bool true) ∧ OtS V w' H X c (.slice (some ⟨sb, so, none⟩) n scap) (q + 1) := by
  obtain ⟨h, p1, p2, p4, p5⟩ := p
  have hk := kOf_in hok o
  have hso : SoonOk V H X c (.slice (some ⟨sb, so, none⟩) n scap) (kOf c o) := by
    obtain ⟨k, hkk⟩ : ∃ k : Nat, kOf c o = k := ⟨(kOf c o).toNat, by omega⟩
    rw [hkk]
    exact soonest_any V H X n scap sb so k c hn hsb ht hok (by omega)
  refine (comes_any V H X n scap sb so c true o h _ w hn p1 hsb ht p2.hin hok (by omega) (by omega) hf (fun _ => hso)).mono ?_
  rintro e w' ⟨rfl, p'⟩
  have hw := comes_wh (tame := true) (o := o) p2.hin p4
  have hs : (Go.Proofs.Ythloffgebebijaa.comes true c o h).sent.length ≤ q + 1 := by
    have hwi := waits_in (tame := true) (k := kOf c o) 400 (a := h.last + pk o.gap 60) p2.hin (by have := pk_lo o.gap 60 (by decide); omega) (by have := pk_hi o.gap 60 (by decide); have := p2.hin.l1; omega)
    unfold Go.Proofs.Ythloffgebebijaa.comes
    simp only
    split
    · rw [hwi.2.2.2.1]; omega
    · have : ∀ g a, (sends true c o g a).sent = g.sent ++ [(kOf c o, a)] := by
        intro g a
        simp only [sends]
        split <;> rfl
      rw [this, List.length_append, hwi.2.2.2.1]
      simp; omega
  exact ⟨rfl, ⟨_, p', comes_tm p2, hw, hs⟩⟩
theorem OtS.opened {V w : World} {S : Nat → Prop} {H X : Nat} {c : Cfg} {tv : Value} (p : HouP w S V.heap.size H X (exNew c) c tv 0 (.slice none 0 0) (.slice none 0 0) []) (hs : ∀ k, S k → V.heap.size ≤ k) (hH : V.heap.size ≤ H) (hb : Below V.heap.size V w) (hok : cfgOk c = true) : OtS V w H X c tv 0 :=
  ⟨⟨_, CmP.opened p hs hH hb, HsT.start hok, exNew_wh c, by simp⟩⟩

/-- What stands when all has run to its end. -/
structure OtE (V w : World) (H X : Nat) (c : Cfg) (tv : Value) (h : Hs) : Prop where
  cm : CmP V w (fun _ => False) H X c tv h
  fin : HsEnd c h
  hin : HsIn c (4 * (h.sent.length : Int)) h
  ein : ∀ e ∈ h.done, EvIn c e
  dl : h.done.length ≤ 120000
  sl : h.sent.length ≤ 60
theorem OtS.run {V w : World} {H X : Nat} {c : Cfg} {tv : Value} {q : Nat} (p : OtS V w H X c tv q) (hq : q ≤ 60) :
    Calls Try.prog 16 #[.pointer (some ⟨H, 0, none⟩), .int .i64 3000] w fun e w' => e = .returned (.tuple #[]) ∧ ∃ h, OtE V w' H X c tv h := by
  obtain ⟨h, p1, p2, p4, p5⟩ := p
  refine (p1.run (u := 3000) p2.hin (by omega)).mono ?_
  rintro e w' ⟨rfl, p', -⟩
  have hw : WhP c (h.run 3000).x (h.run 3000).done := exRun_wh 3000 3000 p4 p2.hin.ex
  have hi := p2.hin.run 3000
  have hl := hi.dl
  have hk := hi.ex.ck1
  exact ⟨rfl, h.run 3000, ⟨p', p2.end, hi, hw.ev, by omega, by simp only [Hs.run]; omega⟩⟩
theorem OtE.counts {V w : World} {H X : Nat} {c : Cfg} {tv : Value} {h : Hs} (p : OtE V w H X c tv h) :
    Calls Try.prog 17 #[.pointer (some ⟨X, 0, none⟩)] w fun r w' => r = .returned (countsV h.x) ∧ OtE V w' H X c tv h :=
  (p.cm.counts p.hin.ex).mono fun _ _ ⟨e, q, _⟩ => ⟨e, q, p.fin, p.hin, p.ein, p.dl, p.sl⟩
theorem OtE.later {V w w' : World} {H X : Nat} {c : Cfg} {tv : Value} {h : Hs} (p : OtE V w H X c tv h) (hb : Below w.heap.size w w') : OtE V w' H X c tv h := ⟨p.cm.later hb, p.fin, p.hin, p.ein, p.dl, p.sl⟩
/-- What is read of the house at the end. -/
theorem OtE.rows {V w : World} {H X : Nat} {c : Cfg} {tv : Value} {h : Hs} (p : OtE V w H X c tv h) : ∃ sv dv, H < w.heap.size ∧ w.cell? ⟨H, 6, none⟩ = some (.pointer (some ⟨X, 0, none⟩)) ∧ w.cell? ⟨H, 8, none⟩ = some sv ∧ w.cell? ⟨H, 9, none⟩ = some dv ∧ SentP w V.heap.size sv h.sent ∧ EvP w V.heap.size dv h.done := by
  obtain ⟨⟨S, sv, dv, m1, m2, m3, m4, m5⟩, mz, mh, mb⟩ := p.cm
  exact ⟨sv, dv, m1.blk.lt, m1.blk.cell 6, m1.blk.cell 8, m1.blk.cell 9, m2, m1.ev⟩

/-- The marks: which of those that were sent have been met; how many of each message. -/
def metOf (sent : List (Int × Int)) (ws : List Bool) : List (Int × Int) := ((sent.zip ws).filter fun p => p.2).map (·.1)
/-- One that is not met yet is there, as long as not all of its like are met. -/
theorem met_free : ∀ (sent : List (Int × Int)) (ws : List Bool) (a : Int × Int), ws.length = sent.length → (metOf sent ws).count a < sent.count a → ∃ k : Nat, sent[k]? = some a ∧ ws[k]? = some false
  | [], ws, a, _, h => by simp at h
  | s :: sent, [], a, hl, _ => by simp at hl
  | s :: sent, b :: ws, a, hl, h => by
    have hl' : ws.length = sent.length := by simpa using hl
    have e : metOf (s :: sent) (b :: ws) = (if b then [s] else []) ++ metOf sent ws := by cases b <;> simp [metOf]
    by_cases hb : b = false ∧ s = a
    · exact ⟨0, by simp [hb.2], by simp [hb.1]⟩
    · have hlt : (metOf sent ws).count a < sent.count a := by
        rw [e, List.count_append, List.count_cons] at h
        cases b with
        | false =>
          have hs : ¬ s = a := fun hs => hb ⟨rfl, hs⟩
          have hs' : (s == a) = false := by simpa using hs
          rw [hs'] at h
          simp at h
          exact h
        | true =>
          by_cases hs : s = a
          · subst hs
            simp at h
            omega
          · have hs' : (s == a) = false := by simpa using hs
            rw [hs'] at h
            simp at h
            omega
      obtain ⟨k, h1, h2⟩ := met_free sent ws a hl' hlt
      exact ⟨k + 1, by simpa using h1, by simpa using h2⟩
/-- One more is met. -/
theorem met_set : ∀ (sent : List (Int × Int)) (ws : List Bool) (k : Nat) (a v : Int × Int), sent[k]? = some a → ws[k]? = some false → (metOf sent (ws.set k true)).count v = (metOf sent ws).count v + [a].count v
  | [], _, _, _, _, h, _ => by simp at h
  | s :: sent, [], _, _, _, _, h => by simp at h
  | s :: sent, b :: ws, 0, a, v, h1, h2 => by
    simp at h1 h2
    subst h1
    subst h2
    simp only [List.set_cons_zero, metOf, List.zip_cons_cons]
    simp [List.count_cons]
  | s :: sent, b :: ws, k + 1, a, v, h1, h2 => by
    have ih := met_set sent ws k a v (by simpa using h1) (by simpa using h2)
    have e : ∀ ws, metOf (s :: sent) (b :: ws) = (if b then [s] else []) ++ metOf sent ws := fun ws => by cases b <;> simp [metOf]
    rw [List.set_cons_succ, e, e, List.count_append, List.count_append, ih]
    omega
theorem met_none (sent : List (Int × Int)) (n : Nat) : metOf sent (List.replicate n false) = [] := by
  unfold metOf
  rw [List.map_eq_nil_iff, List.filter_eq_nil_iff]
  intro p hp
  have := (List.of_mem_zip hp).2
  rw [List.eq_of_mem_replicate this]
  simp

end Go.Proofs.Ythloffgebebijaa
