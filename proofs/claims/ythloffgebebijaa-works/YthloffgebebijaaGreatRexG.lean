/- RexG: the walk of the reference's Run. -/
import Derived.Test.YthloffgebebijaaGreatRexF
namespace Go.Proofs.YthloffgebebijaaGreat
open Go.RowKit

/-- What stands while the rounds go on. -/
structure Ru2 (w wx : World) (S T : Nat → Prop) (base Y : Nat) (x : Exs) (out : List Ev) (ov : Value) (S' : Nat → Prop) : Prop where
  ev : EvP wx w.heap.size ov out
  rc : Rec wx S' T base Y x
  sub : ∀ q, S' q → (S q ∨ w.heap.size ≤ q) ∧ q < wx.heap.size
  sep : ∀ q, ov.ownBlock = some q → ¬ S' q
  tl : ∀ q, T q → q < w.heap.size
  fr : Fr S w wx
theorem Rec.same {w w' : World} {S T : Nat → Prop} {base Y : Nat} {x : Exs} (h : Rec w S T base Y x) (hk : ∀ k, S k ∨ T k → w'.heap[k]? = w.heap[k]?) (hz : w.heap.size ≤ w'.heap.size) : Rec w' S T base Y x := by
  obtain ⟨L, tv, jv, lvs, h⟩ := h
  exact ⟨L, tv, jv, lvs, h.same hk hz⟩
theorem Rec.mono {w : World} {S S' T : Nat → Prop} {base Y : Nat} {x : Exs} (h : Rec w S T base Y x) (hs : ∀ k, k < w.heap.size → S k → S' k) (ht : ∀ k, T k → ¬ S' k) : Rec w S' T base Y x := by
  obtain ⟨L, tv, jv, lvs, h⟩ := h
  exact ⟨L, tv, jv, lvs, h.mono hs ht⟩
theorem Rec.tl {w : World} {S T : Nat → Prop} {base Y : Nat} {x : Exs} (h : Rec w S T base Y x) (k : Nat) (e : T k) : k < w.heap.size ∧ ¬ S k := by
  obtain ⟨L, tv, jv, lvs, h⟩ := h
  exact h.tl k e
theorem Rec.clock {w : World} {S T : Nat → Prop} {base Y : Nat} {x : Exs} (h : Rec w S T base Y x) : w.cell? ⟨Y, 8, none⟩ = some (.int .i64 x.clock) ∧ Y < w.heap.size := by
  obtain ⟨L, tv, jv, lvs, h⟩ := h
  exact ⟨h.blk.cell 8, h.blk.lt⟩
theorem Ru2.more {w wx w5 w6 : World} {S T S' S'' : Nat → Prop} {base Y : Nat} {x y : Exs} {ou ou2 : List Ev} {ov v6 : Value} (p : Ru2 w wx S T base Y x ou ov S') (hr : Rec w5 S'' T base Y y) (hs : ∀ q, S'' q → (S' q ∨ wx.heap.size ≤ q) ∧ q < w5.heap.size) (hf : Fr S' wx w5) (hg : w5.grownBy w6 ov.ownBlock) (h6 : EvP w6 w.heap.size v6 (ou ++ ou2)) (ho : v6.ownBlock = ov.ownBlock ∨ v6.ownBlock = some w5.heap.size) : Ru2 w w6 S T base Y y (ou ++ ou2) v6 S'' := by
  have hz := p.fr.size
  have hz5 := hf.size
  have hz6 := hg.size
  have hol : ∀ q, ov.ownBlock = some q → w.heap.size ≤ q ∧ q < wx.heap.size := fun q e => ownsRow_lt p.ev e
  have hno : ∀ q, ov.ownBlock = some q → ¬ S'' q := fun q e e' => by
    have h1 := (hs q e').1
    have h2 := hol q e
    rcases h1 with h1 | h1
    · exact p.sep q e h1
    · omega
  refine ⟨h6, hr.same (fun k e => hg.block k ?_ fun e' => ?_) hg.size, fun q e => ⟨?_, ?_⟩, fun q e e' => ?_, p.tl, ?_⟩
  · exact e.elim (fun e => (hs k e).2) fun e => (hr.tl k e).1
  · rcases e with e | e
    · exact hno k e'.symm e
    · have := p.tl k e; have := hol k e'.symm; omega
  · rcases (hs q e).1 with h1 | h1
    · exact (p.sub q h1).1
    · exact .inr (by omega)
  · have := (hs q e).2; omega
  · rcases ho with ho | ho
    · rw [ho] at e; exact hno q e e'
    · rw [ho] at e
      simp only [Option.some.injEq] at e
      have := (hs q e').2
      omega
  · refine (p.fr.trans hf fun q hq e => ?_).trans (Fr.of_grown (X := fun q => ov.ownBlock = some q) hg fun q e _ => e) fun q hq e => ?_
    · rcases (p.sub q e).1 with h1 | h1
      · exact h1
      · omega
    · have := hol q e; omega

set_option maxRecDepth 100000 in
set_option maxHeartbeats 3200000 in
theorem rRun_any (S T : Nat → Prop) (base Y : Nat) (N u : Int) (x : Exs) (w : World)
    (h : Rec w S T base Y x) (hS : ∀ q, S q → q < w.heap.size) (hbase : base ≤ w.heap.size) (hi : ExIn x N) :
    Calls Tryz.prog 42 #[.pointer (some ⟨Y, 0, none⟩), .int .i64 u] w fun e w' => ∃ ev, e = .returned ev ∧ EvP w' w.heap.size ev (exRun u 3000 x).2 ∧ (∃ S', Rec w' S' T base Y (exRun u 3000 x).1 ∧ (∀ k, S' k → (S k ∨ w.heap.size ≤ k) ∧ k < w'.heap.size) ∧ (∀ k, ev.ownBlock = some k → ¬ S' k)) ∧ Fr S w w' := by
  have HP0 : Hid (Ru2 w w S T base Y x [] (.slice none 0 0) S) := ⟨World.ownsRow_nil _ _ _ _, h, fun q e => ⟨.inl e, hS q e⟩, fun q e => by simp [Value.ownBlock] at e, fun q e => (h.tl q e).1, Fr.refl _ _⟩
  have HI := hide hi
  generalize hR : exRun u 3000 x = R at *
  have HR := hide hR
  clear h hS hi hR
  go_enter Tryz.func42, Tryz.ntmps42
  go_wp2_with fail
  go_loopg [5] 3000 (fun g ov wr => ∃ (f : Nat) (y : Exs) (out : List Ev) (S' : Nat → Prop), g = f ∧ f ≤ 3000 ∧ 3000 - y.clock ≤ (f : Int) ∧ out.length ≤ 34 * (3000 - f) ∧ R = ((exRun u f y).1, out ++ (exRun u f y).2) ∧ ExIn y N ∧ Ru2 w wr S T base Y y out ov S')
  case atStart => exact ⟨3000, x, [], S, rfl, Nat.le_refl _, by have := HI.out.ck0; omega, by simp, by rw [← HR.out]; simp, HI.out, HP0.out⟩
  case round =>
    obtain ⟨f, y, out, S', hg, hf3, hfu, hol, hRR, hiy, hp⟩ := hrel
    have HG := hide hg
    have HRR := hide hRR
    have HIY := hide hiy
    have HP := hide hp
    obtain ⟨hck, hYr⟩ := hp.rc.clock
    have hzr := hp.fr.size
    have ck0 := hiy.ck0
    have ck1 := hiy.ck1
    obtain ⟨oa, oc, hov⟩ := ownsRow_slice hp.ev
    subst hov
    clear hg hRR hiy hp
    by_cases hcu : y.clock < u
    · by_cases hc3 : y.clock < 3000
      · have hd1 : decide (y.clock < u) = true := decide_eq_true hcu
        have hd2 : decide (y.clock < 3000) = true := decide_eq_true hc3
        obtain ⟨f', rfl⟩ : ∃ f', f = f' + 1 := ⟨f - 1, by omega⟩
        have HIN := hide (exRound_in HIY.out hc3)
        have HSTEP := hide (exRun_step (u := u) (f := f') (x := y) ⟨hcu, hc3⟩)
        have HRD := hide (rRound_any S' T base Y N y wr HP.out.rc (fun q e => (HP.out.sub q e).2) (by omega) HIY.out hc3)
        have hlen := HIN.out.2.2
        have HCK := hide HIN.out.2.1
        go_wp2_with fail
        refine HRD.out.mono ?_
        rintro e w5 ⟨ev, rfl, e5, ⟨S5, r5, s5, n5⟩, f5⟩
        obtain ⟨ea, ec, hev⟩ := ownsRow_slice e5
        subst hev
        have HO5 : Hid (EvP w5 w.heap.size (.slice oa out.length oc) out) := HP.out.ev.same fun q e => f5.block q (ownsRow_lt HP.out.ev e).2 (HP.out.sep q e)
        have HE5 := hide e5
        have HR5 := hide r5
        have HS5 := hide s5
        have HF5 := hide f5
        have hz5 := f5.size
        have HONE := hide (erow_one (exRound y).2)
        clear e5 r5 s5 n5 f5 HRD
        go_wp2_with (at_builtin; go_must (refine wpList_appWin rfl _ _ 62 149 (.agg #[.int .i64 0, .int .i64 0, .int .i64 0, .int .i64 0, .int .i64 0]) 5 40 rfl Tryz.underlying62 info_ev rfl (by decide) (by decide) w.heap.size wr.heap.size (.slice oa out.length oc) (.slice ea (exRound y).2.length ec) out.length (exRound y).2.length (erow out) (erow (exRound y).2) rfl HO5.out rfl (ownsRow_win HE5.out) HONE.out (by omega) (by omega) ?_))
        intro v6 w6 e6 g6 o6
        have he6 : EvP w6 w.heap.size v6 (out ++ (exRound y).2) := by
          unfold EvP
          rw [erow_append, List.length_append]
          exact e6
        have HM6 := hide (Ru2.more HP.out HR5.out HS5.out HF5.out g6 he6 o6)
        obtain ⟨l6, c6', hv6⟩ := ownsRow_slice e6
        subst hv6
        clear e6 g6 o6 he6
        go_wp2_with fail
        go_roundg f'
        case measure => have := HG.out; omega
        case rel => exact ⟨f', (exRound y).1, out ++ (exRound y).2, S5, rfl, by omega, by have := HCK.out; omega, by rw [List.length_append]; omega, by rw [HRR.out, HSTEP.out, List.append_assoc], HIN.out.1, HM6.out⟩
      · have hd1 : decide (y.clock < u) = true := decide_eq_true hcu
        have hd2 : decide (y.clock < 3000) = false := decide_eq_false hc3
        have HSTOP := hide (exRun_stop (u := u) (f := f) (x := y) (fun e => hc3 e.2))
        go_wp2_with fail
        go_ret
        rw [HRR.out, HSTOP.out, List.append_nil]
        exact ⟨_, rfl, HP.out.ev, ⟨S', HP.out.rc, HP.out.sub, HP.out.sep⟩, HP.out.fr⟩
    · have hd1 : decide (y.clock < u) = false := decide_eq_false hcu
      have HSTOP := hide (exRun_stop (u := u) (f := f) (x := y) (fun e => hcu e.1))
      go_wp2_with fail
      go_ret
      rw [HRR.out, HSTOP.out, List.append_nil]
      exact ⟨_, rfl, HP.out.ev, ⟨S', HP.out.rc, HP.out.sub, HP.out.sep⟩, HP.out.fr⟩

end Go.Proofs.YthloffgebebijaaGreat
