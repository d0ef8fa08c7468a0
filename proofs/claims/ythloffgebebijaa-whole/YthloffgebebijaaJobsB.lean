/- JobsB: the walks of container/heap's up and down over package jobs' list. -/
import Derived.Test.YthloffgebebijaaJobsA
import Derived.KernelRfl
namespace Go.Proofs.Ythloffgebebijaa
open Go.RowKit

theorem run_wrapNil {P : Program} (ts : Array TypeId) (t : TypeId) (a : Addr) (x y : String) (w : World) : (Builtin.ssaWrapNilChk_ ts t #[.pointer (some a), strVal x, strVal y]).run P w = .ok (.pointer (some a)) w := rfl
/-- A method with a value for its receiver, called through an interface that holds a pointer. -/
theorem meth_value {P : Program} {t e : TypeId} {f : FuncId} {name : String} {K : Nat} (hx : ((P.info? t).bind fun i => i.methods.find? fun x => x.name == name).map (fun m => (m.path, m.func)) = some (#[], some (f, false)))
    (hu : P.underlying t = some (.pointer e)) {d' : TypeId} (he : P.underlying e = some (.slice d')) (w : World) (a : Addr) (v : Value) (hc : w.cell? a = some v) : (method (K + 1) t (.pointer (some a)) name).run P w = .ok (f, v) w := by
  cases hi : P.info? t with
  | none => simp [hi] at hx
  | some i =>
    rw [hi, Option.bind_some] at hx
    cases hm : i.methods.find? fun x => x.name == name with
    | none => simp [hm] at hx
    | some m =>
      simp only [hm, Option.map_some, Option.some.injEq, Prod.mk.injEq] at hx
      rw [method]
      simp [typeInfo, hi, hm, hx.1, hx.2, follow, receiverAt, run_underlying hu, run_underlying he, Place.get, run_wrapNil, loadVar, isAgg, hc, asAddr]

theorem meth_less (w : World) (a : Addr) (v : Value) (hc : w.cell? a = some v) : (method 283 159 (.pointer (some a)) "Less").run Try.prog w = .ok (107, v) w :=
  meth_value (by kernel_rfl) Try.underlying159 Try.underlying92 w a v hc
theorem meth_swap (w : World) (a : Addr) (v : Value) (hc : w.cell? a = some v) : (method 283 159 (.pointer (some a)) "Swap").run Try.prog w = .ok (108, v) w :=
  meth_value (by kernel_rfl) Try.underlying159 Try.underlying92 w a v hc
theorem meth_len (w : World) (a : Addr) (v : Value) (hc : w.cell? a = some v) : (method 283 159 (.pointer (some a)) "Len").run Try.prog w = .ok (106, v) w :=
  meth_value (by kernel_rfl) Try.underlying159 Try.underlying92 w a v hc
theorem meth_push (w : World) (a : Addr) : (method 283 159 (.pointer (some a)) "Push").run Try.prog w = .ok (110, .pointer (some a)) w := by kernel_rfl
theorem meth_pop (w : World) (a : Addr) : (method 283 159 (.pointer (some a)) "Pop").run Try.prog w = .ok (109, .pointer (some a)) w := by kernel_rfl

set_option maxRecDepth 100000 in
set_option maxHeartbeats 1600000 in
theorem up_any (base X o g cap n j : Nat) (hs : List Jb) (w : World) (hc : w.cell? ⟨X, o, none⟩ = some (.slice (some ⟨g, 0, none⟩) n cap)) (h : JobsP w base (.slice (some ⟨g, 0, none⟩) n cap) hs) (hn : hs.length = n) (hX : X ≠ g) (hXs : X < w.heap.size) (hlen : n ≤ 1000000) (hj : j < n) (hu : UpI hs n j) :
    Calls Try.prog 89 #[.iface 159 (.pointer (some ⟨X, o, none⟩)), .int .i64 j] w fun e w' => e = .returned (.tuple #[]) ∧ ∃ hs', JobsP w' base (.slice (some ⟨g, 0, none⟩) n cap) hs' ∧ hs'.Perm hs ∧ Heapy hs' n ∧ Fr (fun k => k = g) w w' := by
  have HU := hide hu
  have HJ := hide h
  clear hu h
  go_enter Try.func89, Try.ntmps89
  go_wp2_with fail
  go_loopw [1] (fun jv wr => ∃ (q : Nat) (hs' : List Jb), jv = .int .i64 q ∧ q < n ∧ JobsP wr base (.slice (some ⟨g, 0, none⟩) n cap) hs' ∧ hs'.Perm hs ∧ UpI hs' n q ∧ Fr (fun k => k = g) w wr) (fun jv _ => (intOf jv).toNat)
  case atStart => exact ⟨j, hs, rfl, hj, HJ.out, List.Perm.refl _, HU.out, Fr.refl _ _⟩
  case round =>
    obtain ⟨q, hs', rfl, hq, hJ, hp, hU, hfr⟩ := hrel
    have HJ' := hide hJ
    have HP := hide hp
    have HU' := hide hU
    have HFR := hide hfr
    have hl' : hs'.length = n := hp.length_eq.trans hn
    clear hJ hp hU hfr HJ HU hn
    by_cases h0 : q = 0
    · subst h0
      go_wp2
      go_end0
      exact ⟨rfl, hs', HJ'.out, HP.out, upI_top HU'.out, HFR.out⟩
    · obtain ⟨p, hp2⟩ : ∃ p : Nat, p = (q - 1) / 2 := ⟨_, rfl⟩
      have hdiv : ((q : Int) - 1) / 2 = (p : Int) := by omega
      have hpq : (((q : Int) - 1) / 2 == (q : Int)) = false := by simp; omega
      have HDIV := hide hdiv
      clear hdiv
      obtain ⟨a, ha⟩ := get_of_lt (l := hs') (k := p) (by omega)
      obtain ⟨b, hb⟩ := get_of_lt (l := hs') (k := q) (by omega)
      have hcw : wr.cell? ⟨X, o, none⟩ = some (.slice (some ⟨g, 0, none⟩) n cap) := by
        exact (HFR.out.cell (p := ⟨X, o, none⟩) hXs hX).trans hc
      have hXr : X < wr.heap.size := Nat.lt_of_lt_of_le hXs HFR.out.size
      have hm1 := meth_less wr _ _ hcw
      have HL : Hid (Calls Try.prog 107 #[.slice (some ⟨g, 0, none⟩) n cap, .int .i64 q, .int .i64 (((q : Int) - 1) / 2)] wr fun e w' => e = .returned (.bool (jbBefore b a)) ∧ Below wr.heap.size wr w') := by
        rw [HDIV.out]; exact pLess_any base g cap n q p hs' b a wr HJ'.out hl' hb ha
      have HS : Hid (∀ w2, Below wr.heap.size wr w2 → Calls Try.prog 108 #[.slice (some ⟨g, 0, none⟩) n cap, .int .i64 (((q : Int) - 1) / 2), .int .i64 q] w2 fun e w' => e = .returned (.tuple #[]) ∧ JobsP w' base (.slice (some ⟨g, 0, none⟩) n cap) (swp hs' p q) ∧ Fr (fun k => k = g) w2 w') := by
        intro w2 hb2
        rw [HDIV.out]; exact pSwap_any base g cap n p q hs' a b w2 (HJ'.out.later hb2) hl' ha hb
      have HA := hide ha
      have HB := hide hb
      clear ha hb
      cases hbf : jbBefore b a with
      | false =>
        go_wp2_with (go_at_call 107; refine HL.out.mono ?_; rintro e w2 ⟨he, q2⟩; rw [hbf] at he; subst he; have HQ2 := hide q2; clear q2)
        go_end0
        exact ⟨rfl, hs', HJ'.out.later HQ2.out, HP.out, upI_stop HU'.out (hp2 ▸ HA.out) HB.out hbf, HFR.out.then_below HQ2.out⟩
      | true =>
        go_wp2_with (first
          | (go_at_call 107; refine HL.out.mono ?_; rintro e w2 ⟨he, q2⟩; rw [hbf] at he; subst he; have HQ2 := hide q2; have hm2 := meth_swap w2 ⟨X, o, none⟩ _ ((q2.cell (p := ⟨X, o, none⟩) hXr).trans hcw); clear q2)
          | (go_at_call 108; refine (HS.out w2 HQ2.out).mono ?_; rintro e w3 ⟨rfl, j3, q3⟩; have HJ3 := hide j3; have HQ3 := hide q3; clear j3 q3))
        go_roundw
        case rel =>
          refine ⟨p, swp hs' p q, by rw [HDIV.out], by omega, HJ3.out, (swp_perm _ _ _).trans HP.out, ?_, ((HFR.out.then_below HQ2.out).trans HQ3.out fun _ _ x => x)⟩
          subst hp2
          exact upI_step HU'.out (by omega) hq HA.out HB.out hbf
        case measure => simp [intOf]; omega

end Go.Proofs.Ythloffgebebijaa
