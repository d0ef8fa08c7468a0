/- ComD: the walk of tillerkeep's comes. -/
import Derived.Test.YthloffgebebijaaComC
import Derived.Test.YthloffgebebijaaSetA
import Derived.Test.YthloffgebebijaaPick
import Derived.Deep.DeepCutAuto
import Derived.Deep.CutBlock
import Derived.Deep.LoopGhost
import Derived.Deep.RegionHeld
import Derived.Deep.DrawnRows
namespace Go.Proofs.Ythloffgebebijaa
open Go.RowKit Go.MuLone
attribute [local go_sem ↓] Go.wp_at_zero Go.wp_at_succ

set_option maxRecDepth 100000 in
set_option maxHeartbeats 20000000 in
theorem comes_any (V : World) (H X n scap sb so : Nat) (c : Cfg) (tame : Bool) (o : Come5) (h : Hs) (N : Int) (w : World) (hn : c.tasks.length = n)
    (p : CmP V w (fun _ => False) H X c (.slice (some ⟨sb, so, none⟩) n scap) h) (hsb : sb < V.heap.size) (ht : ∀ i t, c.tasks[i]? = some t → TaskAt V V.heap.size sb (so + i * 3) t)
    (hi : HsIn c N h) (hok : cfgOk c = true) (hN : N ≤ 600000000000000) (hsl : h.sent.length ≤ 1000000) (hf : o.fits) (HSO : tame = true → SoonOk V H X c (.slice (some ⟨sb, so, none⟩) n scap) (kOf c o)) :
    Calls Try.prog 18 #[.pointer (some ⟨H, 0, none⟩), .agg #[.int .i64 o.task, .int .i64 o.gap, .int .i64 o.line, .int .i64 o.cost, .bool o.split], .bool tame] w fun e w' => e = .returned (.bool true) ∧ CmP V w' (fun _ => False) H X c (.slice (some ⟨sb, so, none⟩) n scap) (comes tame c o h) := by
  obtain ⟨⟨c1, c2⟩, ⟨c3, c4⟩, ⟨c5, c6⟩, ⟨c7, c8⟩, ⟨c9, c10⟩, ⟨c11, c12⟩, c13⟩ := cfgNum hok
  obtain ⟨f1, f2, f3, f4⟩ := hf
  have hkin := kOf_in hok o
  have hlin := lineOf_in hok o
  have hpin := priceOf_in hok tame o
  have hcin := costOf_in hok hkin.1 hkin.2
  obtain ⟨kN, hkN⟩ : ∃ kN : Nat, kOf c o = kN := ⟨(kOf c o).toNat, by omega⟩
  obtain ⟨tk, htk⟩ := get_of_lt (l := c.tasks) (k := kN) (by omega)
  have hcost : costOf c (kOf c o) = tk.cost := by simp [costOf, hkN, htk]
  have HCS : Hid (∀ w', Below V.heap.size V w' → w'.cell? ⟨sb, so + kN * 3, none⟩ = some (.int .i64 tk.cost) ∧ sb < w'.heap.size) := fun w' hb => ⟨(hb.cell (p := ⟨sb, so + kN * 3, none⟩) hsb).trans (ht kN tk htk).1, by have := hb.size; omega⟩
  have hP1 : ∀ w' : World, Calls Try.prog 12 #[.int .i64 o.task, .int .i64 n] w' fun e w2 => e = .returned (.int .i64 kN) ∧ w2 = w' := fun w' => (keepPick_any o.task n w' f1 (by omega) (by omega)).mono fun e w2 ⟨a, b⟩ => ⟨by rw [a, ← hkN, kOf, hn], b.symm⟩
  have hP2 : ∀ w' : World, Calls Try.prog 12 #[.int .i64 o.line, .int .i64 c.lines] w' fun e w2 => e = .returned (.int .i64 (lineOf c o)) ∧ w2 = w' := fun w' => (keepPick_any o.line c.lines w' f3 (by omega) (by omega)).mono fun e w2 ⟨a, b⟩ => ⟨a, b.symm⟩
  have hP3 : ∀ w' : World, Calls Try.prog 12 #[.int .i64 o.cost, .int .i64 tk.cost] w' fun e w2 => e = .returned (.int .i64 (pk o.cost tk.cost)) ∧ w2 = w' := fun w' => (keepPick_any o.cost tk.cost w' f4 (by omega) (by omega)).mono fun e w2 ⟨a, b⟩ => ⟨a, b.symm⟩
  have hP4 : ∀ w' : World, Calls Try.prog 12 #[.int .i64 o.cost, .int .i64 255] w' fun e w2 => e = .returned (.int .i64 (pk o.cost 255)) ∧ w' = w2 := fun w' => keepPick_any o.cost 255 w' f4 (by decide) (by decide)
  have hP5 : ∀ w' : World, Calls Try.prog 12 #[.int .i64 o.gap, .int .i64 60] w' fun e w2 => e = .returned (.int .i64 (pk o.gap 60)) ∧ w2 = w' := fun w' => (keepPick_any o.gap 60 w' f2 (by decide) (by decide)).mono fun e w2 ⟨a, b⟩ => ⟨a, b.symm⟩
  have g0 := pk_lo o.gap 60 (by decide)
  have g1 := pk_hi o.gap 60 (by decide)
  have q0 := pk_lo o.cost 255 (by decide)
  have q1 := pk_hi o.cost 255 (by decide)
  have t0 := pk_lo o.cost tk.cost (by omega)
  have t1 := pk_hi o.cost tk.cost (by omega)
  have hpr : priceOf tame c o = 1 + (if tame then pk o.cost tk.cost else pk o.cost 255) := by unfold priceOf; rw [hcost]; cases tame <;> rfl
  have HP1 := hide hP1
  have HP2 := hide hP2
  have HP3 := hide hP3
  have HP4 := hide hP4
  have HP5 := hide hP5
  have hb0 : Below w.heap.size w (w.alloc (.cells #[.int .i64 o.task, .int .i64 o.gap, .int .i64 o.line, .int .i64 o.cost, .bool o.split] 58)) := (Below.refl _ _).alloc (Nat.le_refl _) _
  have HC0 : Hid (CoP V (w.alloc (.cells #[.int .i64 o.task, .int .i64 o.gap, .int .i64 o.line, .int .i64 o.cost, .bool o.split] 58)) w.heap.size H X c (.slice (some ⟨sb, so, none⟩) n scap) o h) := ⟨(p.beside hb0 (Nat.le_refl _) (by simp)).forget fun k e => .inr e, Blk.new w (oCells o) _⟩
  -- the plain side
  have hl0 := hi.l0
  have hl1 := hi.l1
  have HWI := hide (waits_in (tame := tame) (k := kOf c o) 400 (a := h.last + pk o.gap 60) hi (by omega) (by omega))
  have HCM : Hid (comes tame c o h = if 900 ≤ settle tame c (waits tame c (kOf c o) 400 h (h.last + pk o.gap 60)).1.sent (kOf c o) (waits tame c (kOf c o) 400 h (h.last + pk o.gap 60)).1.x.clock (waits tame c (kOf c o) 400 h (h.last + pk o.gap 60)).2 then (waits tame c (kOf c o) 400 h (h.last + pk o.gap 60)).1 else sends tame c o (waits tame c (kOf c o) 400 h (h.last + pk o.gap 60)).1 (settle tame c (waits tame c (kOf c o) 400 h (h.last + pk o.gap 60)).1.sent (kOf c o) (waits tame c (kOf c o) 400 h (h.last + pk o.gap 60)).1.x.clock (waits tame c (kOf c o) 400 h (h.last + pk o.gap 60)).2)) := rfl
  have HSN : Hid (∀ (h1 : Hs) (a : Int), HsIn c N h1 → (h1.x.clock ≤ a ∧ h1.last ≤ a ∧ a < 900) → (o.split = true → (exFeed h1.x (lineOf c o) (max h1.last h1.x.clock) ((msgC (kOf c o) (priceOf tame c o)).take 2)).2 = 0 ∧ (exFeed (exFeed h1.x (lineOf c o) (max h1.last h1.x.clock) ((msgC (kOf c o) (priceOf tame c o)).take 2)).1 (lineOf c o) a ((msgC (kOf c o) (priceOf tame c o)).drop 2)).2 = 0) ∧ (o.split = false → (exFeed h1.x (lineOf c o) a (msgC (kOf c o) (priceOf tame c o))).2 = 0)) := fun h1 a hh ha => (sends_in hh ha).2.2
  have HSE : Hid (∀ sent k ck a, a ≤ settle tame c sent k ck a ∧ ck ≤ settle tame c sent k ck a) := settle_ge tame c
  have HS1 : Hid (∀ (h1 : Hs) (a : Int), o.split = false → sends tame c o h1 a = ⟨(h1.feed (lineOf c o) a (msgC (kOf c o) (priceOf tame c o))).x, a, h1.sent ++ [(kOf c o, a)], h1.done⟩) := fun h1 a e => by simp only [sends, e, Bool.false_eq_true, if_false]; rfl
  have HS2 : Hid (∀ (h1 : Hs) (a : Int), o.split = true → sends tame c o h1 a = ⟨((h1.feed (lineOf c o) (max h1.last h1.x.clock) ((msgC (kOf c o) (priceOf tame c o)).take 2)).feed (lineOf c o) a ((msgC (kOf c o) (priceOf tame c o)).drop 2)).x, a, h1.sent ++ [(kOf c o, a)], h1.done⟩) := fun h1 a e => by simp only [sends, e, if_true]; rfl
  have HI := hide hi
  have HOK := hide hok
  have HKN := hide hkN
  have HTT := hide HSO
  have HPR := hide hpr
  have HMG := hide (fun w' => kmessage_any (kOf c o) (priceOf tame c o) w' ⟨by omega, by omega⟩ ⟨by omega, by omega⟩)
  generalize kOf c o = K at *
  subst hkN
  generalize lineOf c o = LN at *
  generalize priceOf tame c o = PR at *
  obtain ⟨lN0, lN1⟩ := hlin
  obtain ⟨p0, p1, p2⟩ := hpin
  have hkn : (kN : Int) < (n : Int) := by omega
  have hk0 : (0 : Int) ≤ (kN : Int) := by omega
  clear p hb0 hi hok hP1 hP2 hP3 hP4 hP5 HSO hpr c13 ht htk hkin
  go_enter Try.func18, Try.ntmps18
  go_wp2_with fail
  generalize w.alloc (.cells #[.int .i64 o.task, .int .i64 o.gap, .int .i64 o.line, .int .i64 o.cost, .bool o.split] 58) = W0 at *
  obtain ⟨⟨hH, e0, e5, e6, e7⟩, hbx, b0, b1, b2, b3, b4⟩ := HC0.out.cells
  go_quiet ((go_at_call 12; exact Calls.quiet_of_same (HP1.out _)))
  have HC1 := hide (HC0.out.quiet nq)
  clear HC0 hH e0 e5 e6 e7 hbx b0 b1 b2 b3 b4
  generalize W0.drewN nq = W1 at *
  go_wp2_with fail
  obtain ⟨⟨hH, e0, e5, e6, e7⟩, hbx, b0, b1, b2, b3, b4⟩ := HC1.out.cells
  go_quiet ((go_at_call 12; exact Calls.quiet_of_same (HP2.out _)))
  have HC2 := hide (HC1.out.quiet nq)
  clear HC1 hH e0 e5 e6 e7 hbx b0 b1 b2 b3 b4
  generalize W1.drewN nq = W2 at *
  go_wp2_with fail
  obtain ⟨⟨hH, e0, e5, e6, e7⟩, hbx, b0, b1, b2, b3, b4⟩ := HC2.out.cells
  obtain ⟨cc, hsbw⟩ := HCS.out _ HC2.out.cm.bel
  go_quiet ((go_at_call 12; exact Calls.quiet_of_same (HP3.out _)))
  have HC3 := hide (HC2.out.quiet nq)
  clear HC2 hH e0 e5 e6 e7 hbx b0 b1 b2 b3 b4 cc hsbw
  generalize W2.drewN nq = W3 at *
  go_upto_if 48 with (fail)
  obtain ⟨⟨hH, e0, e5, e6, e7⟩, hbx, b0, b1, b2, b3, b4⟩ := HC3.out.cells
  go_cut [9] (fun v wx => v = .int .i64 PR ∧ wx = W3)
  case first =>
    have hpr := HPR.out
    cases tame
    · go_wp2_with fail
      refine (HP4.out _).mono ?_
      rintro e w' ⟨rfl, rfl⟩
      go_wp2
      go_meet
      case rel => exact ⟨by rw [hpr]; rfl, rfl⟩
    · go_wp2_with fail
      go_meet
      case rel => exact ⟨by rw [hpr]; rfl, rfl⟩
  case rest =>
    obtain ⟨rfl, rfl⟩ := hcut
    go_wp2_with fail
    go_quiet ((go_at_call 12; exact Calls.quiet_of_same (HP5.out _)))
    have HC4 := hide (HC3.out.quiet nq)
    clear HC3 hH e0 e5 e6 e7 hbx b0 b1 b2 b3 b4 HP1 HP2 HP3 HP4 HP5 HPR
    generalize wc.drewN nq = W4 at *
    generalize hst : h.last + pk o.gap 60 = st at *
    have hst0 : h.last ≤ st := by omega
    have hst1 : st ≤ 1000 := by omega
    clear hst g0 g1 q0 q1 t0 t1
    go_upto_block 0 with (fail)
    go_cut [10] (fun av wx => ∃ (h1 : Hs) (a : Int), av = .int .i64 a ∧ waits tame c kN 400 h st = (h1, a) ∧ CoP V wx w.heap.size H X c (.slice (some ⟨sb, so, none⟩) n scap) o h1)
    case first =>
      go_wp2_with fail
      go_loopg [10, 11] 400 (fun g av iv wr => ∃ (i : Nat) (a : Int) (h1 : Hs), av = .int .i64 a ∧ iv = .int .i64 i ∧ g = 400 - i ∧ i ≤ 400 ∧ waits tame c kN (400 - i) h1 a = waits tame c kN 400 h st ∧ CoP V wr w.heap.size H X c (.slice (some ⟨sb, so, none⟩) n scap) o h1 ∧ HsIn c N h1 ∧ h1.last ≤ a ∧ a ≤ 5000 ∧ h1.sent = h.sent)
      case atStart => exact ⟨0, st, h, rfl, rfl, rfl, by omega, rfl, HC4.out, HI.out, hst0, by omega, rfl⟩
      case round =>
        obtain ⟨i, a, h1, rfl, rfl, hg, hi4, hwt, hp1, hin, hla, ha5, hse⟩ := hrel
        have HG := hide hg
        have HWT := hide hwt
        have HC5 := hide hp1
        have HIN := hide hin
        have HSX := hide hse
        have k0 := hin.ex.ck0
        have k1 := hin.ex.ck1
        have l0 := hin.l0
        have HHD := hide hin.ex
        clear hg hwt hp1 hin hse HC4
        by_cases hlt : i < 400
        · have hii : (i : Int) < 400 := by omega
          obtain ⟨f, hf⟩ : ∃ f, 400 - i = f + 1 := ⟨399 - i, by omega⟩
          have HF := hide hf
          have HCL := hide (HC5.out.clock HIN.out)
          clear hf
          go_wp2_with fail
          refine HCL.out.mono ?_
          rintro e w5 ⟨rfl, p5⟩
          have HC6 := hide p5
          clear p5 HC5 HCL
          go_upto_region 11 with (fail)
          have HST : Hid (a ≤ settle tame c h1.sent kN h1.x.clock a ∧ h1.x.clock ≤ settle tame c h1.sent kN h1.x.clock a ∧ settle tame c h1.sent kN h1.x.clock a ≤ 5000) := ⟨(settle_ge _ _ _ _ _ _).1, (settle_ge _ _ _ _ _ _).2, settle_le HOK.out HIN.out.st ha5 (by omega)⟩
          generalize hck : h1.x.clock = ck at *
          have HCK := hide hck
          clear hck
          obtain ⟨F, hF⟩ : ∃ F : World → Prop, F = (fun wx => CoP V wx w.heap.size H X c (.slice (some ⟨sb, so, none⟩) n scap) o h1) := ⟨_, rfl⟩
          have HFF := hide hF
          clear hF
          go_cut [10] (fun av wx => av = .int .i64 (max a ck) ∧ w5 = wx)
          case first =>
            by_cases hmx : a < ck
            · have hm : max a ck = ck := by omega
              go_wp2_with fail
              go_meet
              case rel => exact ⟨by rw [hm], rfl⟩
            · have hm : max a ck = a := by omega
              go_wp2_with fail
              go_meet
              case rel => exact ⟨by rw [hm], rfl⟩
          case rest =>
          obtain ⟨rfl, rfl⟩ := hcut
          have hm0 : 0 ≤ max a ck := by omega
          have hm1 : max a ck ≤ 5000 := by omega
          have HSD : Hid (settle tame c h1.sent kN ck a = if tame then soonI c h1.sent kN (max a ck) else max a ck) := rfl
          generalize max a ck = mx at *
          go_upto_if 70 with (fail)
          go_cut [10] (fun av wx => av = .int .i64 (settle tame c h1.sent kN ck a) ∧ F wx)
          case first =>
            cases tame
            · go_wp2_with fail
              go_meet
              case rel => exact ⟨by rw [HSD.out]; rfl, by rw [HFF.out]; exact HC6.out⟩
            · have HSN2 := hide (HC6.out.soon (t := mx) HIN.out (HTT.out rfl) (by rw [HSX.out]; exact hsl) hm0 hm1)
              go_wp2_with fail
              refine HSN2.out.mono ?_
              rintro e w6 ⟨rfl, p6⟩
              have HC7 := hide p6
              clear p6
              go_wp2_with fail
              go_meet
              case rel => exact ⟨by rw [HSD.out]; rfl, by rw [HFF.out]; exact HC7.out⟩
          case rest =>
            obtain ⟨rfl, hFc⟩ := hcut
            rw [HFF.out] at hFc
            have HC7 := hide hFc
            have HWS : Hid (waits tame c kN (f + 1) h1 a = if settle tame c h1.sent kN ck a ≤ ck + 80 ∧ held h1.x.lines ≤ 16 then (h1, settle tame c h1.sent kN ck a) else waits tame c kN f (h1.run (ck + 1)) (settle tame c h1.sent kN ck a)) := by
              rw [Hid, waits, HCK.out]
            obtain ⟨s0, s1, s2⟩ := HST.out
            generalize settle tame c h1.sent kN ck a = a2 at *
            clear hFc HC6 HFF
            have HCT := hide (HC7.out.counts HIN.out)
            obtain ⟨⟨hH, e0, e5, e6, e7⟩, hbx, b0, b1, b2, b3, b4⟩ := HC7.out.cells
            simp only [countsV] at HCT
            generalize held h1.x.lines = hd at *
            generalize h1.x.ct.jobs = jj at *
            generalize h1.x.ct.done = dd at *
            generalize h1.x.ct.lost = ll at *
            generalize h1.x.ct.unknown = uu at *
            generalize h1.x.ct.bad = bd at *
            generalize h1.x.ct.spilled = sp at *
            generalize h1.x.jobs.length = wt at *
            go_wp2_with fail
            refine HCT.out.mono ?_
            rintro e w8 ⟨rfl, p8⟩
            rw [HCK.out] at *
            have HC8 := hide p8
            clear p8 HCT hH e0 e5 e6 e7 hbx b0 b1 b2 b3 b4
            have HC9 := hide (HC8.out.later ((Below.refl _ w8).alloc (Nat.le_refl _) (.cells #[.int .i64 ck, .int .i64 jj, .int .i64 dd, .int .i64 wt, .int .i64 ll, .int .i64 uu, .int .i64 bd, .int .i64 sp, .int .i64 hd] 50)))
            by_cases hA : a2 ≤ ck + 80
            · by_cases hh : hd ≤ 16
              · go_wp2_with fail
                go_meet
                case rel => exact ⟨h1, a2, rfl, by rw [← HWT.out, HF.out, HWS.out, if_pos ⟨hA, hh⟩], HC9.out⟩
              · have HRN := hide (HC9.out.run (u := ck + 1) HIN.out (by omega))
                go_wp2_with fail
                refine HRN.out.mono ?_
                rintro e w9 ⟨rfl, p9⟩
                have HC10 := hide p9
                clear p9
                go_wp2_with fail
                go_roundg (400 - (i + 1))
                case measure => have := HG.out; omega
                case rel => exact ⟨i + 1, a2, h1.run (ck + 1), rfl, by go_num, rfl, by omega, by rw [← HWT.out, HF.out, HWS.out, if_neg (fun e => by omega)]; congr 1; have := HF.out; omega, HC10.out, HIN.out.run _, by simp only [Hs.run]; omega, s2, HSX.out⟩
            · have HRN := hide (HC9.out.run (u := ck + 1) HIN.out (by omega))
              go_wp2_with fail
              refine HRN.out.mono ?_
              rintro e w9 ⟨rfl, p9⟩
              have HC10 := hide p9
              clear p9
              go_wp2_with fail
              go_roundg (400 - (i + 1))
              case measure => have := HG.out; omega
              case rel => exact ⟨i + 1, a2, h1.run (ck + 1), rfl, by go_num, rfl, by omega, by rw [← HWT.out, HF.out, HWS.out, if_neg (fun e => by omega)]; congr 1; have := HF.out; omega, HC10.out, HIN.out.run _, by simp only [Hs.run]; omega, s2, HSX.out⟩
        · have hii : ¬ (i : Int) < 400 := by omega
          have hi0 : 400 - i = 0 := by omega
          go_wp2_with fail
          go_meet
          case rel => exact ⟨h1, a, rfl, by rw [← HWT.out, hi0]; rfl, HC5.out⟩
    case rest =>
      obtain ⟨h1, a, rfl, hw, hp1⟩ := hcut
      have HC5 := hide hp1
      rw [hw] at HWI HCM
      simp only at HWI HCM
      obtain ⟨hin, hla, ha5, hse, hls⟩ := HWI.out
      have HIN := hide hin
      have HSX := hide hse
      have HLS := hide hls
      have k0 := hin.ex.ck0
      have k1 := hin.ex.ck1
      have l0 := hin.l0
      have HCL := hide (HC5.out.clock hin)
      clear hp1 hw hin hse hls HWI HC4
      have HST : Hid (a ≤ settle tame c h1.sent kN h1.x.clock a ∧ h1.x.clock ≤ settle tame c h1.sent kN h1.x.clock a ∧ settle tame c h1.sent kN h1.x.clock a ≤ 5000) := ⟨(settle_ge _ _ _ _ _ _).1, (settle_ge _ _ _ _ _ _).2, settle_le HOK.out HIN.out.st ha5 (by omega)⟩
      generalize hck : h1.x.clock = ck at *
      have HCK := hide hck
      clear hck
      obtain ⟨F, hF⟩ : ∃ F : World → Prop, F = (fun wx => CoP V wx w.heap.size H X c (.slice (some ⟨sb, so, none⟩) n scap) o h1) := ⟨_, rfl⟩
      have HFF := hide hF
      clear hF
      go_upto_region 17 with (fail)
      go_cut [10] (fun av wx => av = .int .i64 (max a ck) ∧ F wx)
      case first =>
        go_wp2_with fail
        refine HCL.out.mono ?_
        rintro e w5 ⟨rfl, p5⟩
        have HC6 := hide p5
        clear p5 HC5 HCL
        by_cases hmx : a < ck
        · have hm : max a ck = ck := by omega
          go_wp2_with fail
          go_meet
          case rel => exact ⟨by rw [hm], by rw [HFF.out]; exact HC6.out⟩
        · have hm : max a ck = a := by omega
          go_wp2_with fail
          go_meet
          case rel => exact ⟨by rw [hm], by rw [HFF.out]; exact HC6.out⟩
      case rest =>
      obtain ⟨rfl, hFc⟩ := hcut
      rw [HFF.out] at hFc
      have HC6 := hide hFc
      clear hFc HC5 HCL
      have hm0 : 0 ≤ max a ck := by omega
      have hm1 : max a ck ≤ 5000 := by omega
      have HSD : Hid (settle tame c h1.sent kN ck a = if tame then soonI c h1.sent kN (max a ck) else max a ck) := rfl
      generalize max a ck = mx at *
      go_upto_if 97 with (fail)
      go_cut [10] (fun av wx => av = .int .i64 (settle tame c h1.sent kN ck a) ∧ F wx)
      case first =>
        cases tame
        · go_wp2_with fail
          go_meet
          case rel => exact ⟨by rw [HSD.out]; rfl, by rw [HFF.out]; exact HC6.out⟩
        · have HSN2 := hide (HC6.out.soon (t := mx) HIN.out (HTT.out rfl) (by rw [HSX.out]; exact hsl) hm0 hm1)
          go_wp2_with fail
          refine HSN2.out.mono ?_
          rintro e w6 ⟨rfl, p6⟩
          have HC7 := hide p6
          clear p6
          go_wp2_with fail
          go_meet
          case rel => exact ⟨by rw [HSD.out]; rfl, by rw [HFF.out]; exact HC7.out⟩
      case rest =>
      obtain ⟨rfl, hFc⟩ := hcut
      rw [HFF.out] at hFc
      have HC7 := hide hFc
      clear hFc HC6 HFF HSD hm0 hm1
      obtain ⟨s0, s1, s2⟩ := HST.out
      generalize settle tame c h1.sent kN ck a = A at *
      clear HST HTT
      by_cases hA : 900 ≤ A
      · go_wp2_with fail
        go_ret
        refine ⟨rfl, ?_⟩
        rw [HCM.out, if_pos hA]
        exact HC7.out.cm.forget fun k e => e.elim
      · have HCM2 := HCM.out
        rw [if_neg hA] at HCM2
        have HCE := hide HCM2
        clear HCM HCM2
        go_wp2_with fail
        refine (HMG.out _).mono ?_
        rintro e w8 ⟨g, rfl, hg0, hgb, hb8⟩
        have HC8 := hide (HC7.out.message hb8 hg0 hgb)
        rw [← msgC_B] at HC8
        have hml : (msgC (kN : Int) PR).length = 4 := rfl
        obtain ⟨hs1, hs2⟩ := HSN.out h1 A HIN.out ⟨by rw [HCK.out]; exact s1, by omega, by omega⟩
        have HSA := hide (And.intro hs1 hs2)
        clear hg0 hgb hb8 HC7 HMG HSN hs1 hs2
        have HM0 : Hid (msgC (kN : Int) PR = ((msgC (kN : Int) PR).drop 0).take 4) := rfl
        have HM1 : Hid ((msgC (kN : Int) PR).take 2 = ((msgC (kN : Int) PR).drop 0).take 2) := rfl
        have HM2 : Hid ((msgC (kN : Int) PR).drop 2 = ((msgC (kN : Int) PR).drop 2).take 2) := rfl
        have HMI : Hid (∀ b ∈ msgC (kN : Int) PR, 0 ≤ b ∧ b < 256) := msgC_in ⟨by omega, by omega⟩ ⟨by omega, by omega⟩
        generalize msgC (kN : Int) PR = MS at *
        obtain ⟨⟨hH, e0, e5, e6, e7⟩, hbx, hgl, b4⟩ := HC8.out.cells
        obtain ⟨F2, hF2⟩ : ∃ F2 : Value → World → Prop, F2 = (fun bv wx => ∃ (h2 : Hs) (i m cap : Nat) (M : Int), bv = .slice (some ⟨g, i, none⟩) m cap ∧ m ≤ cap ∧ i + m ≤ 4 ∧ CoM V wx w.heap.size g H X c (.slice (some ⟨sb, so, none⟩) n scap) o MS h2 ∧ ExIn h2.x M ∧ M ≤ 700000000000000 ∧ (exFeed h2.x LN A ((MS.drop i).take m)).2 = 0 ∧ sends tame c o h1 A = ⟨(h2.feed LN A ((MS.drop i).take m)).x, A, h1.sent ++ [((kN : Int), A)], h1.done⟩ ∧ h2.sent = h1.sent ∧ h2.done = h1.done) := ⟨_, rfl⟩
        have HF2 := hide hF2
        clear hF2
        obtain ⟨spb, hspb⟩ : ∃ b, o.split = b := ⟨_, rfl⟩
        have HSP := hide hspb
        rw [hspb] at b4
        clear hspb
        go_upto_if 108 with (fail)
        go_cut [14] (fun bv wx => F2 bv wx)
        case first =>
          cases spb with
          | false =>
            go_wp2_with fail
            go_meet
            case rel =>
              rw [HF2.out]
              refine ⟨h1, 0, 4, 4, N, rfl, by omega, by omega, HC8.out, HIN.out.ex, by omega, ?_, ?_, rfl, rfl⟩
              · rw [← HM0.out]; exact HSA.out.2 HSP.out
              · rw [← HM0.out]; exact HS1.out h1 A HSP.out
          | true =>
            have hsp := HSP.out
            have hb8 : Below w8.heap.size w8 w8.drew := (Below.refl _ _).drew
            have HCL := hide ((HC8.out.later hb8).clock HIN.out)
            rw [HCK.out] at HCL
            obtain ⟨hsa1, hsa2⟩ := HSA.out.1 hsp
            have hex := (HIN.out.feed (line := LN) (t := max h1.last ck) (bs := MS.take 2) ⟨lN0, lN1⟩ ⟨by rw [HCK.out]; omega, by have := HIN.out.fd; omega, by have := HIN.out.l1; omega⟩ (fun b hb => HMI.out b (List.mem_of_mem_take hb))).2.1
            have hexl : ((MS.take 2).length : Int) ≤ 4 := by rw [List.length_take, hml]; omega
            rw [HCK.out] at hsa1 hsa2
            have HSB := hide (And.intro hsa2 (And.intro hex hexl))
            have HSC := hide (HS2.out h1 A hsp)
            rw [HCK.out] at HSC
            obtain ⟨F3, hF3⟩ : ∃ F3 : World → Prop, F3 = (fun wx => CoM V wx w.heap.size g H X c (.slice (some ⟨sb, so, none⟩) n scap) o MS (h1.feed LN (max h1.last ck) (MS.take 2))) := ⟨_, rfl⟩
            have HF3 := hide hF3
            have HFD : Hid (∀ w9, CoM V w9 w.heap.size g H X c (.slice (some ⟨sb, so, none⟩) n scap) o MS h1 → Calls Try.prog 15 #[.pointer (some ⟨X, 0, none⟩), .int .i64 LN, .int .i64 (max h1.last ck), .slice (some ⟨g, 0, none⟩) 2 4] w9 fun r w' => r = .returned (.int .i64 0) ∧ F3 w' ∧ w'.cell? ⟨H, 6, none⟩ = some (.pointer (some ⟨X, 0, none⟩)) ∧ w'.cell? ⟨H, 7, none⟩ = some (.int .i64 h1.last)) := fun w9 p9 => (p9.feed (n := LN) (t := max h1.last ck) HIN.out.ex (by omega) 0 2 4 (by omega) (by omega) (by omega)).mono fun r w' ⟨e, q⟩ => by
              rw [← HM1.out] at e q
              rw [hsa1] at e
              exact ⟨e, by rw [HF3.out]; exact q, q.cells.1.2.2.2.1, q.cells.1.2.2.2.2⟩
            generalize hLL : h1.last = LL at *
            have HLL := hide hLL
            clear hF3 hsa1 hsa2 hex hexl hLL hb8 hsp
            by_cases hmx : LL < ck
            · have hm : max LL ck = ck := by omega
              rw [hm] at HFD
              clear hm
              go_upto_region 24 with (fail)
              go_cut [15] (fun ev wx => ev = .int .i64 0 ∧ F3 wx)
              case first =>
                go_region_held (fun w' => w'.cell? ⟨H, 6, none⟩ = some (.pointer (some ⟨X, 0, none⟩)) ∧ w'.cell? ⟨H, 7, none⟩ = some (.int .i64 LL)) (go_keep) (first
                  | (go_at_call 14; refine HCL.out.mono ?_; rintro e w9 ⟨rfl, p9⟩; have HC9 := hide p9; obtain ⟨⟨hH9, -, -, y6, y7⟩, -⟩ := p9.cells; rw [HLL.out] at y7; clear p9)
                  | (go_at_call 15; refine (HFD.out w9 HC9.out).mono ?_; rintro e w10 ⟨rfl, hF10, z6, z7⟩; have HF10 := hide hF10; clear hF10))
                all_goals
                  go_wp2_with fail
                  go_meet
                  case rel => exact ⟨rfl, HF10.out⟩
              case rest =>
                obtain ⟨rfl, hFc⟩ := hcut
                rw [HF3.out] at hFc
                have HC9 := hide hFc
                clear hFc
                go_wp2_with fail
                go_meet
                case rel =>
                  rw [HF2.out]
                  refine ⟨_, 2, 2, 2, N + ((MS.take 2).length : Int), rfl, by omega, by omega, HC9.out, HSB.out.2.1, by have := HSB.out.2.2; omega, ?_, ?_, rfl, rfl⟩
                  · rw [← HM2.out]; exact HSB.out.1
                  · rw [← HM2.out]; exact HSC.out
            · have hm : max LL ck = LL := by omega
              have hmz : (LL < ck) = False := eq_false hmx
              rw [hm] at HFD
              clear hm
              go_upto_region 24 with (fail)
              go_cut [15] (fun ev wx => ev = .int .i64 0 ∧ F3 wx)
              case first =>
                go_region_held (fun w' => w'.cell? ⟨H, 6, none⟩ = some (.pointer (some ⟨X, 0, none⟩)) ∧ w'.cell? ⟨H, 7, none⟩ = some (.int .i64 LL)) (go_keep) (first
                  | (go_at_call 14; refine HCL.out.mono ?_; rintro e w9 ⟨rfl, p9⟩; have HC9 := hide p9; obtain ⟨⟨hH9, -, -, y6, y7⟩, -⟩ := p9.cells; rw [HLL.out] at y7; clear p9)
                  | (go_at_call 15; refine (HFD.out w9 HC9.out).mono ?_; rintro e w10 ⟨rfl, hF10, z6, z7⟩; have HF10 := hide hF10; clear hF10))
                all_goals
                  go_wp2_with fail
                  go_meet
                  case rel => exact ⟨rfl, HF10.out⟩
              case rest =>
                obtain ⟨rfl, hFc⟩ := hcut
                rw [HF3.out] at hFc
                have HC9 := hide hFc
                clear hFc
                go_wp2_with fail
                go_meet
                case rel =>
                  rw [HF2.out]
                  refine ⟨_, 2, 2, 2, N + ((MS.take 2).length : Int), rfl, by omega, by omega, HC9.out, HSB.out.2.1, by have := HSB.out.2.2; omega, ?_, ?_, rfl, rfl⟩
                  · rw [← HM2.out]; exact HSB.out.1
                  · rw [← HM2.out]; exact HSC.out
        case rest =>
          rw [HF2.out] at hcut
          obtain ⟨h2, i, m, cap, M, rfl, hmc, him, hp2, hi2, hM2, hz2, hsn, hse2, hdn2⟩ := hcut
          have HFE := hide (hp2.feed (n := LN) (t := A) hi2 (by omega) i m cap hmc (by omega) (by omega))
          obtain ⟨⟨hH, e0, e5, e6, e7⟩, hbx, hgl, b4⟩ := hp2.cells
          rw [hz2] at HFE
          have hf1 : (h2.feed LN A ((MS.drop i).take m)).sent = h1.sent := hse2
          have hf2 : (h2.feed LN A ((MS.drop i).take m)).done = h1.done := hdn2
          generalize h2.feed LN A ((MS.drop i).take m) = h3 at *
          have HSN3 := hide hsn
          have HSE2 := hide (And.intro hf1 hf2)
          clear hp2 hi2 hz2 hsn hse2 hdn2 hf1 hf2 HF2 HC8
          go_wp2_with fail
          refine HFE.out.mono ?_
          rintro e w9 ⟨rfl, p9⟩
          have p9c := p9.cm
          obtain ⟨k7b, k7f⟩ : w9.cell? ⟨H, 7, none⟩ = some (.int .i64 h3.last) ∧ w9.frozen? ⟨H, 7, none⟩ = false := by
            obtain ⟨⟨S, sv, dv, m1, -⟩, -⟩ := p9c
            exact ⟨m1.blk.cell 7, m1.blk.free 7⟩
          have hH9 := p9c.cells.1
          have p10 := p9c.lastly A
          have HP10 := hide p10
          obtain ⟨⟨S, sv, dv, m1, m2, m3, m4, m5⟩, mz, mh, mb⟩ := p10
          go_upto_region 30 with (fail)
          generalize hW10 : w9.setCell ⟨H, 7, none⟩ (.int .i64 A) = W10 at *
          clear hW10 k7b k7f
          have k8 : W10.cell? ⟨H, 8, none⟩ = some sv := m1.blk.cell 8
          have k8f := m1.blk.free 8
          have hH10 := m1.blk.lt
          obtain ⟨va, vc, hsv⟩ := ownsRow_slice m2
          have hba : Below W10.heap.size W10 (W10.alloc (.cells #[.int .i64 kN, .int .i64 A] 69)) := (Below.refl _ _).alloc (Nat.le_refl _) _
          have HM1a := hide (m1.later hba)
          have HM2a := hide (m2.same fun k hk => hba.block k (ownsRow_lt m2 hk).2)
          have hsz : W10.heap.size < (W10.alloc (.cells #[.int .i64 kN, .int .i64 A] 69)).heap.size := by simp
          have HM3a : Hid (∀ k, S k → V.heap.size ≤ k ∧ k < (W10.alloc (.cells #[.int .i64 kN, .int .i64 A] 69)).heap.size) := fun k hk => ⟨(m3 k hk).1, by have := (m3 k hk).2; omega⟩
          have HM4 := hide m4
          have HMB : Hid (Below V.heap.size V (W10.alloc (.cells #[.int .i64 kN, .int .i64 A] 69))) := mb.trans (hba.mono mb.size)
          have hvs := mb.size
          have hfr := fresh_cells W10 [.int .i64 (kN : Int), .int .i64 A] 69 _ rfl
          have HFR := hide hfr
          have hsl2 : h3.sent.length ≤ 1000000000 := by
            rw [HSE2.out.1, HSX.out]
            omega
          clear p9 p9c m1 m2 m3 m4 m5 mz mb hba hfr
          generalize h3.sent.length = sn at hsv
          subst hsv
          go_wp2_with (at_builtin; go_must (refine wpList_appSent rfl _ _ rfl V.heap.size (.slice va sn vc) _ ((kN : Int), A) rfl HM2a.out ⟨W10.heap.size, 0, none⟩ 1 rfl HFR.out hsl2 (by omega) ?_))
          intro sv2 w11 g1 g2 g3
          obtain ⟨va2, vc2, hsv2⟩ := ownsRow_slice g1
          generalize (h3.sent ++ [((kN : Int), A)]).length = sn2 at hsv2
          subst hsv2
          have hne : (Value.slice va sn vc).ownBlock ≠ some H := fun e => (HM4.out H e).2.1 rfl
          have hB11 : Blk w11 H (hcs c (.slice (some ⟨sb, so, none⟩) n scap) X A (.slice va sn vc) dv) 46 := HM1a.out.blk.grownRow g2 hne
          have k8b : w11.cell? ⟨H, 8, none⟩ = some (.slice va sn vc) := hB11.cell 8
          have k8c := hB11.free 8
          have hH11 := hB11.lt
          have hg3 : (Value.slice va2 sn2 vc2).ownBlock = (Value.slice va sn vc).ownBlock ∨ (Value.slice va2 sn2 vc2).ownBlock = some (W10.alloc (.cells #[.int .i64 kN, .int .i64 A] 69)).heap.size := by simpa using g3
          have HQ := hide (@CmP.sentBy V (W10.alloc (.cells #[.int .i64 kN, .int .i64 A] 69)) w11 (fun _ => False) H X c (.slice (some ⟨sb, so, none⟩) n scap) ⟨h3.x, A, h3.sent, h3.done⟩ S (.slice va sn vc) dv (.slice va2 sn2 vc2) ((kN : Int), A) HM1a.out HM2a.out HM3a.out HM4.out mh HMB.out g1 g2 hg3)
          clear g1 g2 g3 hg3 hB11 k8 k8f
          go_wp2_with fail
          go_ret
          refine ⟨rfl, ?_⟩
          rw [HCE.out, HSN3.out, ← HSE2.out.1, ← HSE2.out.2]
          exact HQ.out

end Go.Proofs.Ythloffgebebijaa
