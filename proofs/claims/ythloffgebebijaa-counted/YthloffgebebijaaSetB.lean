/- SetB: the walk of tillerkeep.settings. -/
import Derived.Test.YthloffgebebijaaSetA
import Derived.Test.YthloffgebebijaaPick
import Derived.Deep.RegionWith
import Derived.Deep.RegionHeld3
import Derived.Deep.RegionLaw
import Derived.Deep.RegionLawGrows
import Derived.Deep.DeepMust
namespace Go.Proofs.Ythloffgebebijaa
open Go.RowKit

theorem Blk.grownN {w w' : World} {b : Nat} {c : Array Value} {t : TypeId} (h : Blk w b c t) (hg : w.grownBy w' none) : Blk w' b c t := (hg.block b h.lt (by simp)).trans h
theorem Blk.at {w : World} {b : Nat} {xs : List Value} {t : TypeId} (h : Blk w b xs.toArray t) {j : Nat} {u : Value} (hj : xs[j]? = some u) : w.cell? ((⟨b, 0, none⟩ : Addr).add j) = some u := by
  by_cases h0 : j = 0
  · subst h0; have := h.cell 0; simpa [Addr.add, hj] using this
  · have := h.cell j; simpa [Addr.add, h0, hj] using this

theorem div_in {x : Int} (h : In64 x) (k : Int) (hk : 0 < k) : In64 (x.tdiv k) := by
  obtain ⟨h1, h2⟩ := h
  unfold In64
  by_cases h0 : 0 ≤ x
  · rw [Int.tdiv_eq_ediv_of_nonneg h0]
    have a1 := Int.ediv_le_self k h0
    have a2 := Int.ediv_nonneg h0 (Int.le_of_lt hk)
    omega
  · have e : x.tdiv k = -((-x) / k) := by
      rw [← Int.tdiv_eq_ediv_of_nonneg (by omega), Int.neg_tdiv, Int.neg_neg]
    rw [e]
    have a1 := Int.ediv_le_self k (show 0 ≤ -x by omega)
    have a2 := Int.ediv_nonneg (show 0 ≤ -x by omega) (Int.le_of_lt hk)
    omega

set_option maxRecDepth 100000 in
set_option maxHeartbeats 1600000 in
theorem settings_false (lines room price : Int) (v : Value) (rs : List Raw5) (B : Nat) (w : World) (h1 : In64 lines) (h2 : In64 room) (h3 : In64 price) (hv : Raws w B v rs) (hB : B ≤ w.heap.size) (hr : ∀ r ∈ rs, r.fits) (hlen : rs.length ≤ 140737488355328) :
    Calls Try.prog 8 #[.int .i64 lines, .int .i64 room, .int .i64 price, v, .bool false] w fun e w' => ∃ v', e = .returned v' ∧ Cf w' w'.heap.size v' (mkCfg lines room price rs false) ∧ Below w.heap.size w w' := by
  obtain ⟨a, cap, rfl, hv⟩ := hv
  have HP1 := hide (fun w => keepPick_any lines 4 w h1 (by decide) (by decide))
  have HP2 := hide (fun w => keepPick_any room 40 w h2 (by decide) (by decide))
  have HP3 := hide (fun w => keepPick_any price 3 w h3 (by decide) (by decide))
  have HP4 := hide (fun w => keepPick_any (price.tdiv 3) 4 w (div_in h3 3 (by decide)) (by decide) (by decide))
  have HP5 := hide (fun w => keepPick_any (price.tdiv 12) 3 w (div_in h3 12 (by decide)) (by decide) (by decide))
  have q1 := pk_lo lines 4 (by decide)
  have q1' := pk_hi lines 4 (by decide)
  have q2 := pk_lo room 40 (by decide)
  have q2' := pk_hi room 40 (by decide)
  have q3 := pk_lo price 3 (by decide)
  have q3' := pk_hi price 3 (by decide)
  obtain ⟨l3, l3'⟩ := h3
  generalize hn : rs.length = n at *
  have HN := hide hn
  have HR := hide hr
  have HV := hide hv
  clear hn hr hv
  go_enter Try.func8, Try.ntmps8
  go_wp2_with fail
  refine (HP1.out _).mono ?_
  rintro e w' ⟨rfl, rfl⟩
  go_wp2_with fail
  refine (HP2.out _).mono ?_
  rintro e w' ⟨rfl, rfl⟩
  go_wp2_with fail
  refine (HP3.out _).mono ?_
  rintro e w' ⟨rfl, rfl⟩
  go_wp2_with fail
  refine (HP4.out _).mono ?_
  rintro e w' ⟨rfl, rfl⟩
  go_wp2_with fail
  refine (HP5.out _).mono ?_
  rintro e w' ⟨rfl, rfl⟩
  clear HP1 HP2 HP3 HP4 HP5
  have HMK : Hid (mkCfg lines room price rs false = ⟨1 + pk lines 4, 1 + pk room 40, 1 + pk price 3, pk (price.tdiv 3) 4, pk (price.tdiv 12) 3, mkTasks false rs⟩) := rfl
  go_wp2_with fail
  generalize hx1 : 1 + pk lines 4 = x1 at *
  generalize hx2 : 1 + pk room 40 = x2 at *
  generalize hx3 : 1 + pk price 3 = x3 at *
  generalize hx4 : pk (price.tdiv 3) 4 = x4 at *
  generalize hx5 : pk (price.tdiv 12) 3 = x5 at *
  clear hx1 hx2 hx3 hx4 hx5 q1 q1' q2 q2' q3 q3' l3 l3'
  go_loopw [12] (fun i wr => ∃ (k : Nat) (tv : Value), i = .int .i64 k ∧ k ≤ n ∧ k ≤ 6 ∧ Below w.heap.size w wr ∧ Blk wr w.heap.size #[.int .i64 0, .int .i64 0, .int .i64 0, .int .i64 0, .int .i64 0, .slice none 0 0] 26 ∧ Blk wr (w.heap.size + 1) #[.int .i64 x1, .int .i64 x2, .int .i64 x3, .int .i64 x4, .int .i64 x5, tv] 26 ∧ OwnT wr w.heap.size tv ((rs.take k).map (mkTask false))) (fun i _ => n - (intOf i).toNat)
  case atStart =>
    refine ⟨0, .slice none 0 0, rfl, Nat.zero_le _, by omega, ((Below.refl _ _).alloc (Nat.le_refl _) _).alloc (by simp) _, (Blk.new _ _ _).alloc _, ?_, ⟨[], World.ownsRow_nil _ _ _ _, rfl, by simp⟩⟩
    have := Blk.new (w.alloc (.cells #[.int .i64 0, .int .i64 0, .int .i64 0, .int .i64 0, .int .i64 0, .slice none 0 0] 26)) #[.int .i64 x1, .int .i64 x2, .int .i64 x3, .int .i64 x4, .int .i64 x5, .slice none 0 0] 26
    simpa using this
  case round =>
    obtain ⟨k, tv, rfl, hk, hk6, hbel, hA, hC, hO⟩ := hrel
    have HA := hide hA
    have HC := hide hC
    have HO := hide hO
    have HBE := hide hbel
    have hz1 := hA.lt
    have hz2 := hC.lt
    clear hA hC hO hbel
    by_cases hlt : k < n ∧ k < 6
    · obtain ⟨hlt, hlt6⟩ := hlt
      obtain ⟨r, hl⟩ := get_of_lt (l := rs) (k := k) (by rw [HN.out]; exact hlt)
      rcases HV.out with he | ⟨pb, po, rfl, hpb, hpc⟩
      · rw [he] at hl; simp at hl
      obtain ⟨d0, d1, d2, d3, d4⟩ := (hpc k r hl).later HBE.out (by omega)
      obtain ⟨f0, f1, f2, f3, f4⟩ := HR.out r (List.mem_of_getElem? hl)
      have HT := hide (take_snoc hl)
      clear hpc hl
      obtain ⟨rc, rd, rw', rn, rm⟩ := r
      simp only at d0 d1 d2 d3 d4 f0 f1 f2 f3 f4
      have HPc := hide (fun w => keepPick_any rc 50 w f0 (by decide) (by decide))
      have HPd := hide (fun w => keepPick_any rd 400 w f1 (by decide) (by decide))
      have HPw := hide (fun w => keepPick_any rw' 400 w f2 (by decide) (by decide))
      have HPn := hide (fun w => keepPick_any rn 3 w f3 (by decide) (by decide))
      have HPm := hide (fun w => keepPick_any rm 100 w f4 (by decide) (by decide))
      have g0 := pk_lo rc 50 (by decide)
      have g0' := pk_hi rc 50 (by decide)
      have g1 := pk_lo rd 400 (by decide)
      have g1' := pk_hi rd 400 (by decide)
      have g2 := pk_lo rw' 400 (by decide)
      have g2' := pk_hi rw' 400 (by decide)
      have g3 := pk_lo rn 3 (by decide)
      have g3' := pk_hi rn 3 (by decide)
      have g4 := pk_lo rm 100 (by decide)
      have g4' := pk_hi rm 100 (by decide)
      obtain ⟨f4, f4'⟩ := f4
      have HMT : Hid (mkTask false ⟨rc, rd, rw', rn, rm⟩ = ⟨1 + pk rc 50, 1 + pk rd 400, (1 + pk rw' 400, 1 + pk rn 3) :: (if rm.tmod 2 = 0 then [(1 + pk rw' 400 + 1 + pk rm 100, 1 + pk rn 3 + 1)] else [])⟩) := rfl
      have HBR := hide (Blk.new wr #[.int .i64 rc, .int .i64 rd, .int .i64 rw', .int .i64 rn, .int .i64 rm] 72)
      clear f0 f1 f2 f3
      have hpw : pb < wr.heap.size := by omega
      go_wp2_with fail
      have e0 : IntKind.i64.wrap (1 + pk rc 50) = 1 + pk rc 50 := IntWalk.i64_in _ ⟨by omega, by omega⟩
      have e1 : IntKind.i64.wrap (1 + pk rd 400) = 1 + pk rd 400 := IntWalk.i64_in _ ⟨by omega, by omega⟩
      apply wp_once
      case h =>
       go_region_held3 (fun w' => w'.cell? ⟨wr.heap.size, 0, none⟩ = some (.int .i64 rc) ∧ w'.cell? ⟨wr.heap.size, 1, none⟩ = some (.int .i64 rd)) (simp [go_sem, World.cell?_alloc_past])
        (first
          | (go_at_call_of 12 rc; refine (HPc.out _).mono ?_; rintro e w' ⟨rfl, rfl⟩)
          | (go_at_call_of 12 rd; refine (HPd.out _).mono ?_; rintro e w' ⟨rfl, rfl⟩))
       all_goals exact ⟨rfl, rfl⟩
      go_wp2_with fail
      refine (HPw.out _).mono ?_
      rintro e w' ⟨rfl, rfl⟩
      go_wp2_with fail
      refine (HPn.out _).mono ?_
      rintro e w' ⟨rfl, rfl⟩
      have hm' : (rm.tmod 2 == 0) = decide (rm.tmod 2 = 0) := by by_cases h : rm.tmod 2 = 0 <;> simp [h]
      clear hm'
      by_cases hm : rm.tmod 2 = 0
      · go_wp2_with fail
        have HB0 : Hid (Below wr.heap.size wr (((wr.alloc (.cells #[.int .i64 rc, .int .i64 rd, .int .i64 rw', .int .i64 rn, .int .i64 rm] 72)).alloc (.cells #[.int .i64 (1 + pk rc 50), .int .i64 (1 + pk rd 400), .slice (some ⟨wr.heap.size + 1 + 1, 0, none⟩) 1 1] 61)).alloc (.cells #[.int .i64 (1 + pk rw' 400), .int .i64 (1 + pk rn 3)] 74)).drew) := ((((Below.refl _ _).alloc (Nat.le_refl _) _).alloc (by simp) _).alloc (by simp; omega) _).drew
        have HR0 : Hid (Blk (((wr.alloc (.cells #[.int .i64 rc, .int .i64 rd, .int .i64 rw', .int .i64 rn, .int .i64 rm] 72)).alloc (.cells #[.int .i64 (1 + pk rc 50), .int .i64 (1 + pk rd 400), .slice (some ⟨wr.heap.size + 1 + 1, 0, none⟩) 1 1] 61)).alloc (.cells #[.int .i64 (1 + pk rw' 400), .int .i64 (1 + pk rn 3)] 74)).drew wr.heap.size #[.int .i64 rc, .int .i64 rd, .int .i64 rw', .int .i64 rn, .int .i64 rm] 72) := (((Blk.new _ _ _).alloc _).alloc _).drew
        have HT0 : Hid (Blk (((wr.alloc (.cells #[.int .i64 rc, .int .i64 rd, .int .i64 rw', .int .i64 rn, .int .i64 rm] 72)).alloc (.cells #[.int .i64 (1 + pk rc 50), .int .i64 (1 + pk rd 400), .slice (some ⟨wr.heap.size + 1 + 1, 0, none⟩) 1 1] 61)).alloc (.cells #[.int .i64 (1 + pk rw' 400), .int .i64 (1 + pk rn 3)] 74)).drew (wr.heap.size + 1) #[.int .i64 (1 + pk rc 50), .int .i64 (1 + pk rd 400), .slice (some ⟨wr.heap.size + 1 + 1, 0, none⟩) 1 1] 61) := by
          have := ((Blk.new (wr.alloc (.cells #[.int .i64 rc, .int .i64 rd, .int .i64 rw', .int .i64 rn, .int .i64 rm] 72)) #[.int .i64 (1 + pk rc 50), .int .i64 (1 + pk rd 400), .slice (some ⟨wr.heap.size + 1 + 1, 0, none⟩) 1 1] 61).alloc (.cells #[.int .i64 (1 + pk rw' 400), .int .i64 (1 + pk rn 3)] 74)).drew
          simpa [Hid] using this
        have HL0 : Hid (Blk (((wr.alloc (.cells #[.int .i64 rc, .int .i64 rd, .int .i64 rw', .int .i64 rn, .int .i64 rm] 72)).alloc (.cells #[.int .i64 (1 + pk rc 50), .int .i64 (1 + pk rd 400), .slice (some ⟨wr.heap.size + 1 + 1, 0, none⟩) 1 1] 61)).alloc (.cells #[.int .i64 (1 + pk rw' 400), .int .i64 (1 + pk rn 3)] 74)).drew (wr.heap.size + 1 + 1) #[.int .i64 (1 + pk rw' 400), .int .i64 (1 + pk rn 3)] 74) := by
          have := (Blk.new ((wr.alloc (.cells #[.int .i64 rc, .int .i64 rd, .int .i64 rw', .int .i64 rn, .int .i64 rm] 72)).alloc (.cells #[.int .i64 (1 + pk rc 50), .int .i64 (1 + pk rd 400), .slice (some ⟨wr.heap.size + 1 + 1, 0, none⟩) 1 1] 61)) #[.int .i64 (1 + pk rw' 400), .int .i64 (1 + pk rn 3)] 74).drew
          simpa [Hid] using this
        have hs0 : ((((wr.alloc (.cells #[.int .i64 rc, .int .i64 rd, .int .i64 rw', .int .i64 rn, .int .i64 rm] 72)).alloc (.cells #[.int .i64 (1 + pk rc 50), .int .i64 (1 + pk rd 400), .slice (some ⟨wr.heap.size + 1 + 1, 0, none⟩) 1 1] 61)).alloc (.cells #[.int .i64 (1 + pk rw' 400), .int .i64 (1 + pk rn 3)] 74)).drew).heap.size = wr.heap.size + 3 := by simp
        generalize hW0 : (((wr.alloc (.cells #[.int .i64 rc, .int .i64 rd, .int .i64 rw', .int .i64 rn, .int .i64 rm] 72)).alloc (.cells #[.int .i64 (1 + pk rc 50), .int .i64 (1 + pk rd 400), .slice (some ⟨wr.heap.size + 1 + 1, 0, none⟩) 1 1] 61)).alloc (.cells #[.int .i64 (1 + pk rw' 400), .int .i64 (1 + pk rn 3)] 74)).drew = W0 at *
        clear hW0 HBR
        have e2 : IntKind.i64.wrap (1 + pk rw' 400 + 1) = 1 + pk rw' 400 + 1 := IntWalk.i64_in _ ⟨by omega, by omega⟩
        have e3 : IntKind.i64.wrap (1 + pk rw' 400 + 1 + pk rm 100) = 1 + pk rw' 400 + 1 + pk rm 100 := IntWalk.i64_in _ ⟨by omega, by omega⟩
        have e4 : IntKind.i64.wrap (1 + pk rn 3 + 1) = 1 + pk rn 3 + 1 := IntWalk.i64_in _ ⟨by omega, by omega⟩
        have t2 : W0.cell? ⟨wr.heap.size + 1, 2, none⟩ = some (.slice (some ⟨wr.heap.size + 1 + 1, 0, none⟩) 1 1) := HT0.out.cell 2
        have t2f := HT0.out.free 2
        have r4 : W0.cell? ⟨wr.heap.size, 4, none⟩ = some (.int .i64 rm) := HR0.out.cell 4
        obtain ⟨i0, hi, hz0, hzs, hzb⟩ := info_parts info_limit
        have HI := hide (And.intro hi (And.intro hz0 (And.intro hzs hzb)))
        clear hi hz0 hzs hzb
        have HOLD : Hid (∀ b, some (⟨wr.heap.size + 1 + 1, 0, none⟩ : Addr) = some b → ∀ (j : Nat) (u : Value), [Value.int .i64 (1 + pk rw' 400), .int .i64 (1 + pk rn 3)][j]? = some u → (W0.alloc (.cells #[.int .i64 (1 + pk rw' 400 + 1 + pk rm 100), .int .i64 (1 + pk rn 3 + 1)] 74)).drew.cell? (b.add j) = some u) := by
          intro b hb j u hj
          simp only [Option.some.injEq] at hb
          subst hb
          exact Blk.at ((HL0.out.alloc _).drew) hj
        have HNEW : Hid (∀ (j : Nat) (u : Value), [Value.int .i64 (1 + pk rw' 400 + 1 + pk rm 100), .int .i64 (1 + pk rn 3 + 1)][j]? = some u → (W0.alloc (.cells #[.int .i64 (1 + pk rw' 400 + 1 + pk rm 100), .int .i64 (1 + pk rn 3 + 1)] 74)).drew.cell? ((⟨W0.heap.size, 0, none⟩ : Addr).add j) = some u) :=
          fun j u hj => Blk.at ((Blk.new W0 _ _).drew) hj
        have HONE : Hid (∀ u ∈ [Value.int .i64 (1 + pk rw' 400 + 1 + pk rm 100), .int .i64 (1 + pk rn 3 + 1)], u.oneCell' = true) := by
          intro u hu; simp at hu; rcases hu with rfl | rfl <;> rfl
        apply wp_some3 (fun (va : Option Addr) (vcap : Nat) (w1 : World) => w1.ownsRow (W0.alloc (.cells #[.int .i64 (1 + pk rw' 400 + 1 + pk rm 100), .int .i64 (1 + pk rn 3 + 1)] 74)).drew.heap.size 74 2 (.slice va (1 + 1) vcap) (1 + 1) ([Value.int .i64 (1 + pk rw' 400), .int .i64 (1 + pk rn 3)] ++ [Value.int .i64 (1 + pk rw' 400 + 1 + pk rm 100), .int .i64 (1 + pk rn 3 + 1)]) ∧ (W0.alloc (.cells #[.int .i64 (1 + pk rw' 400 + 1 + pk rm 100), .int .i64 (1 + pk rn 3 + 1)] 74)).drew.grownBy w1 none)
        case h =>
          go_region_law (first | (refine step_append_grows rfl (.tmp 89) (.tmp 99) 59 rfl 74 i0 (.agg #[.int .i64 0, .int .i64 0]) 2 16 Try.underlying59 HI.out.1 HI.out.2.1 HI.out.2.2.1 HI.out.2.2.2 rfl (by decide) (some ⟨wr.heap.size + 1 + 1, 0, none⟩) 1 1 [.int .i64 (1 + pk rw' 400), .int .i64 (1 + pk rn 3)] (by simp [Act.eval]) (by simp) rfl HOLD.out ⟨W0.heap.size, 0, none⟩ 1 1 [.int .i64 (1 + pk rw' 400 + 1 + pk rm 100), .int .i64 (1 + pk rn 3 + 1)] (by simp [Act.eval]) rfl HNEW.out HONE.out (by decide) (by decide) (by decide) ?_; intro v1 w1 hown hgrow; obtain ⟨va, vcap, rfl⟩ := owns_slice hown; have t2w : w1.cell? ⟨wr.heap.size + 1, 2, none⟩ = some (.slice (some ⟨wr.heap.size + 1 + 1, 0, none⟩) 1 1) := (Blk.grownN (HT0.out.alloc _).drew hgrow).cell 2; have t2wf := (Blk.grownN (HT0.out.alloc _).drew hgrow).free 2; have r4w : w1.cell? ⟨wr.heap.size, 4, none⟩ = some (.int .i64 rm) := (Blk.grownN (HR0.out.alloc _).drew hgrow).cell 4; have HOW := hide hown; have HGR := hide hgrow; clear hown hgrow) | (go_simp; go_at_call 12; refine (HPm.out _).mono ?_; rintro e w' ⟨rfl, rfl⟩; simp only []))
          all_goals exact ⟨va, vcap, w1, ⟨HOW.out, HGR.out⟩, rfl, rfl⟩
        rintro va vcap w1 ⟨how, hgr⟩
        have LS : OwnL w1 w.heap.size (.slice va 2 vcap) [(1 + pk rw' 400, 1 + pk rn 3), (1 + pk rw' 400 + 1 + pk rm 100, 1 + pk rn 3 + 1)] := owns_lower how (by simp; omega)
        have HB1 : Below wr.heap.size wr w1 := (HB0.out.alloc (by omega) _).drew.trans ⟨hgr.os, hgr.tape, hgr.output, hgr.size, fun k hk => hgr.block k (by simp; omega) (by simp)⟩
        have HT1 := Blk.grownN ((HT0.out.alloc _).drew) hgr
        have HB2 : Hid (Below wr.heap.size wr (w1.setCell ⟨wr.heap.size + 1, 2, none⟩ (.slice va 2 vcap))) := HB1.setCell (by simp) _
        have HT2 : Hid (Blk (w1.setCell ⟨wr.heap.size + 1, 2, none⟩ (.slice va 2 vcap)) (wr.heap.size + 1) #[.int .i64 (1 + pk rc 50), .int .i64 (1 + pk rd 400), .slice va 2 vcap] 61) := HT1.set 2 _
        have HLS : Hid (OwnL (w1.setCell ⟨wr.heap.size + 1, 2, none⟩ (.slice va 2 vcap)) w.heap.size (.slice va 2 vcap) [(1 + pk rw' 400, 1 + pk rn 3), (1 + pk rw' 400 + 1 + pk rm 100, 1 + pk rn 3 + 1)]) := owns_other LS HT1 (by decide)
        have HTK : Hid (mkTask false ⟨rc, rd, rw', rn, rm⟩ = ⟨1 + pk rc 50, 1 + pk rd 400, [(1 + pk rw' 400, 1 + pk rn 3), (1 + pk rw' 400 + 1 + pk rm 100, 1 + pk rn 3 + 1)]⟩) := by rw [HMT.out, if_pos hm]; rfl
        generalize hlsv : [(1 + pk rw' 400, 1 + pk rn 3), (1 + pk rw' 400 + 1 + pk rm 100, 1 + pk rn 3 + 1)] = lsv at *
        generalize hW2 : w1.setCell ⟨wr.heap.size + 1, 2, none⟩ (.slice va 2 vcap) = W2 at *
        clear hW2 how hgr LS HB1 HT1 HB0 HR0 HT0 HL0 hs0 t2 t2f r4 HOLD HNEW HONE HI e2 e3 e4 hlsv
        have hz3 : wr.heap.size + 1 < W2.heap.size := HT2.out.lt
        obtain ⟨es, o1, ol, orr⟩ := HO.out.below HB2.out
        have C2 := HC.out.later HB2.out (by omega)
        have A2 := HA.out.later HB2.out (by omega)
        have hel : es.length ≤ 6 := by rw [ol, List.length_map, List.length_take]; omega
        have c5 : W2.cell? ⟨w.heap.size + 1, 5, none⟩ = some tv := C2.cell 5
        have t0 : W2.cell? ⟨wr.heap.size + 1, 0, none⟩ = some (.int .i64 (1 + pk rc 50)) := HT2.out.cell 0
        have t1 : W2.cell? ⟨wr.heap.size + 1, 1, none⟩ = some (.int .i64 (1 + pk rd 400)) := HT2.out.cell 1
        have t2 : W2.cell? ⟨wr.heap.size + 1, 2, none⟩ = some (.slice va 2 vcap) := HT2.out.cell 2
        have HO1 := hide o1
        have HOL := hide ol
        have HORR := hide orr
        have HC2 := hide C2
        have HA2 := hide A2
        have HW2 := hide (HBE.out.trans (HB2.out.mono (by omega)))
        obtain ⟨i0, hi, hz0, hzs, hzb⟩ := info_parts info_task
        have HI := hide (And.intro hi (And.intro hz0 (And.intro hzs hzb)))
        clear hi hz0 hzs hzb o1 ol orr C2 A2
        go_wp2_with (at_builtin; go_must (refine wpList_append_own _ rfl _ _ 24 rfl w.heap.size 61 i0 (.agg #[.int .i64 0, .int .i64 0, .slice none 0 0]) 3 40 Try.underlying24 HI.out.1 HI.out.2.1 HI.out.2.2.1 HI.out.2.2.2 rfl (by decide) tv es.length (flat3 es) rfl (HO1.out.alloc _) ⟨W2.heap.size, 0, none⟩ 1 1 [.int .i64 (1 + pk rc 50), .int .i64 (1 + pk rd 400), .slice va 2 vcap] rfl rfl ?_ ?_ ?_ ?_ ?_ ?_))
        · exact fun j u hj => Blk.at (Blk.new W2 _ _) hj
        · intro u hu; simp at hu; rcases hu with rfl | rfl | rfl <;> rfl
        · unfold maxLen; omega
        · omega
        · simp; omega
        intro v3 w3 ho3 hg3 _
        have hk3 := KeepBut.grown hg3 (HO1.out.alloc _) (Nat.le_refl _)
        have HK3 := hide hk3
        have hbn : Below W2.heap.size W2 (W2.alloc (.cells #[.int .i64 (1 + pk rc 50), .int .i64 (1 + pk rd 400), .slice va 2 vcap] 61)) := (Below.refl _ _).alloc (Nat.le_refl _) _
        have OT := OwnT.grown (e := (1 + pk rc 50, 1 + pk rd 400, .slice va 2 vcap)) (t := ⟨1 + pk rc 50, 1 + pk rd 400, lsv⟩) (ts := (rs.take k).map (mkTask false)) (HO1.out.alloc _) HOL.out (fun i e t h1 h2 => (HORR.out i e t h1 h2).below hbn) ⟨rfl, rfl, owns_below HLS.out hbn⟩ ho3 hg3
        have C3 := (HC2.out.alloc (.cells #[.int .i64 (1 + pk rc 50), .int .i64 (1 + pk rd 400), .slice va 2 vcap] 61)).kept hk3 (by decide)
        have A3 := (HA2.out.alloc (.cells #[.int .i64 (1 + pk rc 50), .int .i64 (1 + pk rd 400), .slice va 2 vcap] 61)).kept hk3 (by decide)
        obtain ⟨va3, vcap3, rfl⟩ := owns_slice ho3
        have c5' : w3.cell? ⟨w.heap.size + 1, 5, none⟩ = some tv := C3.cell 5
        have c5f := C3.free 5
        have HOT := hide OT
        have HC3 := hide C3
        have HA3 := hide A3
        have HW3 := hide ((HW2.out.trans (hbn.mono (by omega))).trans (hk3.below (by simp; omega)))
        clear ho3 hg3 hk3 hbn OT C3 A3 c5 t0 t1 t2
        go_wp2
        go_roundw
        case rel =>
          refine ⟨k + 1, _, by go_num, by omega, by omega, HW3.out.setCell (by simp) _, HA3.out.other (by simp) _, HC3.out.set 5 _, ?_⟩
          rw [HT.out, List.map_append, List.map_cons, List.map_nil, HTK.out]
          exact HOT.out.other HC3.out (by decide) (by decide)
        case measure => simp [intOf]; omega
      · have wc5 : wr.cell? ⟨w.heap.size + 1, 5, none⟩ = some tv := HC.out.cell 5
        have HB0 : Hid (Below wr.heap.size wr (((wr.alloc (.cells #[.int .i64 rc, .int .i64 rd, .int .i64 rw', .int .i64 rn, .int .i64 rm] 72)).alloc (.cells #[.int .i64 (1 + pk rc 50), .int .i64 (1 + pk rd 400), .slice (some ⟨wr.heap.size + 1 + 1, 0, none⟩) 1 1] 61)).alloc (.cells #[.int .i64 (1 + pk rw' 400), .int .i64 (1 + pk rn 3)] 74)).drew) := ((((Below.refl _ _).alloc (Nat.le_refl _) _).alloc (by simp) _).alloc (by simp; omega) _).drew
        have HR0 : Hid (Blk (((wr.alloc (.cells #[.int .i64 rc, .int .i64 rd, .int .i64 rw', .int .i64 rn, .int .i64 rm] 72)).alloc (.cells #[.int .i64 (1 + pk rc 50), .int .i64 (1 + pk rd 400), .slice (some ⟨wr.heap.size + 1 + 1, 0, none⟩) 1 1] 61)).alloc (.cells #[.int .i64 (1 + pk rw' 400), .int .i64 (1 + pk rn 3)] 74)).drew wr.heap.size #[.int .i64 rc, .int .i64 rd, .int .i64 rw', .int .i64 rn, .int .i64 rm] 72) := (((Blk.new _ _ _).alloc _).alloc _).drew
        have HT0 : Hid (Blk (((wr.alloc (.cells #[.int .i64 rc, .int .i64 rd, .int .i64 rw', .int .i64 rn, .int .i64 rm] 72)).alloc (.cells #[.int .i64 (1 + pk rc 50), .int .i64 (1 + pk rd 400), .slice (some ⟨wr.heap.size + 1 + 1, 0, none⟩) 1 1] 61)).alloc (.cells #[.int .i64 (1 + pk rw' 400), .int .i64 (1 + pk rn 3)] 74)).drew (wr.heap.size + 1) #[.int .i64 (1 + pk rc 50), .int .i64 (1 + pk rd 400), .slice (some ⟨wr.heap.size + 1 + 1, 0, none⟩) 1 1] 61) := by
          have := ((Blk.new (wr.alloc (.cells #[.int .i64 rc, .int .i64 rd, .int .i64 rw', .int .i64 rn, .int .i64 rm] 72)) #[.int .i64 (1 + pk rc 50), .int .i64 (1 + pk rd 400), .slice (some ⟨wr.heap.size + 1 + 1, 0, none⟩) 1 1] 61).alloc (.cells #[.int .i64 (1 + pk rw' 400), .int .i64 (1 + pk rn 3)] 74)).drew
          simpa [Hid] using this
        have HL0 : Hid (Blk (((wr.alloc (.cells #[.int .i64 rc, .int .i64 rd, .int .i64 rw', .int .i64 rn, .int .i64 rm] 72)).alloc (.cells #[.int .i64 (1 + pk rc 50), .int .i64 (1 + pk rd 400), .slice (some ⟨wr.heap.size + 1 + 1, 0, none⟩) 1 1] 61)).alloc (.cells #[.int .i64 (1 + pk rw' 400), .int .i64 (1 + pk rn 3)] 74)).drew (wr.heap.size + 1 + 1) #[.int .i64 (1 + pk rw' 400), .int .i64 (1 + pk rn 3)] 74) := by
          have := (Blk.new ((wr.alloc (.cells #[.int .i64 rc, .int .i64 rd, .int .i64 rw', .int .i64 rn, .int .i64 rm] 72)).alloc (.cells #[.int .i64 (1 + pk rc 50), .int .i64 (1 + pk rd 400), .slice (some ⟨wr.heap.size + 1 + 1, 0, none⟩) 1 1] 61)) #[.int .i64 (1 + pk rw' 400), .int .i64 (1 + pk rn 3)] 74).drew
          simpa [Hid] using this
        have hs0 : ((((wr.alloc (.cells #[.int .i64 rc, .int .i64 rd, .int .i64 rw', .int .i64 rn, .int .i64 rm] 72)).alloc (.cells #[.int .i64 (1 + pk rc 50), .int .i64 (1 + pk rd 400), .slice (some ⟨wr.heap.size + 1 + 1, 0, none⟩) 1 1] 61)).alloc (.cells #[.int .i64 (1 + pk rw' 400), .int .i64 (1 + pk rn 3)] 74)).drew).heap.size = wr.heap.size + 3 := by simp
        obtain ⟨W2, hW2⟩ : ∃ W, W = (((wr.alloc (.cells #[.int .i64 rc, .int .i64 rd, .int .i64 rw', .int .i64 rn, .int .i64 rm] 72)).alloc (.cells #[.int .i64 (1 + pk rc 50), .int .i64 (1 + pk rd 400), .slice (some ⟨wr.heap.size + 1 + 1, 0, none⟩) 1 1] 61)).alloc (.cells #[.int .i64 (1 + pk rw' 400), .int .i64 (1 + pk rn 3)] 74)).drew := ⟨_, rfl⟩
        rw [← hW2] at HB0 HR0 HT0 HL0 hs0
        have HB2 := HB0
        have HT2 := HT0
        have HTK : Hid (mkTask false ⟨rc, rd, rw', rn, rm⟩ = ⟨1 + pk rc 50, 1 + pk rd 400, [(1 + pk rw' 400, 1 + pk rn 3)]⟩) := by rw [HMT.out, if_neg hm]; rfl
        have HLS : Hid (OwnL W2 w.heap.size (.slice (some ⟨wr.heap.size + 1 + 1, 0, none⟩) 1 1) [(1 + pk rw' 400, 1 + pk rn 3)]) :=
          ⟨by simp [flat2], .inr ⟨wr.heap.size + 1 + 1, 1, #[.int .i64 (1 + pk rw' 400), .int .i64 (1 + pk rn 3)], rfl, by omega, HL0.out, Nat.le_refl _, by decide, rfl, rfl⟩⟩
        generalize hlsv : [(1 + pk rw' 400, 1 + pk rn 3)] = lsv at *
        have hz3 : wr.heap.size + 1 < W2.heap.size := HT2.out.lt
        obtain ⟨es, o1, ol, orr⟩ := HO.out.below HB2.out
        have C2 := HC.out.later HB2.out (by omega)
        have A2 := HA.out.later HB2.out (by omega)
        have hel : es.length ≤ 6 := by rw [ol, List.length_map, List.length_take]; omega
        have c5 : W2.cell? ⟨w.heap.size + 1, 5, none⟩ = some tv := C2.cell 5
        have t0 : W2.cell? ⟨wr.heap.size + 1, 0, none⟩ = some (.int .i64 (1 + pk rc 50)) := HT2.out.cell 0
        have t1 : W2.cell? ⟨wr.heap.size + 1, 1, none⟩ = some (.int .i64 (1 + pk rd 400)) := HT2.out.cell 1
        have t2 : W2.cell? ⟨wr.heap.size + 1, 2, none⟩ = some (.slice (some ⟨wr.heap.size + 1 + 1, 0, none⟩) 1 1) := HT2.out.cell 2
        have HO1 := hide o1
        have HOL := hide ol
        have HORR := hide orr
        have HC2 := hide C2
        have HA2 := hide A2
        have HW2 := hide (HBE.out.trans (HB2.out.mono (by omega)))
        obtain ⟨i0, hi, hz0, hzs, hzb⟩ := info_parts info_task
        have HI := hide (And.intro hi (And.intro hz0 (And.intro hzs hzb)))
        clear hi hz0 hzs hzb o1 ol orr C2 A2
        have HOX : Hid ((((((wr.alloc (.cells #[.int .i64 rc, .int .i64 rd, .int .i64 rw', .int .i64 rn, .int .i64 rm] 72)).alloc (.cells #[.int .i64 (1 + pk rc 50), .int .i64 (1 + pk rd 400), .slice (some ⟨wr.heap.size + 1 + 1, 0, none⟩) 1 1] 61)).alloc (.cells #[.int .i64 (1 + pk rw' 400), .int .i64 (1 + pk rn 3)] 74)).alloc (.cells #[.int .i64 (1 + pk rc 50), .int .i64 (1 + pk rd 400), .slice (some ⟨wr.heap.size + 1 + 1, 0, none⟩) 1 1] 61)).drew).ownsRow w.heap.size 61 3 tv es.length (flat3 es)) := by
          have := HO1.out.alloc (.cells #[.int .i64 (1 + pk rc 50), .int .i64 (1 + pk rd 400), .slice (some ⟨wr.heap.size + 1 + 1, 0, none⟩) 1 1] 61)
          rw [hW2] at this
          exact this
        have HNX : Hid (∀ (j : Nat) (u : Value), [Value.int .i64 (1 + pk rc 50), .int .i64 (1 + pk rd 400), .slice (some ⟨wr.heap.size + 1 + 1, 0, none⟩) 1 1][j]? = some u → (((((wr.alloc (.cells #[.int .i64 rc, .int .i64 rd, .int .i64 rw', .int .i64 rn, .int .i64 rm] 72)).alloc (.cells #[.int .i64 (1 + pk rc 50), .int .i64 (1 + pk rd 400), .slice (some ⟨wr.heap.size + 1 + 1, 0, none⟩) 1 1] 61)).alloc (.cells #[.int .i64 (1 + pk rw' 400), .int .i64 (1 + pk rn 3)] 74)).alloc (.cells #[.int .i64 (1 + pk rc 50), .int .i64 (1 + pk rd 400), .slice (some ⟨wr.heap.size + 1 + 1, 0, none⟩) 1 1] 61)).drew).cell? ((⟨wr.heap.size + 3, 0, none⟩ : Addr).add j) = some u) := by
          intro j u hj
          have := Blk.at (Blk.new (((wr.alloc (.cells #[.int .i64 rc, .int .i64 rd, .int .i64 rw', .int .i64 rn, .int .i64 rm] 72)).alloc (.cells #[.int .i64 (1 + pk rc 50), .int .i64 (1 + pk rd 400), .slice (some ⟨wr.heap.size + 1 + 1, 0, none⟩) 1 1] 61)).alloc (.cells #[.int .i64 (1 + pk rw' 400), .int .i64 (1 + pk rn 3)] 74)) _ 61) hj
          simpa using this
        have HWX := hide hW2
        clear hW2 c5 t0 t1 t2 HB0 HR0 HT0 HL0
        go_wp2_with (at_builtin; go_must (refine wpList_append_own _ rfl _ _ 24 rfl w.heap.size 61 i0 (.agg #[.int .i64 0, .int .i64 0, .slice none 0 0]) 3 40 Try.underlying24 HI.out.1 HI.out.2.1 HI.out.2.2.1 HI.out.2.2.2 rfl (by decide) tv es.length (flat3 es) rfl HOX.out ⟨wr.heap.size + 3, 0, none⟩ 1 1 [.int .i64 (1 + pk rc 50), .int .i64 (1 + pk rd 400), .slice (some ⟨wr.heap.size + 1 + 1, 0, none⟩) 1 1] rfl rfl ?_ ?_ ?_ ?_ ?_ ?_))
        · exact HNX.out
        · intro u hu; simp at hu; rcases hu with rfl | rfl | rfl <;> rfl
        · unfold maxLen; omega
        · omega
        · simp; omega
        intro v3 w3 ho3 hg3' _
        have hg3 : (W2.alloc (.cells #[.int .i64 (1 + pk rc 50), .int .i64 (1 + pk rd 400), .slice (some ⟨wr.heap.size + 1 + 1, 0, none⟩) 1 1] 61)).grownBy w3 tv.ownBlock := by rw [HWX.out]; exact hg3'
        clear hg3'
        have hk3 := KeepBut.grown hg3 (HO1.out.alloc _) (Nat.le_refl _)
        have HK3 := hide hk3
        have hbn : Below W2.heap.size W2 (W2.alloc (.cells #[.int .i64 (1 + pk rc 50), .int .i64 (1 + pk rd 400), .slice (some ⟨wr.heap.size + 1 + 1, 0, none⟩) 1 1] 61)) := (Below.refl _ _).alloc (Nat.le_refl _) _
        have OT := OwnT.grown (e := (1 + pk rc 50, 1 + pk rd 400, .slice (some ⟨wr.heap.size + 1 + 1, 0, none⟩) 1 1)) (t := ⟨1 + pk rc 50, 1 + pk rd 400, lsv⟩) (ts := (rs.take k).map (mkTask false)) (HO1.out.alloc _) HOL.out (fun i e t h1 h2 => (HORR.out i e t h1 h2).below hbn) ⟨rfl, rfl, owns_below HLS.out hbn⟩ ho3 hg3
        have C3 := (HC2.out.alloc (.cells #[.int .i64 (1 + pk rc 50), .int .i64 (1 + pk rd 400), .slice (some ⟨wr.heap.size + 1 + 1, 0, none⟩) 1 1] 61)).kept hk3 (by decide)
        have A3 := (HA2.out.alloc (.cells #[.int .i64 (1 + pk rc 50), .int .i64 (1 + pk rd 400), .slice (some ⟨wr.heap.size + 1 + 1, 0, none⟩) 1 1] 61)).kept hk3 (by decide)
        obtain ⟨va3, vcap3, rfl⟩ := owns_slice ho3
        have c5' : w3.cell? ⟨w.heap.size + 1, 5, none⟩ = some tv := C3.cell 5
        have c5f := C3.free 5
        have HOT := hide OT
        have HC3 := hide C3
        have HA3 := hide A3
        have HW3 := hide ((HW2.out.trans (hbn.mono (by omega))).trans (hk3.below (by simp; omega)))
        clear ho3 hg3 hk3 hbn OT C3 A3 wc5
        go_wp2
        go_roundw
        case rel =>
          refine ⟨k + 1, _, by go_num, by omega, by omega, HW3.out.setCell (by simp) _, HA3.out.other (by simp) _, HC3.out.set 5 _, ?_⟩
          rw [HT.out, List.map_append, List.map_cons, List.map_nil, HTK.out]
          exact HOT.out.other HC3.out (by decide) (by decide)
        case measure => simp [intOf]; omega
    · have HO' := HO.out
      obtain ⟨es, o1, ol, orr⟩ := HO.out
      obtain ⟨ta, tcap, rfl⟩ := owns_slice o1
      have hek : es.length = k := by rw [ol, List.length_map, List.length_take, HN.out]; omega
      rw [hek] at HC HO'
      have HO2 := hide HO'
      clear o1 ol orr hek HO HO'
      have ac0 : wr.cell? ⟨w.heap.size, 0, none⟩ = some (.int .i64 0) := HA.out.cell 0
      have af0 := HA.out.free 0
      have ac1 : wr.cell? ⟨w.heap.size, 1, none⟩ = some (.int .i64 0) := HA.out.cell 1
      have af1 := HA.out.free 1
      have ac2 : wr.cell? ⟨w.heap.size, 2, none⟩ = some (.int .i64 0) := HA.out.cell 2
      have af2 := HA.out.free 2
      have ac3 : wr.cell? ⟨w.heap.size, 3, none⟩ = some (.int .i64 0) := HA.out.cell 3
      have af3 := HA.out.free 3
      have ac4 : wr.cell? ⟨w.heap.size, 4, none⟩ = some (.int .i64 0) := HA.out.cell 4
      have af4 := HA.out.free 4
      have ac5 : wr.cell? ⟨w.heap.size, 5, none⟩ = some (.slice none 0 0) := HA.out.cell 5
      have af5 := HA.out.free 5
      have cc0 : wr.cell? ⟨w.heap.size + 1, 0, none⟩ = some (.int .i64 x1) := HC.out.cell 0
      have cc1 : wr.cell? ⟨w.heap.size + 1, 1, none⟩ = some (.int .i64 x2) := HC.out.cell 1
      have cc2 : wr.cell? ⟨w.heap.size + 1, 2, none⟩ = some (.int .i64 x3) := HC.out.cell 2
      have cc3 : wr.cell? ⟨w.heap.size + 1, 3, none⟩ = some (.int .i64 x4) := HC.out.cell 3
      have cc4 : wr.cell? ⟨w.heap.size + 1, 4, none⟩ = some (.int .i64 x5) := HC.out.cell 4
      have cc5 : wr.cell? ⟨w.heap.size + 1, 5, none⟩ = some (.slice ta k tcap) := HC.out.cell 5
      have cf5 := HC.out.free 5
      by_cases hk0 : k = 0
      · subst hk0
        have hn0 : n = 0 := by omega
        subst hn0
        have hrs : rs = [] := List.eq_nil_of_length_eq_zero HN.out
        subst hrs
        clear hlt hlen hk hk6
        repeat (first | go_values | go_skip | go_guarded | go_step | go_upon)
        have hsz : ((((((((wr.setCell ⟨w.heap.size + 1, 5, none⟩ (.slice (some ⟨wr.heap.size + 1, 0, none⟩) 1 1)).setCell ⟨w.heap.size, 0, none⟩ (.int .i64 x1)).setCell ⟨w.heap.size, 1, none⟩ (.int .i64 x2)).setCell ⟨w.heap.size, 2, none⟩ (.int .i64 x3)).setCell ⟨w.heap.size, 3, none⟩ (.int .i64 x4)).setCell ⟨w.heap.size, 4, none⟩ (.int .i64 x5)).setCell ⟨w.heap.size, 5, none⟩ (.slice (some ⟨wr.heap.size + 1, 0, none⟩) 1 1))).heap.size = wr.heap.size := by simp
        have BL : Blk ((((((((((wr.setCell ⟨w.heap.size + 1, 5, none⟩ (.slice (some ⟨wr.heap.size + 1, 0, none⟩) 1 1)).setCell ⟨w.heap.size, 0, none⟩ (.int .i64 x1)).setCell ⟨w.heap.size, 1, none⟩ (.int .i64 x2)).setCell ⟨w.heap.size, 2, none⟩ (.int .i64 x3)).setCell ⟨w.heap.size, 3, none⟩ (.int .i64 x4)).setCell ⟨w.heap.size, 4, none⟩ (.int .i64 x5)).setCell ⟨w.heap.size, 5, none⟩ (.slice (some ⟨wr.heap.size + 1, 0, none⟩) 1 1))).alloc (.cells #[.int .i64 20, .int .i64 1] 74)).alloc (.cells #[.int .i64 5, .int .i64 30, .slice (some ⟨wr.heap.size, 0, none⟩) 1 1] 61)) wr.heap.size #[.int .i64 20, .int .i64 1] 74 := by
          have := (Blk.new ((((((((wr.setCell ⟨w.heap.size + 1, 5, none⟩ (.slice (some ⟨wr.heap.size + 1, 0, none⟩) 1 1)).setCell ⟨w.heap.size, 0, none⟩ (.int .i64 x1)).setCell ⟨w.heap.size, 1, none⟩ (.int .i64 x2)).setCell ⟨w.heap.size, 2, none⟩ (.int .i64 x3)).setCell ⟨w.heap.size, 3, none⟩ (.int .i64 x4)).setCell ⟨w.heap.size, 4, none⟩ (.int .i64 x5)).setCell ⟨w.heap.size, 5, none⟩ (.slice (some ⟨wr.heap.size + 1, 0, none⟩) 1 1))) #[.int .i64 20, .int .i64 1] 74).alloc (.cells #[.int .i64 5, .int .i64 30, .slice (some ⟨wr.heap.size, 0, none⟩) 1 1] 61)
          rw [hsz] at this
          exact this
        have BT : Blk ((((((((((wr.setCell ⟨w.heap.size + 1, 5, none⟩ (.slice (some ⟨wr.heap.size + 1, 0, none⟩) 1 1)).setCell ⟨w.heap.size, 0, none⟩ (.int .i64 x1)).setCell ⟨w.heap.size, 1, none⟩ (.int .i64 x2)).setCell ⟨w.heap.size, 2, none⟩ (.int .i64 x3)).setCell ⟨w.heap.size, 3, none⟩ (.int .i64 x4)).setCell ⟨w.heap.size, 4, none⟩ (.int .i64 x5)).setCell ⟨w.heap.size, 5, none⟩ (.slice (some ⟨wr.heap.size + 1, 0, none⟩) 1 1))).alloc (.cells #[.int .i64 20, .int .i64 1] 74)).alloc (.cells #[.int .i64 5, .int .i64 30, .slice (some ⟨wr.heap.size, 0, none⟩) 1 1] 61)) (wr.heap.size + 1) #[.int .i64 5, .int .i64 30, .slice (some ⟨wr.heap.size, 0, none⟩) 1 1] 61 := by
          have := Blk.new (((((((((wr.setCell ⟨w.heap.size + 1, 5, none⟩ (.slice (some ⟨wr.heap.size + 1, 0, none⟩) 1 1)).setCell ⟨w.heap.size, 0, none⟩ (.int .i64 x1)).setCell ⟨w.heap.size, 1, none⟩ (.int .i64 x2)).setCell ⟨w.heap.size, 2, none⟩ (.int .i64 x3)).setCell ⟨w.heap.size, 3, none⟩ (.int .i64 x4)).setCell ⟨w.heap.size, 4, none⟩ (.int .i64 x5)).setCell ⟨w.heap.size, 5, none⟩ (.slice (some ⟨wr.heap.size + 1, 0, none⟩) 1 1))).alloc (.cells #[.int .i64 20, .int .i64 1] 74)) #[.int .i64 5, .int .i64 30, .slice (some ⟨wr.heap.size, 0, none⟩) 1 1] 61
          rw [World.size_alloc, hsz] at this
          exact this
        have HF := (((((((HA.out.other (a := ⟨w.heap.size + 1, 5, none⟩) (by simp) (.slice (some ⟨wr.heap.size + 1, 0, none⟩) 1 1)).set 0 (.int .i64 x1)).set 1 (.int .i64 x2)).set 2 (.int .i64 x3)).set 3 (.int .i64 x4)).set 4 (.int .i64 x5)).set 5 (.slice (some ⟨wr.heap.size + 1, 0, none⟩) 1 1)).alloc (.cells #[.int .i64 20, .int .i64 1] 74) |>.alloc (.cells #[.int .i64 5, .int .i64 30, .slice (some ⟨wr.heap.size, 0, none⟩) 1 1] 61)
        have HF0 := HF.cell 0
        have HF1 := HF.cell 1
        have HF2 := HF.cell 2
        have HF3 := HF.cell 3
        have HF4 := HF.cell 4
        have HF5 := HF.cell 5
        simp at HF0 HF1 HF2 HF3 HF4 HF5
        refine bodyPost_ret (v := .agg #[.int .i64 x1, .int .i64 x2, .int .i64 x3, .int .i64 x4, .int .i64 x5, (.slice (some ⟨wr.heap.size + 1, 0, none⟩) 1 1)]) (by simp [results, Try.results8, go_sem, HF0, HF1, HF2, HF3, HF4, HF5]) rfl ⟨_, rfl, ?_, ?_⟩
        · rw [HMK.out]
          refine ⟨_, rfl, _, _, rfl, .inr ⟨wr.heap.size + 1, 0, rfl, BT.lt, fun i t hi => ?_⟩⟩
          have hi0 : i = 0 := by have := lt_of_get hi; simp [mkTasks] at this; omega
          subst hi0
          simp [mkTasks] at hi
          subst hi
          refine ⟨BT.cell 0, BT.cell 1, _, BT.cell 2, _, _, rfl, .inr ⟨wr.heap.size, 0, rfl, BL.lt, fun j l hj => ?_⟩⟩
          have hj0 : j = 0 := by have := lt_of_get hj; simp at this; omega
          subst hj0
          simp at hj
          subst hj
          exact ⟨BL.cell 0, BL.cell 1⟩
        · exact ((((((((HBE.out.setCell (by simp) _).setCell (Nat.le_refl _) _).setCell (Nat.le_refl _) _).setCell (Nat.le_refl _) _).setCell (Nat.le_refl _) _).setCell (Nat.le_refl _) _).setCell (Nat.le_refl _) _).alloc (by rw [hsz]; omega) _).alloc (by rw [World.size_alloc, hsz]; omega) _
      · have hkz : ((k : Int) == 0) = false := by simp; omega
        have HE : Hid (mkTasks false rs = (rs.take k).map (mkTask false)) := by
          have h0 : rs ≠ [] := by intro h; rw [h] at HN; have := HN.out; simp at this; omega
          have h1 : rs.take 6 = rs.take k := by
            by_cases hk66 : k = 6
            · rw [hk66]
            · rw [List.take_of_length_le (by rw [HN.out]; omega), List.take_of_length_le (by rw [HN.out]; omega)]
          simp only [Hid, mkTasks, if_neg h0, h1]
        by_cases hkn : k < n
        · have hk6' : k = 6 := by omega
          subst hk6'
          repeat (first | go_values | go_skip | go_guarded | go_step | go_upon)
          have HF := ((((((HA.out.set 0 (.int .i64 x1)).set 1 (.int .i64 x2)).set 2 (.int .i64 x3)).set 3 (.int .i64 x4)).set 4 (.int .i64 x5)).set 5 (.slice ta 6 tcap))
          have HF0 := HF.cell 0
          have HF1 := HF.cell 1
          have HF2 := HF.cell 2
          have HF3 := HF.cell 3
          have HF4 := HF.cell 4
          have HF5 := HF.cell 5
          simp at HF0 HF1 HF2 HF3 HF4 HF5
          refine bodyPost_ret (v := .agg #[.int .i64 x1, .int .i64 x2, .int .i64 x3, .int .i64 x4, .int .i64 x5, (.slice ta 6 tcap)]) (by simp [results, Try.results8, go_sem, HF0, HF1, HF2, HF3, HF4, HF5]) rfl ⟨_, rfl, ?_, ?_⟩
          · rw [HMK.out, HE.out]
            have A0 := HA.out
            have A1 := A0.set 0 (.int .i64 x1)
            have A2 := A1.set 1 (.int .i64 x2)
            have A3 := A2.set 2 (.int .i64 x3)
            have A4 := A3.set 3 (.int .i64 x4)
            have A5 := A4.set 4 (.int .i64 x5)
            exact ⟨_, rfl, ((((((HO2.out.other A0 (by decide) (by decide)).other A1 (by decide) (by decide)).other A2 (by decide) (by decide)).other A3 (by decide) (by decide)).other A4 (by decide) (by decide)).other A5 (by decide) (by decide)).tasks⟩
          · exact ((((((HBE.out.setCell (Nat.le_refl _) _).setCell (Nat.le_refl _) _).setCell (Nat.le_refl _) _).setCell (Nat.le_refl _) _).setCell (Nat.le_refl _) _).setCell (Nat.le_refl _) _)
        · repeat (first | go_values | go_skip | go_guarded | go_step | go_upon)
          have HF := ((((((HA.out.set 0 (.int .i64 x1)).set 1 (.int .i64 x2)).set 2 (.int .i64 x3)).set 3 (.int .i64 x4)).set 4 (.int .i64 x5)).set 5 (.slice ta k tcap))
          have HF0 := HF.cell 0
          have HF1 := HF.cell 1
          have HF2 := HF.cell 2
          have HF3 := HF.cell 3
          have HF4 := HF.cell 4
          have HF5 := HF.cell 5
          simp at HF0 HF1 HF2 HF3 HF4 HF5
          refine bodyPost_ret (v := .agg #[.int .i64 x1, .int .i64 x2, .int .i64 x3, .int .i64 x4, .int .i64 x5, (.slice ta k tcap)]) (by simp [results, Try.results8, go_sem, HF0, HF1, HF2, HF3, HF4, HF5]) rfl ⟨_, rfl, ?_, ?_⟩
          · rw [HMK.out, HE.out]
            have A0 := HA.out
            have A1 := A0.set 0 (.int .i64 x1)
            have A2 := A1.set 1 (.int .i64 x2)
            have A3 := A2.set 2 (.int .i64 x3)
            have A4 := A3.set 3 (.int .i64 x4)
            have A5 := A4.set 4 (.int .i64 x5)
            exact ⟨_, rfl, ((((((HO2.out.other A0 (by decide) (by decide)).other A1 (by decide) (by decide)).other A2 (by decide) (by decide)).other A3 (by decide) (by decide)).other A4 (by decide) (by decide)).other A5 (by decide) (by decide)).tasks⟩
          · exact ((((((HBE.out.setCell (Nat.le_refl _) _).setCell (Nat.le_refl _) _).setCell (Nat.le_refl _) _).setCell (Nat.le_refl _) _).setCell (Nat.le_refl _) _).setCell (Nat.le_refl _) _)

end Go.Proofs.Ythloffgebebijaa
