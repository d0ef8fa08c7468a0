/- RndF: the walks of package rounds' Feed and Counts. -/
import Derived.Test.YthloffgebebijaaGreatRndE
namespace Go.Proofs.YthloffgebebijaaGreat
open Go.RowKit

theorem BytV.mono {w : World} {S S' : Nat → Prop} {v : Value} {bs : List Int} (h : BytV w S v bs) (hs : ∀ k, S' k → S k) : BytV w S' v bs := by
  obtain ⟨a, cap, hv, hc, h⟩ := h
  exact ⟨a, cap, hv, hc, h.imp id fun ⟨b, o, h1, h2, h3, h4⟩ => ⟨b, o, h1, h2, fun e => h3 (hs b e), h4⟩⟩
theorem BytV.fr {w w' : World} {S X : Nat → Prop} {v : Value} {bs : List Int} (h : BytV w S v bs) (hf : Fr X w w') (hs : ∀ k, X k → S k) : BytV w' S v bs := by
  obtain ⟨a, cap, hv, hc, h⟩ := h
  have hz := hf.size
  exact ⟨a, cap, hv, hc, h.imp id fun ⟨b, o, h1, h2, h3, h4⟩ => ⟨b, o, h1, by omega, h3, fun i x hi => (hf.cell (p := ⟨b, o + i, none⟩) h2 (fun e => h3 (hs b e))).trans (h4 i x hi)⟩⟩

theorem xcs_fed (mu : Int) (dv lv qv : Value) (c : Cfg) (fed fed' clock : Int) (ct : Ct) : (xcs mu dv lv qv c fed clock ct).setIfInBounds 9 (.int .i64 fed') = xcs mu dv lv qv c fed' clock ct := rfl
theorem CoreP.feds {w : World} {base X : Nat} {mu : Int} {dv lv qv : Value} {hs : List Jb} {c : Cfg} {fed fed' clock : Int} {ct : Ct} (h : CoreP w base X mu dv lv qv hs c fed clock ct) : CoreP (w.setCell ⟨X, 9, none⟩ (.int .i64 fed')) base X mu dv lv qv hs c fed' clock ct := by
  have hd : dv.ownBlock ≠ some X := ownsRow_ne_blk h.d h.q.blk (by decide)
  exact ⟨⟨xcs_fed mu dv lv qv c fed fed' clock ct ▸ h.q.blk.set 9 _, rfl, h.q.row.same fun k e => heap_setCell_other w ⟨X, 9, none⟩ k _ (fun e' => h.q.ne (by rw [e, e'])), h.q.ne, h.q.heap⟩, ownsRow_same h.d fun k e => heap_setCell_other w ⟨X, 9, none⟩ k _ (fun e' => hd (by rw [e, e']))⟩

/-- What a call leaves of the executive. -/
structure LeftP (w w' : World) (S : Nat → Prop) (base X : Nat) (mu : Int) (x : Exs) (dv : Value) (L : Nat) : Prop where
  ex : ∃ qv vs hs, ExecP w' (fun k => S k ∨ w.heap.size ≤ k) base X mu x dv qv L vs hs
  fr : Fr S w w'

set_option maxRecDepth 100000 in
set_option maxHeartbeats 3200000 in
theorem sFeed_any (S : Nat → Prop) (base X L : Nat) (mu N n t : Int) (x : Exs) (dv qv bv : Value) (vs : List Value) (hs : List Jb) (bs : List Int) (w : World)
    (h : ExecP w S base X mu x dv qv L vs hs) (hb : BytV w S bv bs) (hbl : bs.length ≤ 140737488355328) (hbase : base ≤ w.heap.size) (hi : ExIn x N) :
    Calls Tryz.prog 70 #[.pointer (some ⟨X, 2, none⟩), .int .i64 n, .int .i64 t, bv] w fun e w' => e = .returned (.int .i64 (exFeed x n t bs).2) ∧ LeftP w w' S base X mu (exFeed x n t bs).1 dv L := by
  have HX := hide h
  have HI := hide hi
  have hnl := hi.nl
  obtain ⟨⟨c1, c2⟩, -⟩ := cfgNum hi.cfg
  have hX := h.core.q.blk.lt
  have d7 : w.cell? ⟨X, 7, none⟩ = some (.slice (some ⟨L, 0, none⟩) x.lines.length x.lines.length) := h.core.q.blk.cell 7
  have d9 : w.cell? ⟨X, 9, none⟩ = some (.int .i64 x.fed) := h.core.q.blk.cell 9
  have d10 : w.cell? ⟨X, 10, none⟩ = some (.int .i64 x.clock) := h.core.q.blk.cell 10
  have z9 := h.core.q.blk.free 9
  have HNO : Hid (ExecP w (fun k => S k ∨ w.heap.size ≤ k) base X mu x dv qv L vs hs) := h.mono fun _ _ hk => .inl hk
  clear h hi
  by_cases h0 : n < 0
  · have HE : Hid (exFeed x n t bs = (x, 3)) := by rw [Hid, exFeed, if_neg (by omega)]
    rw [HE.out]
    go_enter Tryz.func70, Tryz.ntmps70
    go_wp2
    go_ret
    exact ⟨rfl, ⟨qv, vs, hs, HNO.out⟩, Fr.refl _ _⟩
  · have h0d : decide (n < 0) = false := by simp; omega
    by_cases h1 : (x.lines.length : Int) ≤ n
    · have HE : Hid (exFeed x n t bs = (x, 3)) := by rw [Hid, exFeed, if_neg (by omega)]
      rw [HE.out]
      go_enter Tryz.func70, Tryz.ntmps70
      go_wp2
      go_ret
      exact ⟨rfl, ⟨qv, vs, hs, HNO.out⟩, Fr.refl _ _⟩
    · have h1d : decide ((x.lines.length : Int) ≤ n) = false := by simp; omega
      by_cases h2 : t < x.clock ∨ t < x.fed ∨ 1000 ≤ t
      · have HE : Hid (exFeed x n t bs = (x, 4)) := by rw [Hid, exFeed, if_pos (by omega), if_pos h2]
        rw [HE.out]
        by_cases t1 : t < x.clock
        · go_enter Tryz.func70, Tryz.ntmps70
          go_wp2
          go_ret
          exact ⟨rfl, ⟨qv, vs, hs, HNO.out⟩, Fr.refl _ _⟩
        · have t1d : decide (t < x.clock) = false := by simp; omega
          by_cases t2 : t < x.fed
          · go_enter Tryz.func70, Tryz.ntmps70
            go_wp2
            go_ret
            exact ⟨rfl, ⟨qv, vs, hs, HNO.out⟩, Fr.refl _ _⟩
          · have t2d : decide (t < x.fed) = false := by simp; omega
            have t3 : 1000 ≤ t := by omega
            go_enter Tryz.func70, Tryz.ntmps70
            go_wp2
            go_ret
            exact ⟨rfl, ⟨qv, vs, hs, HNO.out⟩, Fr.refl _ _⟩
      · obtain ⟨q, rfl⟩ : ∃ q : Nat, n = (q : Int) := ⟨n.toNat, by omega⟩
        have hql : q < x.lines.length := by omega
        have hqi : (q : Int) < (x.lines.length : Int) := by omega
        have t1 : ¬ t < x.clock := by omega
        have t2 : ¬ t < x.fed := by omega
        have t3 : ¬ 1000 ≤ t := by omega
        have t1d : decide (t < x.clock) = false := by simp; omega
        have t2d : decide (t < x.fed) = false := by simp; omega
        have t3d : decide (1000 ≤ t) = false := by simp; omega
        obtain ⟨l, hl⟩ := get_of_lt hql
        have hgd : x.lines.getD q [] = l := by rw [List.getD_eq_getElem?_getD, hl]; rfl
        have HE : Hid (exFeed x q t bs = ({ x with lines := x.lines.set q (lineFeed t l bs).1, fed := t, ct := { x.ct with spilled := IntKind.i64.wrap (x.ct.spilled + (lineFeed t l bs).2) } }, 0)) := by
          rw [Hid, exFeed, if_pos (by omega), if_neg h2]
          simp only [Int.toNat_natCast, hgd]
        have hlv : q < vs.length := by rw [HX.out.lines.len]; exact hql
        obtain ⟨v, hv⟩ := get_of_lt hlv
        have hK1 : CoreP (w.setCell ⟨X, 9, none⟩ (.int .i64 t)) base X mu dv (.slice (some ⟨L, 0, none⟩) x.lines.length x.lines.length) qv hs x.cfg t x.clock x.ct := HX.out.core.feds
        have hL1 : LinesP (w.setCell ⟨X, 9, none⟩ (.int .i64 t)) base L vs x.lines := HX.out.lines.same fun k hk => heap_setCell_other _ ⟨X, 9, none⟩ k _ (fun e => HX.out.lines.off HX.out.core.q.blk (by decide) (by decide) (show X = L ∨ _ by simp only at e; subst e; exact hk))
        have hF1 : Fr S w (w.setCell ⟨X, 9, none⟩ (.int .i64 t)) := Fr.set w X 9 _ HX.out.sx
        have hB1 : BytV (w.setCell ⟨X, 9, none⟩ (.int .i64 t)) S bv bs := hb.fr hF1 fun _ e => e
        have hLn := HI.out.ln l (List.mem_of_getElem? hl)
        have hrow := hL1.row q v l hv hl
        have HLF := hide (fun (w1 : World) (h1 : w1.heap = (w.setCell ⟨X, 9, none⟩ (.int .i64 t)).heap) (hbw : BytV w1 S bv bs) => lFeed_any (fun k => k = L ∨ v.ownBlock = some k) base L q vs.toArray 163 v l t bv bs w1 (show w1.heap[L]? = _ by rw [h1]; exact hL1.blk) (by simpa using hv) (hrow.same fun k _ => by rw [h1]) (ownsRow_ne_blk hrow hL1.blk (by decide)) (.inl rfl) (fun k e => .inr e) hLn.len (hbw.mono (by
          rintro k (rfl | e)
          · exact HX.out.sl
          · exact HX.out.sv k v (List.mem_of_getElem? hv) e)) (by omega) (by rw [h1]; simpa using hbase))
        have hlr := (lineFeed_eq t bs l 0 hLn.len)
        have hlf0 : lineFeed t l bs = bs.foldl (lineAdd t) (l, 0) := rfl
        rw [← hlf0] at hlr
        have hsp : (lineFeed t l bs).2 = ((bs.length - (32 - l.length) : Nat) : Int) := by rw [hlr]; simp
        have HFD := hide (HLF.out (w.setCell ⟨X, 9, none⟩ (.int .i64 t)).drew rfl (hB1.fr ((Fr.refl S _).drew) fun _ e => e))
        obtain ⟨ba, bc, hbve⟩ : ∃ ba bc, bv = .slice ba bs.length bc := by
          obtain ⟨a, cap, hv, _⟩ := hb
          exact ⟨a, cap, hv⟩
        generalize hSP : (lineFeed t l bs).2 = sp at *
        generalize hL' : (lineFeed t l bs).1 = l' at *
        have hsp0 : 0 ≤ sp := by omega
        have hsp1 : sp ≤ bs.length := by omega
        clear hsp
        have HSP : Hid (∀ k, k = L ∨ v.ownBlock = some k → k ≠ X) := fun k hk e => by
          subst e
          exact hL1.off hK1.q.blk (by decide) (by decide) (hk.imp id fun e => ⟨v, List.mem_of_getElem? hv, e⟩)
        have HK1 := hide hK1
        have HL1 := hide hL1
        have HF1 := hide hF1
        have HV := hide hv
        obtain ⟨W, hwr⟩ : ∃ W, IntKind.i64.wrap (x.ct.spilled + sp) = W := ⟨_, rfl⟩
        rw [hwr] at HE
        have d17 : (w.setCell ⟨X, 9, none⟩ (.int .i64 t)).cell? ⟨X, 17, none⟩ = some (.int .i64 x.ct.spilled) := hK1.q.blk.cell 17
        have z17 := hK1.q.blk.free 17
        have hXs : X < (w.setCell ⟨X, 9, none⟩ (.int .i64 t)).heap.size := by simpa using hX
        have e7 : (w.setCell ⟨X, 9, none⟩ (.int .i64 t)).cell? ⟨X, 7, none⟩ = some (.slice (some ⟨L, 0, none⟩) x.lines.length x.lines.length) := hK1.q.blk.cell 7
        have hLlt := hL1.blk.lt
        rw [HE.out]
        generalize hNL : x.lines.length = nl at *
        have HNL := hide hNL
        have hnl4 : nl ≤ 4 := by omega
        clear hnl hK1 hL1 hF1 hv hb hB1 hrow HLF hlr hlf0 hSP hL' hgd hNL
        subst hbve
        obtain ⟨F, hF⟩ : ∃ F : World → Prop, F = (fun (z : World) => ∃ v', Blk z L (vs.toArray.setIfInBounds q v') 163 ∧ FedP z base v' l' ∧ Fr (fun k => k = L ∨ v.ownBlock = some k) (w.setCell ⟨X, 9, none⟩ (.int .i64 t)).drew z ∧ (v'.ownBlock = v.ownBlock ∨ ∃ k, v'.ownBlock = some k ∧ (w.setCell ⟨X, 9, none⟩ (.int .i64 t)).drew.heap.size ≤ k)) := ⟨_, rfl⟩
        have HFF := hide hF
        have HGO : Hid (∀ z v', Blk z L (vs.toArray.setIfInBounds q v') 163 ∧ FedP z base v' l' ∧ Fr (fun k => k = L ∨ v.ownBlock = some k) (w.setCell ⟨X, 9, none⟩ (.int .i64 t)).drew z ∧ (v'.ownBlock = v.ownBlock ∨ ∃ k, v'.ownBlock = some k ∧ (w.setCell ⟨X, 9, none⟩ (.int .i64 t)).drew.heap.size ≤ k) → F z ∧ z.cell? ⟨X, 17, none⟩ = some (.int .i64 x.ct.spilled) ∧ z.frozen? ⟨X, 17, none⟩ = false) := fun z v' hh => by
          have hbk : Blk z X _ _ := (hh.2.2.1.block X hXs (fun e => HSP.out X e rfl)).trans HK1.out.q.blk
          exact ⟨HFF.out ▸ ⟨v', hh⟩, hbk.cell 17, hbk.free 17⟩
        clear hF
        go_enter Tryz.func70, Tryz.ntmps70
        go_wp2_with fail
        apply wp_someW F
        case h =>
          go_region_with (first
            | (go_at_call 88; refine HFD.out.mono ?_; rintro e z ⟨rfl, v', hh⟩; obtain ⟨hFz, g17, y17⟩ := HGO.out z v' hh; clear hh))
          all_goals exact ⟨z, hFz, rfl, rfl⟩
        intro z hz
        rw [HFF.out] at hz
        obtain ⟨v', b2, j2, f2, o2⟩ := hz
        have hzs : (w.setCell ⟨X, 9, none⟩ (.int .i64 t)).drew.heap.size = w.heap.size := by simp
        rw [hzs] at o2
        have hK2 : CoreP z base X mu dv (.slice (some ⟨L, 0, none⟩) nl nl) qv hs x.cfg t x.clock x.ct := HK1.out.same fun k hk => f2.block k (by
            rcases hk with rfl | e | e
            · exact HK1.out.q.blk.lt
            · exact (ownsRow_lt HK1.out.q.row e).2
            · exact (ownsRow_lt HK1.out.d e).2) (fun hh => by
            have hh' : k = L ∨ ∃ v ∈ vs, v.ownBlock = some k := hh.imp id fun e => ⟨v, List.mem_of_getElem? HV.out, e⟩
            rcases hk with rfl | e | e
            · exact HSP.out k hh rfl
            · exact HL1.out.offRow HK1.out.q.row (by decide) (by decide) e hh'
            · exact HL1.out.offRow HK1.out.d (by decide) (by decide) e hh')
        have hL2 : LinesP z base L (vs.set q v') (x.lines.set q l') := LinesP.set HL1.out HV.out b2 j2 f2.undrew (o2.imp id fun ⟨k, e, hk⟩ => ⟨k, e, by simpa using hk⟩)
        have hF2 : Fr S w z := HF1.out.drew.trans f2 fun k hk hh => by
          rcases hh with rfl | e
          · exact HX.out.sl
          · exact HX.out.sv k v (List.mem_of_getElem? HV.out) e
        have HK2 := hide hK2
        have HL2 := hide hL2
        have HF2 := hide hF2
        have HO2 := hide o2
        clear hK2 hL2 hF2 b2 j2 f2 o2
        go_wp2
        go_ret
        refine ⟨rfl, ⟨qv, vs.set q v', hs, ?_, HX.out.perm, HL2.out.same fun k hk => heap_setCell_other _ ⟨X, 17, none⟩ k _ (fun e => HL2.out.off HK2.out.q.blk (by decide) (by decide) (show X = L ∨ _ by simp only at e; subst e; exact hk)), .inl HX.out.sx, .inl HX.out.sl, fun k e => .inl (HX.out.sd k e), fun k e => .inl (HX.out.sq k e), fun k u hu e => ?_⟩, HF2.out.trans (Fr.set (X := fun k => k = X) z X 17 _ rfl) fun k _ e => by subst e; exact HX.out.sx⟩
        · simp only [List.length_set]
          rw [HNL.out]
          exact HK2.out.count 17 (.int .i64 W) (clock' := x.clock) (ct' := { x.ct with spilled := W }) rfl
        · rcases List.mem_or_eq_of_mem_set hu with hu | rfl
          · exact .inl (HX.out.sv k u hu e)
          · rcases HO2.out with o | ⟨z', o, hz⟩
            · exact .inl (HX.out.sv k v (List.mem_of_getElem? HV.out) (o ▸ e))
            · rw [o] at e; cases e; exact .inr hz

end Go.Proofs.YthloffgebebijaaGreat
