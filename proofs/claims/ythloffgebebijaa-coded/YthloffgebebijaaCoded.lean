/- Coded: the walk of tillerkeep.Coded: it answers true. -/
import Derived.Test.YthloffgebebijaaMath
import Derived.Test.YthloffgebebijaaDecode
import Derived.Test.YthloffgebebijaaSame
import Derived.Test.YthloffgebebijaaSetB
namespace Go.Proofs.Ythloffgebebijaa
open Go.RowKit

theorem Own8.row {w : World} {base : Nat} {e : TypeId} {v : Value} {bs : List Int} (h : Own8 w base e v bs) (hn : bs ≠ []) : ∃ g cap, v = .slice (some ⟨g, 0, none⟩) bs.length cap ∧ base ≤ g ∧ g < w.heap.size := by
  obtain ⟨_, ho⟩ := h
  rcases ho with ⟨rfl, h0⟩ | ⟨g, cap, cur, rfl, hg, hh, _⟩
  · exact absurd (List.eq_nil_of_length_eq_zero h0) hn
  · exact ⟨g, cap, rfl, hg, lt_of_block hh⟩

/-- Bytes as a string. -/
def str8 (bs : List Int) : ByteArray := bs.foldl (fun r n => r.push (UInt8.ofNat n.toNat)) ByteArray.empty
theorem conv8 {w : World} {B : Nat} {v : Value} {bs : List Int} (h : Rd8 w B v bs) (hn : bs ≠ []) : (convert 23 9 v).run Try.prog w = .ok (.string (str8 bs)) w := by
  obtain ⟨a, cap, rfl, -, h⟩ := h
  rcases h with h | ⟨b, o, rfl, -, hc⟩
  · exact absurd h hn
  rw [run_convert_bytes_string w 23 9 5 _ _ _ Try.underlying23 Try.underlying5 Try.underlying9]
  have hl := run_loadCells_list (P := Try.prog) w ⟨b, o, none⟩ (bs.map (Value.int .u8)) (fun j v hj => by
    rw [List.getElem?_map, Option.map_eq_some_iff] at hj
    obtain ⟨x, hx, rfl⟩ := hj
    have := hc j x hx
    by_cases h0 : j = 0
    · subst h0; simpa [Addr.add] using this
    · simpa [Addr.add, h0] using this)
  rw [List.length_map] at hl
  exact run_bytesToString w _ _ cap bs hl

theorem Tk_lims_le {c : Cfg} (h : cfgOk c = true) : c.tasks.length ≤ 1000 ∧ ∀ t ∈ c.tasks, t.lims.length ≤ 1000 := by
  obtain ⟨_, _, _, _, _, h6, h7⟩ := cfgOk_parts h
  exact ⟨by omega, fun t ht => Nat.le_trans (lims_le (List.all_eq_true.1 h7 t ht)) (by decide)⟩

set_option maxRecDepth 100000 in
set_option maxHeartbeats 1600000 in
theorem coded_true (lines room price place turn : Int) (vr vb : Value) (rs : List Raw5) (bytes : List Int) (B : Nat) (w : World) (h1 : In64 lines) (h2 : In64 room) (h3 : In64 price) (h4 : In64 place) (h5 : In64 turn)
    (hvr : Raws w B vr rs) (hvb : Rd8 w B vb bytes) (hB : B ≤ w.heap.size) (hr : ∀ r ∈ rs, r.fits) (hlen : rs.length ≤ 140737488355328) (hbl : bytes.length ≤ 140737488355328) (hb : AllB bytes) :
    Calls Try.prog 3 #[.int .i64 lines, .int .i64 room, .int .i64 price, vr, .int .i64 place, .int .i64 turn, vb] w fun e w' => e = .returned (.bool true) ∧ Below w.heap.size w w' := by
  have HS := hide (settings_false lines room price vr rs B w h1 h2 h3 hvr hB hr hlen)
  have HOK := hide (mkCfg_ok lines room price rs false)
  generalize mkCfg lines room price rs false = c at *
  have HVB := hide hvb
  have HBB := hide hb
  have HH4 := hide h4
  have HH5 := hide h5
  obtain ⟨ra, rcap, rfl, -⟩ := hvr
  obtain ⟨ba, bcap, rfl, -, -⟩ := hvb
  clear h1 h2 h3 h4 h5 hr hb
  generalize rs.length = rl at *
  have HLEN := hide (cfgBytes_len HOK.out)
  go_enter Try.func3, Try.ntmps3
  go_wp2_with fail
  refine HS.out.mono ?_
  rintro e w1 ⟨v1, rfl, cf1, b1⟩
  have HC1 := hide cf1
  obtain ⟨s1, rfl, t1⟩ := cf1
  obtain ⟨sa, scap, rfl⟩ := t1.slice
  have HB1 := hide b1
  have hz1 := b1.size
  clear t1 b1 HS
  have hb2 : ∀ o, Below w1.heap.size w1 (w1.alloc o) := fun o => (Below.refl _ _).alloc (Nat.le_refl _) _
  have HB2 := hide hb2
  clear hb2
  go_wp2_with fail
  refine (encode_yes w1.heap.size _ c _ (HC1.out.later (HB2.out _) (Nat.le_refl _)) (by simp) HOK.out).mono ?_
  rintro e w3 ⟨ve, rfl, o3, b3⟩
  obtain ⟨g, gcap, rfl, hg, hgl⟩ := o3.row (by intro h; have := HLEN.out; rw [h] at this; simp at this)
  have HO3 := hide o3
  have HB3 := hide b3
  have HX3 := hide ((Blk.new w1 #[.int .i64 c.lines, .int .i64 c.room, .int .i64 c.poll, .int .i64 c.idle, .int .i64 c.sw, .slice sa c.tasks.length scap] 26).later b3 (by simp))
  have hz3 := b3.size
  simp at hz3 hg
  clear o3 b3
  obtain ⟨n, hn⟩ : ∃ n, n = (cfgBytes c).length := ⟨_, rfl⟩
  have hn8 : 8 ≤ n ∧ n ≤ 100 := by rw [hn]; exact HLEN.out
  obtain ⟨hn8, hn9⟩ := hn8
  rw [← hn]
  have HNN := hide hn
  clear hn
  have hnz : ((n : Int) == 0) = false := by simp; omega
  go_wp2_with fail
  have HO3' : Hid (Own8 w3 (w1.heap.size + 1) 5 (.slice (some ⟨g, 0, none⟩) n gcap) (cfgBytes c)) := by rw [HNN.out]; simpa [Hid] using HO3.out
  have HD3 := decode_any w3.heap.size (.slice (some ⟨g, 0, none⟩) n gcap) (cfgBytes c) w3 HO3'.out.rd (Nat.le_refl _) (cfgBytes_allB HOK.out) (by rw [← HNN.out]; omega)
  rw [dec_cfg c HOK.out] at HD3
  have HD3 := hide HD3
  clear HO3
  refine HD3.out.mono ?_
  rintro e w4 ⟨v4, rfl, o4, b4⟩
  have HT4 := hide o4.tasks
  have HB4 := hide b4
  obtain ⟨g4, rfl⟩ := o4.slice
  have HX4 := hide (HX3.out.later b4 (by omega))
  have HO4 := hide (HO3'.out.below b4)
  have hz4 := b4.size
  clear o4 b4 HD3 HX3 HO3'
  have xc0 : w4.cell? ⟨w1.heap.size, 0, none⟩ = some (.int .i64 c.lines) := HX4.out.cell 0
  have xc1 : w4.cell? ⟨w1.heap.size, 1, none⟩ = some (.int .i64 c.room) := HX4.out.cell 1
  have xc2 : w4.cell? ⟨w1.heap.size, 2, none⟩ = some (.int .i64 c.poll) := HX4.out.cell 2
  have xc3 : w4.cell? ⟨w1.heap.size, 3, none⟩ = some (.int .i64 c.idle) := HX4.out.cell 3
  have xc4 : w4.cell? ⟨w1.heap.size, 4, none⟩ = some (.int .i64 c.sw) := HX4.out.cell 4
  have xc5 : w4.cell? ⟨w1.heap.size, 5, none⟩ = some (.slice sa c.tasks.length scap) := HX4.out.cell 5
  have hx14 : w1.heap.size < w4.heap.size := by omega
  go_wp2_with fail
  have hbA : Below w1.heap.size w1 w4 := ((HB2.out _).trans (HB3.out.mono (by simp))).trans (HB4.out.mono (by omega))
  have HBA := hide hbA
  have hb5 : Below w4.heap.size w4 (w4.alloc (.cells #[.int .i64 c.lines, .int .i64 c.room, .int .i64 c.poll, .int .i64 c.idle, .int .i64 c.sw, .slice (some ⟨g4, 0, none⟩) c.tasks.length c.tasks.length] 26)) := (Below.refl _ _).alloc (Nat.le_refl _) _
  have HB5 := hide hb5
  clear hbA hb5
  refine (same_true w4.heap.size _ _ c _ ((HC1.out.later (HBA.out.trans (HB5.out.mono (by omega))) (Nat.le_refl _)).up (by omega)) ⟨_, rfl, HT4.out.later HB5.out (Nat.le_refl _)⟩ (by simp) (Tk_lims_le HOK.out).1 (Tk_lims_le HOK.out).2).mono ?_
  rintro e w6 ⟨rfl, b6⟩
  have HO6 := hide ((HO4.out.below HB5.out).below b6)
  have HD6 := hide ((Blk.new w4 #[.int .i64 c.lines, .int .i64 c.room, .int .i64 c.poll, .int .i64 c.idle, .int .i64 c.sw, .slice (some ⟨g4, 0, none⟩) c.tasks.length c.tasks.length] 26).later b6 (by simp))
  have HB6 := hide ((HB1.out.trans (HBA.out.mono hz1)).trans ((HB5.out.mono (by omega)).trans (b6.mono (by simp; omega))))
  have hz6 := b6.size
  simp at hz6
  clear b6 HO4 HT4 HX4 xc0 xc1 xc2 xc3 xc4 xc5
  go_wp2_with fail
  have hpk := pk_range place n (by omega)
  obtain ⟨kn, hkn⟩ : ∃ kn : Nat, pk place n = kn := ⟨(pk place n).toNat, by omega⟩
  rw [hkn] at hpk
  have HPK := keepPick_any place n w6 HH4.out (by omega) (by omega)
  rw [hkn] at HPK
  have HPK := hide HPK
  obtain ⟨hk0, hk1⟩ := hpk
  have hkl : kn < n := by omega
  clear hkn
  refine HPK.out.mono ?_
  rintro e w' ⟨rfl, rfl⟩
  have HLN : Hid ((cfgBytes c).length = n) := HNN.out.symm
  obtain ⟨x, hx⟩ := get_of_lt (l := cfgBytes c) (k := kn) (by rw [HLN.out]; exact hkl)
  have hxb := cfgBytes_allB HOK.out x (List.mem_of_getElem? hx)
  obtain ⟨hx0, hx1⟩ := hxb
  have HO6' : Hid (Own8 w6 (w1.heap.size + 1) 5 (.slice (some ⟨g, 0, none⟩) n gcap) (cfgBytes c)) := HO6
  have hbc : w6.cell? ⟨g, kn, none⟩ = some (.int .u8 x) := by
    have h := HO6.out
    unfold Own8 at h
    rw [HLN.out] at h
    rw [h.cellAt kn (by omega)]
    simp [hx]
  have hbf : w6.frozen? ⟨g, kn, none⟩ = false := by
    have h := HO6.out
    unfold Own8 at h
    rw [HLN.out] at h
    exact h.frozenAt kn
  have HX := hide hx
  have hpt := pk_range turn 255 (by decide)
  have HPT := hide (fun w => keepPick_any turn 255 w HH5.out (by decide) (by decide))
  generalize hT : pk turn 255 = T at *
  obtain ⟨ht0, ht1⟩ := hpt
  have e0 : IntKind.i64.wrap (1 + T) = 1 + T := IntWalk.i64_in _ ⟨by omega, by omega⟩
  clear hx hT
  have e1 : IntKind.u8.wrap (1 + T) = 1 + T := IntWalk.u8_in _ ⟨by omega, by omega⟩
  have e2 : IntKind.u8.wrap (x + (1 + T)) = (x + (1 + T)) % 256 := IntKind.wrap_u8 _
  go_wp2_with fail
  apply wp_once
  case h =>
    go_region_with (go_at_call 12; refine (HPT.out _).mono ?_; rintro e w' ⟨rfl, rfl⟩)
    all_goals exact ⟨rfl, rfl⟩
  have HSP : Hid (Own8 (w6.setCell ⟨g, kn, none⟩ (.int .u8 ((x + (1 + T)) % 256))).drew (w1.heap.size + 1) 5 (.slice (some ⟨g, 0, none⟩) n gcap) ((cfgBytes c).set kn ((x + (1 + T)) % 256))) := by
    have h := HO6.out
    unfold Own8 at h
    rw [HLN.out] at h
    have h' := (h.stored kn (.int .u8 ((x + (1 + T)) % 256))).1
    show World.ownsRow _ _ _ _ _ _ _
    rw [List.length_set, HLN.out, List.map_set]
    exact h'
  have HDN : Hid (dec ((cfgBytes c).set kn ((x + (1 + T)) % 256)) = none) := dec_turned _ kn x (1 + T) (bsum_cfg c) HX.out (by omega) (by omega)
  have HAB : Hid (AllB ((cfgBytes c).set kn ((x + (1 + T)) % 256))) := by
    intro y hy
    rcases List.mem_or_eq_of_mem_set hy with hy | rfl
    · exact cfgBytes_allB HOK.out y hy
    · omega
  have HD7 : Hid (Blk (w6.setCell ⟨g, kn, none⟩ (.int .u8 ((x + (1 + T)) % 256))).drew w4.heap.size _ _) := (HD6.out.other (a := ⟨g, kn, none⟩) (by simp; omega) _).drew
  have HB7 : Hid (Below w.heap.size w (w6.setCell ⟨g, kn, none⟩ (.int .u8 ((x + (1 + T)) % 256))).drew) := (HB6.out.setCell (by simp; omega) _).drew
  have hz7 : (w6.setCell ⟨g, kn, none⟩ (.int .u8 ((x + (1 + T)) % 256))).drew.heap.size = w6.heap.size := by simp
  generalize hW7 : (w6.setCell ⟨g, kn, none⟩ (.int .u8 ((x + (1 + T)) % 256))).drew = W7 at *
  clear hW7 hbc hbf e0 e1 e2 HPT HO6 HO6' HD6 HB6
  go_wp2_with fail
  have HD8 := decode_any W7.heap.size (.slice (some ⟨g, 0, none⟩) n gcap) _ W7 (HSP.out.rd) (Nat.le_refl _) HAB.out (by rw [List.length_set, HLN.out]; omega)
  rw [HDN.out] at HD8
  have HD8 := hide HD8
  refine HD8.out.mono ?_
  rintro e w8 ⟨rfl, b8⟩
  have HB8 := hide (HB7.out.trans (b8.mono (by omega)))
  have HDB8 := hide (HD7.out.later b8 (by omega))
  have hz8 := b8.size
  clear b8 HD8 HSP HDN HAB HB7 HD7
  go_wp2_with fail
  have HD9 := hide (decode_any B (.slice ba bytes.length bcap) bytes w8 (HVB.out.later HB8.out hB) (by omega) HBB.out hbl)
  refine HD9.out.mono ?_
  clear HD9
  cases hd : dec bytes with
  | none =>
    rintro e w9 ⟨rfl, b9⟩
    have HB9 := hide (HB8.out.trans (b9.mono (by omega)))
    have HDB9 := hide (HDB8.out.later b9 (by omega))
    clear b9 HB8 HDB8 hd
    unfold zeroCfg
    have dc0 : w9.cell? ⟨w4.heap.size, 0, none⟩ = some (.int .i64 c.lines) := HDB9.out.cell 0
    have df0 := HDB9.out.free 0
    have dc1 : w9.cell? ⟨w4.heap.size, 1, none⟩ = some (.int .i64 c.room) := HDB9.out.cell 1
    have df1 := HDB9.out.free 1
    have dc2 : w9.cell? ⟨w4.heap.size, 2, none⟩ = some (.int .i64 c.poll) := HDB9.out.cell 2
    have df2 := HDB9.out.free 2
    have dc3 : w9.cell? ⟨w4.heap.size, 3, none⟩ = some (.int .i64 c.idle) := HDB9.out.cell 3
    have df3 := HDB9.out.free 3
    have dc4 : w9.cell? ⟨w4.heap.size, 4, none⟩ = some (.int .i64 c.sw) := HDB9.out.cell 4
    have df4 := HDB9.out.free 4
    have dc5 : w9.cell? ⟨w4.heap.size, 5, none⟩ = some (.slice (some ⟨g4, 0, none⟩) c.tasks.length c.tasks.length) := HDB9.out.cell 5
    have df5 := HDB9.out.free 5
    go_wp2
    go_ret
    exact ⟨rfl, ((((((HB9.out.setCell (by simp; omega) _).setCell (by simp; omega) _).setCell (by simp; omega) _).setCell (by simp; omega) _).setCell (by simp; omega) _).setCell (by simp; omega) _)⟩
  | some d =>
    rintro e w9 ⟨v9, rfl, o9, b9⟩
    have HB9 := hide (HB8.out.trans (b9.mono (by omega)))
    have HDB9 := hide (HDB8.out.later b9 (by omega))
    have hdi := dec_inv HBB.out hd
    obtain ⟨hdok, hdb⟩ := hdi
    obtain ⟨g9, rfl⟩ := o9.slice
    have hz9 := b9.size
    have HO9 := hide o9
    have HDI := hide (And.intro hdok hdb)
    have HBN : Hid (bytes ≠ []) := by intro h; rw [h] at hd; simp [dec] at hd
    clear b9 HB8 HDB8 hd o9 hdok hdb
    have dc0 : w9.cell? ⟨w4.heap.size, 0, none⟩ = some (.int .i64 c.lines) := HDB9.out.cell 0
    have df0 := HDB9.out.free 0
    have dc1 : w9.cell? ⟨w4.heap.size, 1, none⟩ = some (.int .i64 c.room) := HDB9.out.cell 1
    have df1 := HDB9.out.free 1
    have dc2 : w9.cell? ⟨w4.heap.size, 2, none⟩ = some (.int .i64 c.poll) := HDB9.out.cell 2
    have df2 := HDB9.out.free 2
    have dc3 : w9.cell? ⟨w4.heap.size, 3, none⟩ = some (.int .i64 c.idle) := HDB9.out.cell 3
    have df3 := HDB9.out.free 3
    have dc4 : w9.cell? ⟨w4.heap.size, 4, none⟩ = some (.int .i64 c.sw) := HDB9.out.cell 4
    have df4 := HDB9.out.free 4
    have dc5 : w9.cell? ⟨w4.heap.size, 5, none⟩ = some (.slice (some ⟨g4, 0, none⟩) c.tasks.length c.tasks.length) := HDB9.out.cell 5
    have df5 := HDB9.out.free 5
    have HO10 : Hid (OwnTasks ((((((w9.setCell ⟨w4.heap.size, 0, none⟩ (.int .i64 d.lines)).setCell ⟨w4.heap.size, 1, none⟩ (.int .i64 d.room)).setCell ⟨w4.heap.size, 2, none⟩ (.int .i64 d.poll)).setCell ⟨w4.heap.size, 3, none⟩ (.int .i64 d.idle)).setCell ⟨w4.heap.size, 4, none⟩ (.int .i64 d.sw)).setCell ⟨w4.heap.size, 5, none⟩ (.slice (some ⟨g9, 0, none⟩) d.tasks.length d.tasks.length)) w8.heap.size (.slice (some ⟨g9, 0, none⟩) d.tasks.length d.tasks.length) d.tasks) := HO9.out.kept fun k hk hk' => by
      rw [heap_setCell_other _ _ _ _ (by simp; omega), heap_setCell_other _ _ _ _ (by simp; omega), heap_setCell_other _ _ _ _ (by simp; omega), heap_setCell_other _ _ _ _ (by simp; omega), heap_setCell_other _ _ _ _ (by simp; omega), heap_setCell_other _ _ _ _ (by simp; omega)]
    have HB10 : Hid (Below w.heap.size w ((((((w9.setCell ⟨w4.heap.size, 0, none⟩ (.int .i64 d.lines)).setCell ⟨w4.heap.size, 1, none⟩ (.int .i64 d.room)).setCell ⟨w4.heap.size, 2, none⟩ (.int .i64 d.poll)).setCell ⟨w4.heap.size, 3, none⟩ (.int .i64 d.idle)).setCell ⟨w4.heap.size, 4, none⟩ (.int .i64 d.sw)).setCell ⟨w4.heap.size, 5, none⟩ (.slice (some ⟨g9, 0, none⟩) d.tasks.length d.tasks.length))) := ((((((HB9.out.setCell (by simp; omega) _).setCell (by simp; omega) _).setCell (by simp; omega) _).setCell (by simp; omega) _).setCell (by simp; omega) _).setCell (by simp; omega) _)
    have hz10 : (((((((w9.setCell ⟨w4.heap.size, 0, none⟩ (.int .i64 d.lines)).setCell ⟨w4.heap.size, 1, none⟩ (.int .i64 d.room)).setCell ⟨w4.heap.size, 2, none⟩ (.int .i64 d.poll)).setCell ⟨w4.heap.size, 3, none⟩ (.int .i64 d.idle)).setCell ⟨w4.heap.size, 4, none⟩ (.int .i64 d.sw)).setCell ⟨w4.heap.size, 5, none⟩ (.slice (some ⟨g9, 0, none⟩) d.tasks.length d.tasks.length))).heap.size = w9.heap.size := by simp
    have HDB10 : Hid (Blk ((((((w9.setCell ⟨w4.heap.size, 0, none⟩ (.int .i64 d.lines)).setCell ⟨w4.heap.size, 1, none⟩ (.int .i64 d.room)).setCell ⟨w4.heap.size, 2, none⟩ (.int .i64 d.poll)).setCell ⟨w4.heap.size, 3, none⟩ (.int .i64 d.idle)).setCell ⟨w4.heap.size, 4, none⟩ (.int .i64 d.sw)).setCell ⟨w4.heap.size, 5, none⟩ (.slice (some ⟨g9, 0, none⟩) d.tasks.length d.tasks.length)) w4.heap.size #[.int .i64 d.lines, .int .i64 d.room, .int .i64 d.poll, .int .i64 d.idle, .int .i64 d.sw, .slice (some ⟨g9, 0, none⟩) d.tasks.length d.tasks.length] 26) := (((((HDB9.out.set 0 _).set 1 _).set 2 _).set 3 _).set 4 _).set 5 _
    go_wp2_with fail
    generalize hW10 : ((((((w9.setCell ⟨w4.heap.size, 0, none⟩ (.int .i64 d.lines)).setCell ⟨w4.heap.size, 1, none⟩ (.int .i64 d.room)).setCell ⟨w4.heap.size, 2, none⟩ (.int .i64 d.poll)).setCell ⟨w4.heap.size, 3, none⟩ (.int .i64 d.idle)).setCell ⟨w4.heap.size, 4, none⟩ (.int .i64 d.sw)).setCell ⟨w4.heap.size, 5, none⟩ (.slice (some ⟨g9, 0, none⟩) d.tasks.length d.tasks.length)) = W10 at *
    clear hW10 dc0 dc1 dc2 dc3 dc4 dc5 df0 df1 df2 df3 df4 df5
    refine (encode_yes W10.heap.size _ d _ ⟨_, rfl, HO10.out.tasks⟩ (Nat.le_refl _) HDI.out.1).mono ?_
    rintro e w11 ⟨ve, rfl, o11, b11⟩
    rw [HDI.out.2] at o11
    have HB11 := hide (HB10.out.trans (b11.mono (by omega)))
    have cv1 := conv8 o11.rd HBN.out
    have cv2 := conv8 (HVB.out.later HB11.out hB) HBN.out
    obtain ⟨ga, gcap2, rfl, -, -⟩ := o11.row HBN.out
    clear b11 o11
    generalize hst : str8 bytes = st at *
    clear hst
    go_wp2
    go_ret
    exact ⟨rfl, HB11.out⟩

end Go.Proofs.Ythloffgebebijaa
