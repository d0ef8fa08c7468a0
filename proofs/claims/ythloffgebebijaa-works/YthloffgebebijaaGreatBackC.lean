/- BackC: the walk of tillerlaw's backConfig: what was lent is as it was; then it is written over. -/
import Derived.Test.YthloffgebebijaaGreatLentK
import Derived.Test.YthloffgebebijaaGreatSameL
import Derived.Deep.DeepMust
namespace Go.Proofs.YthloffgebebijaaGreat
open Go.RowKit

theorem get_set_ge {a : Array Value} {i j : Nat} {v : Value} (h : i < j) : (a.setIfInBounds i v)[j]? = a[j]? := by
  rw [Array.getElem?_setIfInBounds, if_neg (by omega)]

set_option maxRecDepth 100000 in
set_option maxHeartbeats 3200000 in
theorem backConfig_true (B H T : Nat) (v lv : Value) (c : Cfg) (Ls : List Nat) (w : World) (hv : Cf w B v c) (hB : B ≤ H) (hH : H ≤ T) (hla : LentAt w H T lv c.tasks (c.tasks.length + 8) Ls) (hl : c.tasks.length ≤ 3518437208780) (hl2 : ∀ t ∈ c.tasks, t.lims.length ≤ 8796093021952) :
    Calls Tryz.prog 24 #[.agg #[.slice (some ⟨T, 0, none⟩) (c.tasks.length + 8) (c.tasks.length + 8), lv], v] w fun e w' => e = .returned (.bool true) ∧ Fr (fun b => b = T ∨ b ∈ Ls) w w' := by
  obtain ⟨s, rfl, hs⟩ := hv
  obtain ⟨x1, x2, x3, x4, x5, ts⟩ := c
  simp only at hs hl hl2 hla ⊢
  obtain ⟨sa, scap, rfl, hs⟩ := hs
  have HFT : Hid (Blk w T (flat3 (List.zipWith lentEnt ts Ls ++ List.replicate 8 spareT)).toArray 55) := by
    have := hla.row
    simpa [Hid] using this
  have HLEN : Hid (Ls.length = ts.length) := by have := hla.len; simp only [Hid]; omega
  generalize hn : ts.length = n at *
  have HN := hide hn
  have HC := hide hs
  have HL2 := hide hl2
  have HLA := hide hla
  have hTs := hla.row.lt
  have HLs : Hid (∀ L ∈ Ls, T < L ∧ L < w.heap.size) := hla.lt
  have hzf : Hid ((flat3 (List.zipWith lentEnt ts Ls ++ List.replicate 8 spareT)).length = (n + 8) * 3) := by
    simp only [Hid]
    have : ∀ es : List (Int × Int × Value), (flat3 es).length = es.length * 3 := by intro es; induction es with | nil => rfl | cons a r ih => simp [flat3] at ih ⊢; omega
    rw [this, List.length_append, zip_len _ _ _ (by rw [HLEN.out, HN.out]; omega), List.length_replicate, HLEN.out]
  obtain ⟨lva, lvc, rfl⟩ := owns_slice hla.lims
  clear hn hs hl2 hla
  go_enter Tryz.func24, Tryz.ntmps24
  go_wp2_with fail
  generalize hX1 : w.heap.size + 1 = X1 at *
  have hx1 : w.heap.size < X1 := by omega
  go_loopw [5, 6] (fun ok i wr => ∃ k : Nat, ok = .bool true ∧ i = .int .i64 k ∧ k ≤ n + 8 ∧ (∃ cur, Blk wr T cur 55 ∧ cur.size = (n + 8) * 3 ∧ ∀ j, k * 3 ≤ j → cur[j]? = (flat3 (List.zipWith lentEnt ts Ls ++ List.replicate 8 spareT))[j]?) ∧ (∀ (i : Nat) (t : Tk) (L : Nat), k ≤ i → ts[i]? = some t → Ls[i]? = some L → Blk wr L (flat2 (lentLims t)).toArray 52) ∧
      wr.ownsRow H 53 1 (.slice lva Ls.length lvc) Ls.length (List.zipWith lentRow ts Ls) ∧ Blk wr w.heap.size #[.slice (some ⟨T, 0, none⟩) (n + 8) (n + 8), .slice lva Ls.length lvc] 71 ∧ Blk wr X1 #[.int .i64 x1, .int .i64 x2, .int .i64 x3, .int .i64 x4, .int .i64 x5, .slice sa n scap] 40 ∧ Fr (fun b => b = T ∨ b ∈ Ls) w wr) (fun _ i _ => n + 8 - (intOf i).toNat)
  case atStart =>
    have hb : Below w.heap.size w ((w.alloc (.cells #[.slice (some ⟨T, 0, none⟩) (n + 8) (n + 8), .slice lva Ls.length lvc] 71)).alloc (.cells #[.int .i64 x1, .int .i64 x2, .int .i64 x3, .int .i64 x4, .int .i64 x5, .slice sa n scap] 40)) := ((Below.refl _ _).alloc (Nat.le_refl _) _).alloc (by simp) _
    refine ⟨0, rfl, rfl, Nat.zero_le _, ⟨_, HFT.out.later hb hTs, by simpa using hzf.out, fun j _ => by simp⟩, fun i t L _ h1 h2 => (HLA.out.each i t L h1 h2).later hb (HLA.out.each i t L h1 h2).lt, owns_below HLA.out.lims hb, (Blk.new _ _ _).alloc _, ?_, .of_below hb⟩
    have := Blk.new (w.alloc (.cells #[.slice (some ⟨T, 0, none⟩) (n + 8) (n + 8), .slice lva Ls.length lvc] 71)) #[.int .i64 x1, .int .i64 x2, .int .i64 x3, .int .i64 x4, .int .i64 x5, .slice sa n scap] 40
    rw [← hX1]
    simpa using this
  case round =>
    obtain ⟨k, rfl, rfl, hk, ⟨cur, hcur, hcz, hcj⟩, hea, hli, h0, h1, hfr⟩ := hrel
    have HT := hide hcur; have HCZ := hide hcz; have HCJ := hide hcj; have HEA := hide hea; have HLI := hide hli; have HK0 := hide h0; have HK1 := hide h1; have HFR := hide hfr
    have c00 : wr.cell? ⟨w.heap.size, 0, none⟩ = some (.slice (some ⟨T, 0, none⟩) (n + 8) (n + 8)) := h0.cell 0
    have c01 : wr.cell? ⟨w.heap.size, 1, none⟩ = some (.slice lva Ls.length lvc) := h0.cell 1
    have c15 : wr.cell? ⟨X1, 5, none⟩ = some (.slice sa n scap) := h1.cell 5
    have hz1 := h1.lt
    have hsz := hfr.size
    have hneA : T ≠ w.heap.size := by omega
    have hneB : T ≠ X1 := by omega
    have hneC : w.heap.size ≠ T := by omega
    have hneD : X1 ≠ T := by omega
    clear hcur hcz hcj hea hli h0 h1 hfr hX1
    by_cases hk8 : k < n + 8
    · have hk8i : (k : Int) < (n : Int) + 8 := by omega
      have f0 := HT.out.free (k * 3)
      have f1 := HT.out.free (k * 3 + 1)
      have f2 := HT.out.free (k * 3 + 2)
      by_cases hkn : k < n
      · obtain ⟨t, hg⟩ := get_of_lt (l := ts) (k := k) (by rw [HN.out]; exact hkn)
        obtain ⟨L, hLg⟩ := get_of_lt (l := Ls) (k := k) (by rw [HLEN.out]; exact hkn)
        rcases HC.out with he | ⟨sb, so, rfl, hsb, hsc⟩
        · rw [he] at hg; simp at hg
        have HBH : Hid (Below H w wr) := HFR.out.below (by omega) (by rintro b (rfl | hb); exact hH; have := (HLs.out b hb).1; omega)
        obtain ⟨d0, d1, s, d2, hs⟩ := (hsc k _ hg).later HBH.out hB (by omega)
        have hget := flat3_get (List.zipWith lentEnt ts Ls ++ List.replicate 8 spareT) k (lentEnt t L) (by
          rw [List.getElem?_append_left (by rw [zip_len _ _ _ (by rw [HLEN.out, HN.out]; omega), HLEN.out]; exact hkn), List.getElem?_zipWith, hg, hLg])
        have HLB := hide (HEA.out k t L (Nat.le_refl _) hg hLg)
        have HML := hide (HL2.out t (List.mem_of_getElem? hg))
        have hLT := HLs.out L (List.mem_of_getElem? hLg)
        obtain ⟨hLT, hLw⟩ := hLT
        have HLM := hide (List.mem_of_getElem? hLg)
        have HLROW : Hid ((List.zipWith lentRow ts Ls)[k]? = some (lentRow t L)) := by simp only [Hid]; rw [List.getElem?_zipWith, hg, hLg]
        have HG := hide hg; have HLG := hide hLg
        obtain ⟨cost, due, lims⟩ := t
        simp only at d0 d1 hs
        obtain ⟨la, lcap, rfl, hls⟩ := hs
        have HLS := hide hls
        generalize hm : lims.length = m at *
        have HM := hide hm
        have hm7 : m ≤ 8796093021952 := by have := HML.out; first | omega | (simp only at this; omega)
        have t0 : wr.cell? ⟨T, k * 3, none⟩ = some (.int .i64 cost) := by rw [HT.out.cell, HCJ.out _ (by omega)]; exact hget.1
        have t1 : wr.cell? ⟨T, k * 3 + 1, none⟩ = some (.int .i64 due) := by rw [HT.out.cell, HCJ.out _ (by omega)]; exact hget.2.1
        have t2 : wr.cell? ⟨T, k * 3 + 2, none⟩ = some (.slice (some ⟨L, 0, none⟩) m (m + 8)) := by rw [HT.out.cell, HCJ.out _ (by omega), hget.2.2]; simp [lentEnt, hm]
        have hneE : T ≠ sb := by omega
        have hneF : sb ≠ T := by omega
        clear hm hls hg hLg hsc hget
        have hnk : ¬ n ≤ k := by omega
        have hTwr : T < wr.heap.size := by omega
        have hw0 : w.heap.size < wr.heap.size := by omega
        have hsbw : sb < wr.heap.size := by omega
        go_wp2_with fail
        have S1 := HT.out.set (k * 3) (.int .i64 (-78))
        have S2 := S1.set (k * 3 + 1) (.int .i64 0)
        have S3 := S2.set (k * 3 + 2) (.slice none 0 0)
        have HQ1 : Hid (Fr (fun b => b = T) wr ((((wr.setCell ⟨T, k * 3, none⟩ (.int .i64 (-78))).setCell ⟨T, k * 3 + 1, none⟩ (.int .i64 0)).setCell ⟨T, k * 3 + 2, none⟩ (.slice none 0 0)).alloc (.cells #[.int .i64 cost, .int .i64 due, .slice (some ⟨L, 0, none⟩) m (m + 8)] 55))) := (((Fr.set (X := fun b => b = T) wr T (k * 3) _ rfl).trans (Fr.set (X := fun b => b = T) _ T (k * 3 + 1) _ rfl) (fun _ _ h => h)).trans (Fr.set (X := fun b => b = T) _ T (k * 3 + 2) _ rfl) (fun _ _ h => h)).trans (Fr.of_below (X := fun b => b = T) ((Below.refl _ _).alloc (Nat.le_refl _) _)) (fun _ _ h => h)
        have HT1 : Hid (Blk ((((wr.setCell ⟨T, k * 3, none⟩ (.int .i64 (-78))).setCell ⟨T, k * 3 + 1, none⟩ (.int .i64 0)).setCell ⟨T, k * 3 + 2, none⟩ (.slice none 0 0)).alloc (.cells #[.int .i64 cost, .int .i64 due, .slice (some ⟨L, 0, none⟩) m (m + 8)] 55)) T _ 55) := S3.alloc _
        have HTB : Hid (Blk ((((wr.setCell ⟨T, k * 3, none⟩ (.int .i64 (-78))).setCell ⟨T, k * 3 + 1, none⟩ (.int .i64 0)).setCell ⟨T, k * 3 + 2, none⟩ (.slice none 0 0)).alloc (.cells #[.int .i64 cost, .int .i64 due, .slice (some ⟨L, 0, none⟩) m (m + 8)] 55)) wr.heap.size #[.int .i64 cost, .int .i64 due, .slice (some ⟨L, 0, none⟩) m (m + 8)] 55) := by
          have := Blk.new (((wr.setCell ⟨T, k * 3, none⟩ (.int .i64 (-78))).setCell ⟨T, k * 3 + 1, none⟩ (.int .i64 0)).setCell ⟨T, k * 3 + 2, none⟩ (.slice none 0 0)) #[.int .i64 cost, .int .i64 due, .slice (some ⟨L, 0, none⟩) m (m + 8)] 55
          simpa [Hid] using this
        have hzW : ((((wr.setCell ⟨T, k * 3, none⟩ (.int .i64 (-78))).setCell ⟨T, k * 3 + 1, none⟩ (.int .i64 0)).setCell ⟨T, k * 3 + 2, none⟩ (.slice none 0 0)).alloc (.cells #[.int .i64 cost, .int .i64 due, .slice (some ⟨L, 0, none⟩) m (m + 8)] 55)).heap.size = wr.heap.size + 1 := by simp
        have kf : ∀ {b : Nat} {c : Array Value} {t : TypeId}, Blk wr b c t → b ≠ T → Blk ((((wr.setCell ⟨T, k * 3, none⟩ (.int .i64 (-78))).setCell ⟨T, k * 3 + 1, none⟩ (.int .i64 0)).setCell ⟨T, k * 3 + 2, none⟩ (.slice none 0 0)).alloc (.cells #[.int .i64 cost, .int .i64 due, .slice (some ⟨L, 0, none⟩) m (m + 8)] 55)) b c t := fun hb hn => (HQ1.out.block _ hb.lt hn).trans hb
        have HK0' := hide (kf HK0.out hneC)
        have HK1' := hide (kf HK1.out hneD)
        have HLB' := hide (kf HLB.out (by omega))
        have cf : ∀ {b o : Nat}, b < wr.heap.size → b ≠ T → ((((wr.setCell ⟨T, k * 3, none⟩ (.int .i64 (-78))).setCell ⟨T, k * 3 + 1, none⟩ (.int .i64 0)).setCell ⟨T, k * 3 + 2, none⟩ (.slice none 0 0)).alloc (.cells #[.int .i64 cost, .int .i64 due, .slice (some ⟨L, 0, none⟩) m (m + 8)] 55)).cell? ⟨b, o, none⟩ = wr.cell? ⟨b, o, none⟩ := fun hb hn => World.cell?_of_block (HQ1.out.block _ hb hn)
        have g15 : ((((wr.setCell ⟨T, k * 3, none⟩ (.int .i64 (-78))).setCell ⟨T, k * 3 + 1, none⟩ (.int .i64 0)).setCell ⟨T, k * 3 + 2, none⟩ (.slice none 0 0)).alloc (.cells #[.int .i64 cost, .int .i64 due, .slice (some ⟨L, 0, none⟩) m (m + 8)] 55)).cell? ⟨X1, 5, none⟩ = some (.slice (some ⟨sb, so, none⟩) n scap) := (cf hz1 hneD).trans c15
        have g01 : ((((wr.setCell ⟨T, k * 3, none⟩ (.int .i64 (-78))).setCell ⟨T, k * 3 + 1, none⟩ (.int .i64 0)).setCell ⟨T, k * 3 + 2, none⟩ (.slice none 0 0)).alloc (.cells #[.int .i64 cost, .int .i64 due, .slice (some ⟨L, 0, none⟩) m (m + 8)] 55)).cell? ⟨w.heap.size, 1, none⟩ = some (.slice lva Ls.length lvc) := (cf hw0 hneC).trans c01
        have e0 : ((((wr.setCell ⟨T, k * 3, none⟩ (.int .i64 (-78))).setCell ⟨T, k * 3 + 1, none⟩ (.int .i64 0)).setCell ⟨T, k * 3 + 2, none⟩ (.slice none 0 0)).alloc (.cells #[.int .i64 cost, .int .i64 due, .slice (some ⟨L, 0, none⟩) m (m + 8)] 55)).cell? ⟨sb, so + k * 3, none⟩ = some (.int .i64 cost) := (cf hsbw hneF).trans d0
        have e1 : ((((wr.setCell ⟨T, k * 3, none⟩ (.int .i64 (-78))).setCell ⟨T, k * 3 + 1, none⟩ (.int .i64 0)).setCell ⟨T, k * 3 + 2, none⟩ (.slice none 0 0)).alloc (.cells #[.int .i64 cost, .int .i64 due, .slice (some ⟨L, 0, none⟩) m (m + 8)] 55)).cell? ⟨sb, so + k * 3 + 1, none⟩ = some (.int .i64 due) := (cf hsbw hneF).trans d1
        have e2 : ((((wr.setCell ⟨T, k * 3, none⟩ (.int .i64 (-78))).setCell ⟨T, k * 3 + 1, none⟩ (.int .i64 0)).setCell ⟨T, k * 3 + 2, none⟩ (.slice none 0 0)).alloc (.cells #[.int .i64 cost, .int .i64 due, .slice (some ⟨L, 0, none⟩) m (m + 8)] 55)).cell? ⟨sb, so + k * 3 + 2, none⟩ = some (.slice la m lcap) := (cf hsbw hneF).trans d2
        have b0 : ((((wr.setCell ⟨T, k * 3, none⟩ (.int .i64 (-78))).setCell ⟨T, k * 3 + 1, none⟩ (.int .i64 0)).setCell ⟨T, k * 3 + 2, none⟩ (.slice none 0 0)).alloc (.cells #[.int .i64 cost, .int .i64 due, .slice (some ⟨L, 0, none⟩) m (m + 8)] 55)).cell? ⟨wr.heap.size, 0, none⟩ = some (.int .i64 cost) := HTB.out.cell 0
        have b1 : ((((wr.setCell ⟨T, k * 3, none⟩ (.int .i64 (-78))).setCell ⟨T, k * 3 + 1, none⟩ (.int .i64 0)).setCell ⟨T, k * 3 + 2, none⟩ (.slice none 0 0)).alloc (.cells #[.int .i64 cost, .int .i64 due, .slice (some ⟨L, 0, none⟩) m (m + 8)] 55)).cell? ⟨wr.heap.size, 1, none⟩ = some (.int .i64 due) := HTB.out.cell 1
        have b2 : ((((wr.setCell ⟨T, k * 3, none⟩ (.int .i64 (-78))).setCell ⟨T, k * 3 + 1, none⟩ (.int .i64 0)).setCell ⟨T, k * 3 + 2, none⟩ (.slice none 0 0)).alloc (.cells #[.int .i64 cost, .int .i64 due, .slice (some ⟨L, 0, none⟩) m (m + 8)] 55)).cell? ⟨wr.heap.size, 2, none⟩ = some (.slice (some ⟨L, 0, none⟩) m (m + 8)) := HTB.out.cell 2
        have HLI' : Hid (((((wr.setCell ⟨T, k * 3, none⟩ (.int .i64 (-78))).setCell ⟨T, k * 3 + 1, none⟩ (.int .i64 0)).setCell ⟨T, k * 3 + 2, none⟩ (.slice none 0 0)).alloc (.cells #[.int .i64 cost, .int .i64 due, .slice (some ⟨L, 0, none⟩) m (m + 8)] 55)).ownsRow H 53 1 (.slice lva Ls.length lvc) Ls.length (List.zipWith lentRow ts Ls)) := by
          obtain ⟨q1, q2⟩ := HLI.out
          refine ⟨q1, q2.imp id ?_⟩
          rintro ⟨g, cap, cu, hv, hg, hh, r⟩
          exact ⟨g, cap, cu, hv, hg, kf hh (fun e => by subst e; exact absurd (Blk.inj hh HT.out).2 (by decide)), r⟩
        obtain ⟨rg, rcap, hrv, hrH, hrg, hrc, hrk⟩ := owns_cell1 HLI'.out HLROW.out
        obtain ⟨rfl, rfl⟩ : lva = some ⟨rg, 0, none⟩ ∧ lvc = rcap := by simpa using hrv
        have hrc' : ((((wr.setCell ⟨T, k * 3, none⟩ (.int .i64 (-78))).setCell ⟨T, k * 3 + 1, none⟩ (.int .i64 0)).setCell ⟨T, k * 3 + 2, none⟩ (.slice none 0 0)).alloc (.cells #[.int .i64 cost, .int .i64 due, .slice (some ⟨L, 0, none⟩) m (m + 8)] 55)).cell? ⟨rg, k, none⟩ = some (.slice (some ⟨L, 0, none⟩) (m + 8) (m + 8)) := by rw [hrc]; simp [lentRow, HM.out]
        generalize hW1 : (((wr.setCell ⟨T, k * 3, none⟩ (.int .i64 (-78))).setCell ⟨T, k * 3 + 1, none⟩ (.int .i64 0)).setCell ⟨T, k * 3 + 2, none⟩ (.slice none 0 0)).alloc (.cells #[.int .i64 cost, .int .i64 due, .slice (some ⟨L, 0, none⟩) m (m + 8)] 55) = W1 at *
        clear hW1 S1 S2 S3 kf cf hrc hrv t0 t1 t2 d0 d1 d2 c00 c01 c15 f0 f1 f2
        have hLn : ((Ls.length : Nat) : Int) = (n : Int) := by rw [HLEN.out]
        go_quiet ((fail))
        go_wp2_with fail
        obtain ⟨W0, hW0⟩ : ∃ W, W = wr := ⟨_, rfl⟩
        subst hW0
        have hL1 : L < W1.heap.size := by omega
        go_loopw [5, 9] (fun ok j wr => ∃ q : Nat, ok = .bool true ∧ j = .int .i64 q ∧ q ≤ m + 8 ∧ (∃ cu, Blk wr L cu 52 ∧ cu.size = (m + 8) * 2 ∧ ∀ p, q * 2 ≤ p → cu[p]? = (flat2 (lentLims ⟨cost, due, lims⟩))[p]?) ∧ Fr (fun b => b = L) W1 wr) (fun _ j _ => m + 8 - (intOf j).toNat)
        case atStart =>
          refine ⟨0, rfl, rfl, Nat.zero_le _, ⟨_, HLB'.out.drew, ?_, fun p _ => by simp⟩, ⟨rfl, rfl, rfl, Nat.le_refl _, fun _ _ _ => rfl⟩⟩
          rw [List.size_toArray, flat2_length, lentLims, List.length_append, HM.out, List.length_replicate]; omega
        case round =>
          obtain ⟨q, rfl, rfl, hq, ⟨cu, hcu, huz, huj⟩, hfl⟩ := hrel
          have HBL := hide hcu; have HUZ := hide huz; have HUJ := hide huj; have HFL := hide hfl
          have hzq := hfl.size
          have hLr := hcu.lt
          have cf : ∀ {b o : Nat}, b < W1.heap.size → b ≠ L → wr.cell? ⟨b, o, none⟩ = W1.cell? ⟨b, o, none⟩ := fun hb hn => World.cell?_of_block (HFL.out.block _ hb hn)
          have p15 : wr.cell? ⟨X1, 5, none⟩ = some (.slice (some ⟨sb, so, none⟩) n scap) := (cf (by omega) (by omega)).trans g15
          have p2 : wr.cell? ⟨sb, so + k * 3 + 2, none⟩ = some (.slice la m lcap) := (cf (by omega) (by omega)).trans e2
          clear hcu huz huj hfl
          by_cases hq8 : q < m + 8
          · obtain ⟨⟨l1, l2⟩, hlq⟩ := get_of_lt (l := lentLims ⟨cost, due, lims⟩) (k := q) (by simp only [lentLims, List.length_append, HM.out, List.length_replicate]; exact hq8)
            have HV : Hid (cu[q * 2]? = some (.int .i64 l1) ∧ cu[q * 2 + 1]? = some (.int .i64 l2)) := by
              have := flat2_get _ q _ hlq
              rw [Nat.mul_comm] at this
              exact ⟨(HUJ.out _ (Nat.le_refl _)).trans this.1, (HUJ.out _ (by omega)).trans this.2⟩
            have hwX : X1 < wr.heap.size := by omega
            have hwS : sb < wr.heap.size := by omega
            by_cases hqm : q < m
            · rcases HLS.out with he | ⟨lb, lo, rfl, hlb, hlc⟩
              · have := HM.out; rw [he] at this; simp at this; omega
              have hlim : lims[q]? = some (l1, l2) := by rw [lentLims, List.getElem?_append_left (by have := HM.out; simp only; omega)] at hlq; exact hlq
              obtain ⟨m0, m1⟩ := hlc q _ hlim
              have mf : ∀ o, wr.cell? ⟨lb, o, none⟩ = W0.cell? ⟨lb, o, none⟩ := fun o => (cf (by omega) (by omega)).trans (World.cell?_of_block (HQ1.out.block lb (by omega) (by omega)))
              have n0 : wr.cell? ⟨lb, lo + q * 2, none⟩ = some (.int .i64 l1) := (mf _).trans m0
              have n1 : wr.cell? ⟨lb, lo + q * 2 + 1, none⟩ = some (.int .i64 l2) := (mf _).trans m1
              have hwB : lb < wr.heap.size := by omega
              clear cf mf m0 m1 hlim hlc hlq
              go_wp2_with fail
              have HSL := hide (fun w' => sameLimit_true l1 l2 w')
              have v0 : (wr.alloc (.cells #[.int .i64 l1, .int .i64 l2] 52)).cell? ⟨L, q * 2, none⟩ = some (.int .i64 l1) := (HBL.out.alloc _).cell _ |>.trans HV.out.1
              have v1 : (wr.alloc (.cells #[.int .i64 l1, .int .i64 l2] 52)).cell? ⟨L, q * 2 + 1, none⟩ = some (.int .i64 l2) := (HBL.out.alloc _).cell _ |>.trans HV.out.2
              have y0 : (wr.alloc (.cells #[.int .i64 l1, .int .i64 l2] 52)).cell? ⟨wr.heap.size, 0, none⟩ = some (.int .i64 l1) := (Blk.new wr _ _).cell 0
              have y1 : (wr.alloc (.cells #[.int .i64 l1, .int .i64 l2] 52)).cell? ⟨wr.heap.size, 1, none⟩ = some (.int .i64 l2) := (Blk.new wr _ _).cell 1
              have hz5 : (wr.alloc (.cells #[.int .i64 l1, .int .i64 l2] 52)).heap.size = wr.heap.size + 1 := by simp
              have HWA := hide (HBL.out.alloc (.cells #[.int .i64 l1, .int .i64 l2] 52))
              have HFA : Hid (Fr (fun b => b = L) W1 (wr.alloc (.cells #[.int .i64 l1, .int .i64 l2] 52))) := HFL.out.trans (Fr.of_below (X := fun b => b = L) ((Below.refl _ _).alloc (Nat.le_refl _) _)) (fun _ _ h => h)
              generalize hWA : wr.alloc (.cells #[.int .i64 l1, .int .i64 l2] 52) = WA at *
              clear hWA
              go_region_held3 (fun w' => w'.cell? ⟨L, q * 2, none⟩ = some (.int .i64 l1) ∧ w'.cell? ⟨L, q * 2 + 1, none⟩ = some (.int .i64 l2) ∧ w'.cell? ⟨wr.heap.size, 0, none⟩ = some (.int .i64 l1) ∧ w'.cell? ⟨wr.heap.size, 1, none⟩ = some (.int .i64 l2)) (first | exact ⟨v0, v1, y0, y1⟩ | exact ⟨z1, z2, z3, z4⟩)
                (first | (go_at_call 54; refine (HSL.out WA.drew).mono ?_; rintro e w5 ⟨rfl, b5⟩; have z1 := (b5.cell (p := ⟨L, q * 2, none⟩) (by simp; omega)).trans v0; have z2 := (b5.cell (p := ⟨L, q * 2 + 1, none⟩) (by simp; omega)).trans v1; have z3 := (b5.cell (p := ⟨wr.heap.size, 0, none⟩) (by simp; omega)).trans y0; have z4 := (b5.cell (p := ⟨wr.heap.size, 1, none⟩) (by simp; omega)).trans y1; have HB5 := hide b5; clear b5))
              have L5 := HWA.out.drew.later HB5.out (by simp; omega)
              have q0f := L5.free (q * 2)
              have q1f := L5.free (q * 2 + 1)
              have q0 : w5.cell? ⟨L, q * 2, none⟩ = some (.int .i64 l1) := (L5.cell _).trans HV.out.1
              have q1 : w5.cell? ⟨L, q * 2 + 1, none⟩ = some (.int .i64 l2) := (L5.cell _).trans HV.out.2
              have HL5 := hide L5
              have HF5 : Hid (Fr (fun b => b = L) W1 w5) := HFA.out.drew.trans (Fr.of_below (X := fun b => b = L) HB5.out) (fun _ _ h => h)
              clear L5 HB5 HFA HWA v0 v1 y0 y1
              go_wp2
              go_roundw
              case rel =>
                refine ⟨q + 1, rfl, by go_num, by omega, ⟨_, (HL5.out.set (q * 2) (.int .i64 (-78))).set (q * 2 + 1) (.int .i64 0), by simp [HUZ.out], fun p hp => ?_⟩, (HF5.out.trans (Fr.set (X := fun b => b = L) _ L (q * 2) _ rfl) (fun _ _ h => h)).trans (Fr.set (X := fun b => b = L) _ L (q * 2 + 1) _ rfl) (fun _ _ h => h)⟩
                rw [get_set_ge (by omega), get_set_ge (by omega)]
                exact HUJ.out p (by omega)
              case measure => simp [intOf]; omega
            · have hlim : (l1, l2) = ((-77 : Int), (0 : Int)) := by
                have h1 := hlq
                rw [lentLims, List.getElem?_append_right (by have := HM.out; simp only; omega), List.getElem?_replicate] at h1
                split at h1
                · simpa using h1.symm
                · simp at h1
              obtain ⟨rfl, rfl⟩ : l1 = -77 ∧ l2 = 0 := by simpa using hlim
              clear cf hlim hlq
              go_wp2_with fail
              have HSL := hide (fun w' => sameLimit_true (-77) 0 w')
              have v0 : (wr.alloc (.cells #[.int .i64 (-77), .int .i64 0] 52)).cell? ⟨L, q * 2, none⟩ = some (.int .i64 (-77)) := (HBL.out.alloc _).cell _ |>.trans HV.out.1
              have v1 : (wr.alloc (.cells #[.int .i64 (-77), .int .i64 0] 52)).cell? ⟨L, q * 2 + 1, none⟩ = some (.int .i64 0) := (HBL.out.alloc _).cell _ |>.trans HV.out.2
              have y0 : (wr.alloc (.cells #[.int .i64 (-77), .int .i64 0] 52)).cell? ⟨wr.heap.size, 0, none⟩ = some (.int .i64 (-77)) := (Blk.new wr _ _).cell 0
              have y1 : (wr.alloc (.cells #[.int .i64 (-77), .int .i64 0] 52)).cell? ⟨wr.heap.size, 1, none⟩ = some (.int .i64 0) := (Blk.new wr _ _).cell 1
              have hz5 : (wr.alloc (.cells #[.int .i64 (-77), .int .i64 0] 52)).heap.size = wr.heap.size + 1 := by simp
              have HWA := hide (HBL.out.alloc (.cells #[.int .i64 (-77), .int .i64 0] 52))
              have HFA : Hid (Fr (fun b => b = L) W1 (wr.alloc (.cells #[.int .i64 (-77), .int .i64 0] 52))) := HFL.out.trans (Fr.of_below (X := fun b => b = L) ((Below.refl _ _).alloc (Nat.le_refl _) _)) (fun _ _ h => h)
              generalize hWA : wr.alloc (.cells #[.int .i64 (-77), .int .i64 0] 52) = WA at *
              clear hWA
              go_region_held3 (fun w' => w'.cell? ⟨L, q * 2, none⟩ = some (.int .i64 (-77)) ∧ w'.cell? ⟨L, q * 2 + 1, none⟩ = some (.int .i64 0) ∧ w'.cell? ⟨wr.heap.size, 0, none⟩ = some (.int .i64 (-77)) ∧ w'.cell? ⟨wr.heap.size, 1, none⟩ = some (.int .i64 0)) (first | exact ⟨v0, v1, y0, y1⟩ | exact ⟨z1, z2, z3, z4⟩)
                (first | (go_at_call 54; refine (HSL.out WA.drew).mono ?_; rintro e w5 ⟨rfl, b5⟩; have z1 := (b5.cell (p := ⟨L, q * 2, none⟩) (by simp; omega)).trans v0; have z2 := (b5.cell (p := ⟨L, q * 2 + 1, none⟩) (by simp; omega)).trans v1; have z3 := (b5.cell (p := ⟨wr.heap.size, 0, none⟩) (by simp; omega)).trans y0; have z4 := (b5.cell (p := ⟨wr.heap.size, 1, none⟩) (by simp; omega)).trans y1; have HB5 := hide b5; clear b5))
              have L5 := HWA.out.drew.later HB5.out (by simp; omega)
              have q0f := L5.free (q * 2)
              have q1f := L5.free (q * 2 + 1)
              have q0 : w5.cell? ⟨L, q * 2, none⟩ = some (.int .i64 (-77)) := (L5.cell _).trans HV.out.1
              have q1 : w5.cell? ⟨L, q * 2 + 1, none⟩ = some (.int .i64 0) := (L5.cell _).trans HV.out.2
              have HL5 := hide L5
              have HF5 : Hid (Fr (fun b => b = L) W1 w5) := HFA.out.drew.trans (Fr.of_below (X := fun b => b = L) HB5.out) (fun _ _ h => h)
              clear L5 HB5 HFA HWA v0 v1 y0 y1
              go_wp2
              go_roundw
              case rel =>
                refine ⟨q + 1, rfl, by go_num, by omega, ⟨_, (HL5.out.set (q * 2) (.int .i64 (-78))).set (q * 2 + 1) (.int .i64 0), by simp [HUZ.out], fun p hp => ?_⟩, (HF5.out.trans (Fr.set (X := fun b => b = L) _ L (q * 2) _ rfl) (fun _ _ h => h)).trans (Fr.set (X := fun b => b = L) _ L (q * 2 + 1) _ rfl) (fun _ _ h => h)⟩
                rw [get_set_ge (by omega), get_set_ge (by omega)]
                exact HUJ.out p (by omega)
              case measure => simp [intOf]; omega
          · have hqe : q = m + 8 := by omega
            have hq8i : ¬ ((q : Int) < (m : Int) + 8) := by omega
            clear cf
            go_wp2
            go_roundw
            case rel =>
              have kg : ∀ {b : Nat} {c : Array Value} {t : TypeId}, Blk W1 b c t → b ≠ L → Blk wr b c t := fun hb hn => (HFL.out.block _ hb.lt hn).trans hb
              have kh : ∀ {b : Nat} {c : Array Value} {t : TypeId}, Blk W0 b c t → b ≠ T → Blk W1 b c t := fun hb hn => (HQ1.out.block _ hb.lt hn).trans hb
              refine ⟨k + 1, rfl, by go_num, by omega, ⟨_, kg HT1.out (by omega), by simp [HCZ.out], fun j hj => ?_⟩, ?_, ?_, kg HK0'.out (by omega), kg HK1'.out (by omega), ?_⟩
              · rw [get_set_ge (by omega), get_set_ge (by omega), get_set_ge (by omega)]
                exact HCJ.out j (by omega)
              · intro i t L' hi h1 h2
                have hb := HEA.out i t L' (by omega) h1 h2
                have hLL : L < L' := by
                  have h3 := HLG.out
                  obtain ⟨q1, rfl⟩ := List.getElem?_eq_some_iff.1 h3
                  obtain ⟨q2, rfl⟩ := List.getElem?_eq_some_iff.1 h2
                  exact List.pairwise_iff_getElem.1 HLA.out.inc k i q1 q2 (by omega)
                exact kg (kh hb (by omega)) (by omega)
              · obtain ⟨q1, q2⟩ := HLI'.out
                refine ⟨q1, q2.imp id ?_⟩
                rintro ⟨g, cap, cu2, hv, hg, hh, r⟩
                exact ⟨g, cap, cu2, hv, hg, kg hh (fun e => by subst e; exact absurd (Blk.inj hh HLB'.out).2 (by decide)), r⟩
              · exact (HFR.out.trans HQ1.out (fun _ _ h => .inl h)).trans HFL.out (fun b _ h => .inr (by rw [h]; exact HLM.out))
            case measure => simp [intOf]; omega
      · have hnk : n ≤ k := by omega
        have hget := flat3_get (List.zipWith lentEnt ts Ls ++ List.replicate 8 spareT) k spareT (by
          have hzl := zip_len lentEnt ts Ls (by rw [HLEN.out, HN.out]; omega)
          rw [List.getElem?_append_right (by rw [hzl, HLEN.out]; omega), List.getElem?_replicate, if_pos (by rw [hzl, HLEN.out]; omega)])
        have t0 : wr.cell? ⟨T, k * 3, none⟩ = some (.int .i64 (-77)) := by rw [HT.out.cell, HCJ.out _ (by omega)]; exact hget.1
        have t1 : wr.cell? ⟨T, k * 3 + 1, none⟩ = some (.int .i64 0) := by rw [HT.out.cell, HCJ.out _ (by omega)]; exact hget.2.1
        have t2 : wr.cell? ⟨T, k * 3 + 2, none⟩ = some (.slice none 0 0) := by rw [HT.out.cell, HCJ.out _ (by omega)]; exact hget.2.2
        have hTwr : T < wr.heap.size := by omega
        have hw0 : w.heap.size < wr.heap.size := by omega
        have hwT : wr.heap.size ≠ T := by omega
        have hTw : T ≠ wr.heap.size := by omega
        clear hget
        go_wp2
        have S1 := HT.out.set (k * 3) (.int .i64 (-78))
        have S2 := S1.set (k * 3 + 1) (.int .i64 0)
        have S3 := S2.set (k * 3 + 2) (.slice none 0 0)
        have HQ1 : Hid (Fr (fun b => b = T) wr ((((wr.setCell ⟨T, k * 3, none⟩ (.int .i64 (-78))).setCell ⟨T, k * 3 + 1, none⟩ (.int .i64 0)).setCell ⟨T, k * 3 + 2, none⟩ (.slice none 0 0)).alloc (.cells #[.int .i64 (-77), .int .i64 0, .slice none 0 0] 55))) := (((Fr.set (X := fun b => b = T) wr T (k * 3) _ rfl).trans (Fr.set (X := fun b => b = T) _ T (k * 3 + 1) _ rfl) (fun _ _ h => h)).trans (Fr.set (X := fun b => b = T) _ T (k * 3 + 2) _ rfl) (fun _ _ h => h)).trans (Fr.of_below (X := fun b => b = T) ((Below.refl _ _).alloc (Nat.le_refl _) _)) (fun _ _ h => h)
        have HT1 : Hid (Blk ((((wr.setCell ⟨T, k * 3, none⟩ (.int .i64 (-78))).setCell ⟨T, k * 3 + 1, none⟩ (.int .i64 0)).setCell ⟨T, k * 3 + 2, none⟩ (.slice none 0 0)).alloc (.cells #[.int .i64 (-77), .int .i64 0, .slice none 0 0] 55)) T _ 55) := S3.alloc _
        clear S1 S2 S3 t0 t1 t2 c00 c01 c15 f0 f1 f2
        go_roundw
        case rel =>
          have kh : ∀ {b : Nat} {c : Array Value} {t : TypeId}, Blk wr b c t → b ≠ T → Blk ((((wr.setCell ⟨T, k * 3, none⟩ (.int .i64 (-78))).setCell ⟨T, k * 3 + 1, none⟩ (.int .i64 0)).setCell ⟨T, k * 3 + 2, none⟩ (.slice none 0 0)).alloc (.cells #[.int .i64 (-77), .int .i64 0, .slice none 0 0] 55)) b c t := fun hb hn => (HQ1.out.block _ hb.lt hn).trans hb
          refine ⟨k + 1, rfl, by go_num, by omega, ⟨_, HT1.out, by simp [HCZ.out], fun j hj => ?_⟩, fun i t L' hi h1 h2 => ?_, ?_, kh HK0.out hneC, kh HK1.out hneD, HFR.out.trans HQ1.out (fun _ _ h => .inl h)⟩
          · rw [get_set_ge (by omega), get_set_ge (by omega), get_set_ge (by omega)]
            exact HCJ.out j (by omega)
          · have := (HLs.out L' (List.mem_of_getElem? h2)).1
            exact kh (HEA.out i t L' (by omega) h1 h2) (by omega)
          · obtain ⟨q1, q2⟩ := HLI.out
            refine ⟨q1, q2.imp id ?_⟩
            rintro ⟨g, cap, cu2, hv, hg, hh, r⟩
            exact ⟨g, cap, cu2, hv, hg, kh hh (fun e => by subst e; exact absurd (Blk.inj hh HT.out).2 (by decide)), r⟩
        case measure => simp [intOf]; omega
    · go_wp2
      go_ret
      exact ⟨rfl, HFR.out⟩

end Go.Proofs.YthloffgebebijaaGreat
