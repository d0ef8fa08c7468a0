/- BkStep: what an entry more does to the book: no walk. -/
import Derived.Test.YthloffgebebijaaGreatBookB
namespace Go.Proofs.YthloffgebebijaaGreat
open Go.RowKit

theorem book_postL {S : Nat → Prop} {B W : Nat} {ps vb vi ve vl vt : Value} {nb ni ne nl nt : Nat} {l l0 l1 l2 l3 v' : Value} {es : List (List Value)} {w w1 W3 w4 : World} (hS : ∀ k, S k → B ≤ k ∧ k < w.heap.size) (hSW : S W) (hB : B ≤ w.heap.size)
    (hW : Blk w W #[ps, vb, vi, ve, vl, vt] 36) (Eb : Ents w S B 59 5 1 markB vb nb) (Ei : Ents w S B 61 3 1 markI vi ni) (Ee : Ents w S B 64 149 5 markE ve ne) (Et : Ents w S B 68 55 3 markT vt nt)
    (o1 : w.ownsRow B 66 5 vl nl es.flatten) (o2 : es.length = nl) (o3 : ∀ k, vl.ownBlock = some k → S k) (o4 : ∀ (i : Nat) (c : List Value), es[i]? = some c → ∃ l0 l1 l2 l3, c = [l0, l1, l2, l3, .int .i64 i] ∧ Bears w S 52 2 (markL i) (.agg #[l0, l1, l2, l3, .int .i64 i]) i)
    (hl : ∀ k, l.ownBlock = some k → ¬ S k) (hgB : ∀ k, l.ownBlock = some k → B ≤ k ∧ k < w.heap.size)
    (hbe : Bears w1 (fun k => some k = l.ownBlock ∨ w.heap.size ≤ k) 52 2 (markL nl) (.agg #[l0, l1, l2, l3, .int .i64 nl]) nl) (hg : w.grownBy w1 l.ownBlock) (h3 : Below w1.heap.size w1 W3)
    (how : w4.ownsRow B 66 5 v' (nl + 1) (es.flatten ++ [l0, l1, l2, l3, Value.int .i64 nl])) (hgr : W3.grownBy w4 vl.ownBlock) (hat : v'.ownBlock = vl.ownBlock ∨ v'.ownBlock = some W3.heap.size) :
    ∃ S', BookAt (w4.setCell ⟨W, 4, none⟩ v') S' B W ps nb ni ne (nl + 1) nt ∧ (∀ k, S k → S' k) ∧ (∀ k, S' k → S k ∨ l.ownBlock = some k ∨ w.heap.size ≤ k) ∧ Fr (fun k => S k ∨ l.ownBlock = some k) w (w4.setCell ⟨W, 4, none⟩ v') := by
  have hz1 := hg.size
  have hz3 := h3.size
  have hz4 := hgr.size
  have hSk : ∀ k, S k → w1.heap[k]? = w.heap[k]? := fun k hk => hg.block k (hS k hk).2 (fun e => hl k e.symm hk)
  have hSb : ∀ k, S k → W3.heap[k]? = w.heap[k]? := fun k hk => (h3.block k (by have := (hS k hk).2; omega)).trans (hSk k hk)
  have hO : W3.ownsRow B 66 5 vl nl es.flatten := owns_same o1 fun k hk => hSb k (o3 k hk)
  have hbw : Blk W3 W #[ps, vb, vi, ve, vl, vt] 36 := (hSb W hSW).trans hW
  have hk4 := KeepBut.grown hgr hO (Nat.le_refl _)
  have hbw4 := hbw.kept hk4 (by decide)
  have hWS := hS W hSW
  have hks : KeepBut 36 B w4 (w4.setCell ⟨W, 4, none⟩ v') := KeepBut.set hbw4 hWS.1 _
  have hE : ∀ (i : Nat) (c : List Value), es[i]? = some c → ∃ z0 z1 z2 z3, c = [z0, z1, z2, z3, .int .i64 i] ∧ Bears W3 S 52 2 (markL i) (.agg #[z0, z1, z2, z3, .int .i64 i]) i := by
    intro i c hc
    obtain ⟨y0, y1, y2, y3, rfl, hb⟩ := o4 i c hc
    exact ⟨y0, y1, y2, y3, rfl, hb.same hSb fun _ => id⟩
  have hR : Bears W3 (fun k => S k ∨ l.ownBlock = some k ∨ w.heap.size ≤ k) 52 2 (markL nl) (.agg #[l0, l1, l2, l3, .int .i64 nl]) nl := by
    obtain ⟨y0, y1, y2, y3, m0, m1, m2, m3, he, ⟨b0, b1, b2, b3⟩, hb, hs⟩ := hbe
    have hlt : ∀ {v : Value} {q : Nat}, Mk w1 52 2 (markL nl) v q → Mk W3 52 2 (markL nl) v q := fun hv => hv.at_same fun k hk => h3.block k (World.ownsRow.lt hv k hk).2
    exact ⟨y0, y1, y2, y3, m0, m1, m2, m3, he, ⟨hlt b0, hlt b1, hlt b2, hlt b3⟩, hb, fun k hk => by rcases hs k hk with h | h; exact .inr (.inl h.symm); exact .inr (.inr h)⟩
  have hv4 : ∀ k, v'.ownBlock = some k → (S k ∨ l.ownBlock = some k ∨ w.heap.size ≤ k) := by
    intro k hk
    rcases hat with e | e
    · exact .inl (o3 k (e.symm.trans hk))
    · rw [e] at hk; simp only [Option.some.injEq] at hk; exact .inr (.inr (by omega))
  have hSS : ∀ k, S k → (S k ∨ l.ownBlock = some k ∨ w.heap.size ≤ k) := fun _ => .inl
  have hkX : ∀ {te e : TypeId} {size nq : Nat} {mark : Nat → List Value} {v : Value}, Ents w S B te e size mark v nq → te ≠ 66 → e ≠ 66 → te ≠ 36 → e ≠ 36 → Ents (w4.setCell ⟨W, 4, none⟩ v') (fun k => (S k ∨ l.ownBlock = some k ∨ w.heap.size ≤ k) ∧ k < (w4.setCell ⟨W, 4, none⟩ v').heap.size) B te e size mark v nq :=
    fun he t1 t2 t3 t4 => (((he.same hSb hSS).keptBut hk4 t1 t2).keptBut hks t3 t4).bound
  have hN : Ents (w4.setCell ⟨W, 4, none⟩ v') (fun k => (S k ∨ l.ownBlock = some k ∨ w.heap.size ≤ k) ∧ k < (w4.setCell ⟨W, 4, none⟩ v').heap.size) B 66 52 2 markL v' (nl + 1) :=
    ((Ents.snoc o2 hE hR hSS hk4 (by decide) how hv4).keptBut hks (by decide) (by decide)).bound
  have hz5 : (w4.setCell ⟨W, 4, none⟩ v').heap.size = w4.heap.size := by simp
  refine ⟨fun k => (S k ∨ l.ownBlock = some k ∨ w.heap.size ≤ k) ∧ k < (w4.setCell ⟨W, 4, none⟩ v').heap.size, ⟨?_, ⟨hSS W hSW, by omega⟩, _, _, _, _, _, hbw4.set 4 _, hkX Eb (by decide) (by decide) (by decide) (by decide), hkX Ei (by decide) (by decide) (by decide) (by decide), hkX Ee (by decide) (by decide) (by decide) (by decide), hN, hkX Et (by decide) (by decide) (by decide) (by decide)⟩, ?_, ?_, ?_⟩
  · rintro k ⟨hk | hk | hk, hlt⟩
    · exact ⟨(hS k hk).1, hlt⟩
    · exact ⟨(hgB k hk).1, hlt⟩
    · exact ⟨by omega, hlt⟩
  · intro k hk
    exact ⟨hSS k hk, by have := (hS k hk).2; omega⟩
  · rintro k ⟨hk, _⟩
    exact hk
  · have f1 : Fr (fun k => S k ∨ l.ownBlock = some k) w w1 := Fr.of_grown hg fun k hk _ => .inr hk
    have f2 : Fr (fun k => S k ∨ l.ownBlock = some k) w W3 := f1.trans (Fr.of_below (X := fun _ => False) h3) (fun _ _ h => h.elim)
    have f3 : Fr (fun k => S k ∨ l.ownBlock = some k) w w4 := f2.trans (Fr.of_grown (X := S) hgr fun k hk _ => o3 k hk) (fun _ _ h => .inl h)
    exact f3.trans (Fr.set w4 W 4 _ hSW) (fun _ _ h => .inl h)

theorem book_postT {S : Nat → Prop} {B W : Nat} {ps vb vi ve vl vt : Value} {nb ni ne nl nt : Nat} {l l0 l1 l2 l3 v' : Value} {es : List (List Value)} {w w1 W3 w4 : World} (hS : ∀ k, S k → B ≤ k ∧ k < w.heap.size) (hSW : S W) (hB : B ≤ w.heap.size)
    (hW : Blk w W #[ps, vb, vi, ve, vl, vt] 36) (Eb : Ents w S B 59 5 1 markB vb nb) (Ei : Ents w S B 61 3 1 markI vi ni) (Ee : Ents w S B 64 149 5 markE ve ne) (El : Ents w S B 66 52 2 markL vl nl)
    (o1 : w.ownsRow B 68 5 vt nt es.flatten) (o2 : es.length = nt) (o3 : ∀ k, vt.ownBlock = some k → S k) (o4 : ∀ (i : Nat) (c : List Value), es[i]? = some c → ∃ l0 l1 l2 l3, c = [l0, l1, l2, l3, .int .i64 i] ∧ Bears w S 55 3 (markT i) (.agg #[l0, l1, l2, l3, .int .i64 i]) i)
    (hl : ∀ k, l.ownBlock = some k → ¬ S k) (hgB : ∀ k, l.ownBlock = some k → B ≤ k ∧ k < w.heap.size)
    (hbe : Bears w1 (fun k => some k = l.ownBlock ∨ w.heap.size ≤ k) 55 3 (markT nt) (.agg #[l0, l1, l2, l3, .int .i64 nt]) nt) (hg : w.grownBy w1 l.ownBlock) (h3 : Below w1.heap.size w1 W3)
    (how : w4.ownsRow B 68 5 v' (nt + 1) (es.flatten ++ [l0, l1, l2, l3, Value.int .i64 nt])) (hgr : W3.grownBy w4 vt.ownBlock) (hat : v'.ownBlock = vt.ownBlock ∨ v'.ownBlock = some W3.heap.size) :
    ∃ S', BookAt (w4.setCell ⟨W, 5, none⟩ v') S' B W ps nb ni ne nl (nt + 1) ∧ (∀ k, S k → S' k) ∧ (∀ k, S' k → S k ∨ l.ownBlock = some k ∨ w.heap.size ≤ k) ∧ Fr (fun k => S k ∨ l.ownBlock = some k) w (w4.setCell ⟨W, 5, none⟩ v') := by
  have hz1 := hg.size
  have hz3 := h3.size
  have hz4 := hgr.size
  have hSk : ∀ k, S k → w1.heap[k]? = w.heap[k]? := fun k hk => hg.block k (hS k hk).2 (fun e => hl k e.symm hk)
  have hSb : ∀ k, S k → W3.heap[k]? = w.heap[k]? := fun k hk => (h3.block k (by have := (hS k hk).2; omega)).trans (hSk k hk)
  have hO : W3.ownsRow B 68 5 vt nt es.flatten := owns_same o1 fun k hk => hSb k (o3 k hk)
  have hbw : Blk W3 W #[ps, vb, vi, ve, vl, vt] 36 := (hSb W hSW).trans hW
  have hk4 := KeepBut.grown hgr hO (Nat.le_refl _)
  have hbw4 := hbw.kept hk4 (by decide)
  have hWS := hS W hSW
  have hks : KeepBut 36 B w4 (w4.setCell ⟨W, 5, none⟩ v') := KeepBut.set hbw4 hWS.1 _
  have hE : ∀ (i : Nat) (c : List Value), es[i]? = some c → ∃ z0 z1 z2 z3, c = [z0, z1, z2, z3, .int .i64 i] ∧ Bears W3 S 55 3 (markT i) (.agg #[z0, z1, z2, z3, .int .i64 i]) i := by
    intro i c hc
    obtain ⟨y0, y1, y2, y3, rfl, hb⟩ := o4 i c hc
    exact ⟨y0, y1, y2, y3, rfl, hb.same hSb fun _ => id⟩
  have hR : Bears W3 (fun k => S k ∨ l.ownBlock = some k ∨ w.heap.size ≤ k) 55 3 (markT nt) (.agg #[l0, l1, l2, l3, .int .i64 nt]) nt := by
    obtain ⟨y0, y1, y2, y3, m0, m1, m2, m3, he, ⟨b0, b1, b2, b3⟩, hb, hs⟩ := hbe
    have hlt : ∀ {v : Value} {q : Nat}, Mk w1 55 3 (markT nt) v q → Mk W3 55 3 (markT nt) v q := fun hv => hv.at_same fun k hk => h3.block k (World.ownsRow.lt hv k hk).2
    exact ⟨y0, y1, y2, y3, m0, m1, m2, m3, he, ⟨hlt b0, hlt b1, hlt b2, hlt b3⟩, hb, fun k hk => by rcases hs k hk with h | h; exact .inr (.inl h.symm); exact .inr (.inr h)⟩
  have hv4 : ∀ k, v'.ownBlock = some k → (S k ∨ l.ownBlock = some k ∨ w.heap.size ≤ k) := by
    intro k hk
    rcases hat with e | e
    · exact .inl (o3 k (e.symm.trans hk))
    · rw [e] at hk; simp only [Option.some.injEq] at hk; exact .inr (.inr (by omega))
  have hSS : ∀ k, S k → (S k ∨ l.ownBlock = some k ∨ w.heap.size ≤ k) := fun _ => .inl
  have hkX : ∀ {te e : TypeId} {size nq : Nat} {mark : Nat → List Value} {v : Value}, Ents w S B te e size mark v nq → te ≠ 68 → e ≠ 68 → te ≠ 36 → e ≠ 36 → Ents (w4.setCell ⟨W, 5, none⟩ v') (fun k => (S k ∨ l.ownBlock = some k ∨ w.heap.size ≤ k) ∧ k < (w4.setCell ⟨W, 5, none⟩ v').heap.size) B te e size mark v nq :=
    fun he t1 t2 t3 t4 => (((he.same hSb hSS).keptBut hk4 t1 t2).keptBut hks t3 t4).bound
  have hN : Ents (w4.setCell ⟨W, 5, none⟩ v') (fun k => (S k ∨ l.ownBlock = some k ∨ w.heap.size ≤ k) ∧ k < (w4.setCell ⟨W, 5, none⟩ v').heap.size) B 68 55 3 markT v' (nt + 1) :=
    ((Ents.snoc o2 hE hR hSS hk4 (by decide) how hv4).keptBut hks (by decide) (by decide)).bound
  have hz5 : (w4.setCell ⟨W, 5, none⟩ v').heap.size = w4.heap.size := by simp
  refine ⟨fun k => (S k ∨ l.ownBlock = some k ∨ w.heap.size ≤ k) ∧ k < (w4.setCell ⟨W, 5, none⟩ v').heap.size, ⟨?_, ⟨hSS W hSW, by omega⟩, _, _, _, _, _, hbw4.set 5 _, hkX Eb (by decide) (by decide) (by decide) (by decide), hkX Ei (by decide) (by decide) (by decide) (by decide), hkX Ee (by decide) (by decide) (by decide) (by decide), hkX El (by decide) (by decide) (by decide) (by decide), hN⟩, ?_, ?_, ?_⟩
  · rintro k ⟨hk | hk | hk, hlt⟩
    · exact ⟨(hS k hk).1, hlt⟩
    · exact ⟨(hgB k hk).1, hlt⟩
    · exact ⟨by omega, hlt⟩
  · intro k hk
    exact ⟨hSS k hk, by have := (hS k hk).2; omega⟩
  · rintro k ⟨hk, _⟩
    exact hk
  · have f1 : Fr (fun k => S k ∨ l.ownBlock = some k) w w1 := Fr.of_grown hg fun k hk _ => .inr hk
    have f2 : Fr (fun k => S k ∨ l.ownBlock = some k) w W3 := f1.trans (Fr.of_below (X := fun _ => False) h3) (fun _ _ h => h.elim)
    have f3 : Fr (fun k => S k ∨ l.ownBlock = some k) w w4 := f2.trans (Fr.of_grown (X := S) hgr fun k hk _ => o3 k hk) (fun _ _ h => .inl h)
    exact f3.trans (Fr.set w4 W 5 _ hSW) (fun _ _ h => .inl h)

end Go.Proofs.YthloffgebebijaaGreat
