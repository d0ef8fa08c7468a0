/- FedA: bytes of a line in memory; the fourth byte of a message. No function of the program is named here. -/
import Derived.Test.YthloffgebebijaaExecA
import Derived.Laws.Bits64
namespace Go.Proofs.Ythloffgebebijaa
open Go.RowKit

theorem bits_xor_u8_nat (a b : Nat) (ha : a < 256) (hb : b < 256) : bits .xor .u8 (a : Int) (b : Int) = ((a ^^^ b : Nat) : Int) := by
  have hx : a ^^^ b < 2 ^ 8 := Nat.xor_lt_two_pow (by omega) (by omega)
  have h1 : (BitVec.ofInt 8 (a : Int)).toNat = a := by
    rw [BitVec.ofInt_natCast, BitVec.toNat_ofNat]; exact Nat.mod_eq_of_lt (by omega)
  have h2 : (BitVec.ofInt 8 (b : Int)).toNat = b := by
    rw [BitVec.ofInt_natCast, BitVec.toNat_ofNat]; exact Nat.mod_eq_of_lt (by omega)
  show IntKind.u8.wrap ((BitVec.ofInt 8 (a : Int) ^^^ BitVec.ofInt 8 (b : Int)).toNat : Int) = _
  rw [BitVec.toNat_xor, h1, h2]
  simp only [IntKind.wrap, IntKind.bits, IntKind.signed]
  simp
  omega
/-- The fourth byte of a message, as the program reckons it. -/
theorem xor3 {p q : Int} (hp : 0 ≤ p ∧ p < 256) (hq : 0 ≤ q ∧ q < 256) : bits .xor .u8 (bits .xor .u8 p q) 85 = ((((p.toNat ^^^ q.toNat) ^^^ 85 : Nat)) : Int) := by
  obtain ⟨a, rfl⟩ : ∃ a : Nat, p = a := ⟨p.toNat, by omega⟩
  obtain ⟨b, rfl⟩ : ∃ b : Nat, q = b := ⟨q.toNat, by omega⟩
  have hx : a ^^^ b < 2 ^ 8 := Nat.xor_lt_two_pow (by omega) (by omega)
  rw [bits_xor_u8_nat a b (by omega) (by omega)]
  exact bits_xor_u8_nat (a ^^^ b) 85 (by omega) (by omega)

structure FdIn (f : Fd) : Prop where
  b0 : 0 ≤ f.b
  b1 : f.b < 256
  t0 : 0 ≤ f.tick
  t1 : f.tick < 1000
def FdAt (w : World) (b o : Nat) (f : Fd) : Prop := w.cell? ⟨b, o, none⟩ = some (.int .u8 f.b) ∧ w.cell? ⟨b, o + 1, none⟩ = some (.int .i64 f.tick)
theorem FdAt.later {w w' : World} {B b o : Nat} {f : Fd} (h : FdAt w b o f) (hb : Below B w w') (hlt : b < B) : FdAt w' b o f :=
  ⟨(hb.cell (p := ⟨b, o, none⟩) hlt).trans h.1, (hb.cell (p := ⟨b, o + 1, none⟩) hlt).trans h.2⟩
/-- The value reads as the bytes of a line. -/
def FedsR (w : World) (B : Nat) (v : Value) (fs : List Fd) : Prop :=
  ∃ a cap, v = .slice a fs.length cap ∧ (fs = [] ∨ ∃ b o, a = some ⟨b, o, none⟩ ∧ b < B ∧ ∀ i f, fs[i]? = some f → FdAt w b (o + i * 2) f)
theorem FedsR.later {w w' : World} {B B' : Nat} {v : Value} {fs : List Fd} (h : FedsR w B v fs) (hb : Below B' w w') (hle : B ≤ B') : FedsR w' B v fs := by
  obtain ⟨a, cap, hv, h⟩ := h
  exact ⟨a, cap, hv, h.imp id fun ⟨b, o, ha, hlt, hc⟩ => ⟨b, o, ha, hlt, fun i f hi => (hc i f hi).later hb (by omega)⟩⟩

end Go.Proofs.Ythloffgebebijaa
