/- An automaton that came in: its first row has room for itself. -/
import Derived.Test.YtpkjnkcdajngkaaAkn
import Derived.Test.YtpkjnkcdajngkaaFa
namespace Go.Proofs.Ytpkjnkcdajngkaa
open Go.ChangeShapes Go.WideShapes Go.ChangeAt Go.RowKit Go.Joins Go.Deep

set_option maxRecDepth 8000 in
theorem auto_cap0 {H : Type} {enc : TypeId × Value → H} {W : World} {base base' : Nat} {r : Reach} {b t : Int} {a a' : Option Addr} {len cap len' cap' : Nat} {d : DataW H} {p : List MemPlace} (hv : Value.okWide Try.prog W r base' 25 (.agg #[.int .i64 b, .int .i64 t, .slice a len cap, .slice a' len' cap'])) (h : DataW.Trod enc Try.prog W base (fun _ => true) true 25 (.agg #[.int .i64 b, .int .i64 t, .slice a len cap, .slice a' len' cap']) d p) (hn : 0 < len) : Cap0 W a := by
  obtain ⟨v0, v1, v2, v3, y0, y1, y2, y3, n, e, _, _, h0, h1, h2, h3⟩ := open_agg4 Try.underlying25 (by kernel_rfl) (by kernel_rfl) hv h
  cases e
  rcases open_int_rows Try.underlying22 Try.underlying26 Try.underlying3 (by kernel_rfl) (by kernel_rfl) h2 with ⟨hcs, _⟩ | ⟨A, L, C, Ad, Ln, Cp, Z, hcs, _, hl, hm, _, hr⟩
  · simp at hcs
    omega
  · simp at hcs
    obtain ⟨rfl, rfl, rfl⟩ := hcs
    intro b1 o1 x l c e hc
    cases e
    obtain ⟨g1, g2, -⟩ := hr 0 (by omega)
    rw [Go.WideShapes.add_plain, Nat.add_zero, hc] at g1
    cases g1
    exact g2
end Go.Proofs.Ytpkjnkcdajngkaa
