/- Contracts of the small functions of package digit: isBase, kinds, check, hasOnesSideBySide; of filbertsame.Ints. -/
import Derived.Test.YtlgjadnkokmjoaaDoorRows
import Derived.Below
import Derived.BigQuiet
import Derived.Deep.QuietTactic
import Derived.WalkKit
namespace Go.Proofs.YtlgjadnkokmjoaaDoor
open Go.RowKit

/-- The slice value v reads, in w, as the numbers l. -/
def Sl (w : World) (a : Option Addr) (len : Nat) (l : List Int) : Prop :=
  l.length = len ∧ len ≤ maxLen ∧ (∀ n ∈ l, (Lit.int .i64 n).wf = true) ∧
  (len = 0 ∨ ∃ b o, a = some ⟨b, o, none⟩ ∧ ∀ i, i < len → w.cell? ⟨b, o + i, none⟩ = some (.int .i64 (l.getD i 0)))

theorem isBase_yes (b : Int) (w : World) (h1 : 1 ≤ b) (h2 : b ≤ 6) :
    Calls Tryd.prog 62 #[.int .i64 b] w fun e w' => e = .returned (.bool true) ∧ w' = w := by
  go_enter Tryd.func62, Tryd.ntmps62
  go_wp2
  go_ret
  exact ⟨by simp, rfl⟩

theorem hide {p : Prop} (h : p) : Hid p := h

theorem isBase_no (b : Int) (w : World) (h : b < 1 ∨ 6 < b) :
    Calls Tryd.prog 62 #[.int .i64 b] w fun e w' => e = .returned (.bool false) ∧ w' = w := by
  rcases h with h | h
  · go_enter Tryd.func62, Tryd.ntmps62
    go_wp2
    go_ret
    exact ⟨by simp, rfl⟩
  · have h1 : 1 ≤ b := by omega
    go_enter Tryd.func62, Tryd.ntmps62
    go_wp2
    go_ret
    exact ⟨by simp; omega, rfl⟩

def kindsI (b : Int) : Int := if b ≤ 2 then 2 else b

theorem kinds_any (b : Int) (w : World) (h1 : 1 ≤ b) (h2 : b ≤ 6) :
    Calls Tryd.prog 55 #[.int .i64 b] w fun e w' => e = .returned (.int .i64 (kindsI b)) ∧ w' = w := by
  go_enter Tryd.func55, Tryd.ntmps55
  go_wp2
  all_goals
    go_ret
    refine ⟨?_, rfl⟩
    simp [kindsI]
    omega

/-- Is each of l a digit of base b? -/
def digB (b : Int) (l : List Int) : Bool := l.all fun x => decide (0 ≤ x ∧ x < kindsI b)

theorem digB_take_succ (b : Int) (l : List Int) (k : Nat) (h : k < l.length) : digB b (l.take (k + 1)) = (digB b (l.take k) && decide (0 ≤ l.getD k 0 ∧ l.getD k 0 < kindsI b)) := by
  unfold digB
  rw [List.take_succ_eq_append_getElem h, List.all_append]
  simp [List.getD, h]


def chkV (b : Int) (l : List Int) : Value := if digB b l = true then .nilIface else .iface 26 (.int .i64 1)

theorem digB_not (b : Int) (l : List Int) (k : Nat) (h : k < l.length) (hx : ¬ (0 ≤ l.getD k 0 ∧ l.getD k 0 < kindsI b)) : chkV b l = .iface 26 (.int .i64 1) := by
  unfold chkV
  rw [if_neg]
  intro hd
  unfold digB at hd
  rw [List.all_eq_true] at hd
  have := hd (l.getD k 0) (by simp [List.getD, h])
  exact hx (by simpa using this)

theorem sl_cell {w : World} {a : Option Addr} {len : Nat} {l : List Int} (hs : Sl w a len l) (k : Nat) (hk : k < len) :
    ∃ b o, a = some ⟨b, o, none⟩ ∧ w.cell? ⟨b, o + k, none⟩ = some (.int .i64 (l.getD k 0)) := by
  rcases hs.2.2.2 with h | ⟨b, o, h, hc⟩
  · omega
  · exact ⟨b, o, h, hc k hk⟩

end Go.Proofs.YtlgjadnkokmjoaaDoor
