/- The reference's likes: contract. -/
import Derived.Test.YtihhlddbppljpacDoorAd
import Derived.Test.YtihhlddbppljpacDoorBm
namespace Go.Proofs.YtihhlddbppljpacDoor
open Go.RowKit

/-- Are two states, and the classes of their nexts, alike? -/
def likeB (N : List (List Int)) (E : List Bool) (C : List Int) (m s t : Nat) : Bool := (E.getD s false == E.getD t false) && ((C.getD s 0 == C.getD t 0) && (List.range m).all fun j => C.getD (nxt N s j) 0 == C.getD (nxt N t j) 0)
theorem likeB_iff {N : List (List Int)} {E : List Bool} {C : List Int} {m s t : Nat} : likeB N E C m s t = true ↔ E.getD s false = E.getD t false ∧ C.getD s 0 = C.getD t 0 ∧ ∀ j, j < m → C.getD (nxt N s j) 0 = C.getD (nxt N t j) 0 := by
  simp only [likeB, Bool.and_eq_true, beq_iff_eq, List.all_eq_true, List.mem_range]
theorem likeB_no {N : List (List Int)} {E : List Bool} {C : List Int} {m s t : Nat} (h : ¬ (E.getD s false = E.getD t false ∧ C.getD s 0 = C.getD t 0 ∧ ∀ j, j < m → C.getD (nxt N s j) 0 = C.getD (nxt N t j) 0)) : likeB N E C m s t = false := by
  cases e : likeB N E C m s t with
  | false => rfl
  | true => exact absurd (likeB_iff.1 e) h
theorem nxt_cell {m n : Nat} {N : List (List Int)} (hG : GoodN m n N) {s j : Nat} (hs : s < n) (hj : j < m) : nxt N s j < n ∧ (N.getD s []).getD j 0 = ((nxt N s j : Nat) : Int) := by
  have := (hG.2.2.2.2.2 s hs).2 j hj
  unfold nxt; omega

set_option maxHeartbeats 4000000 in
set_option maxRecDepth 4000 in
theorem likes_any (a : Option Addr) (n cap m : Nat) (N : List (List Int)) (a' : Option Addr) (cap' : Nat) (E : List Bool) (ac : Option Addr) (cc : Nat) (C : List Int) (s t : Nat) (w : World) (hs : Sl2 w a n N) (hG : GoodN m n N) (he : SlB w a' n E) (hc : Sl w ac n C) (hsn : s < n) (htn : t < n) :
    Calls Tryd.prog 23 #[.slice a n cap, .slice a' n cap', .slice ac n cc, .int .i64 s, .int .i64 t] w fun e w' => e = .returned (.bool (likeB N E C m s t)) ∧ ∃ k, w' = w.drewN k := by
  have hn80 := hG.2.2.1
  have hm36 := hG.2.2.2.1
  have hsi : (s : Int) < (n : Int) := by omega
  have hti : (t : Int) < (n : Int) := by omega
  obtain ⟨be, oe, rfl, hes⟩ := slB_cell he s hsn
  obtain ⟨_, _, e1, het⟩ := slB_cell he t htn
  cases e1
  obtain ⟨bc, oc, rfl, hcs⟩ := sl_cell hc s hsn
  obtain ⟨_, _, e1, hct⟩ := sl_cell hc t htn
  cases e1
  obtain ⟨bn, on, a1, c1, rfl, hns, hs1⟩ := sl2_cell hs s hsn
  obtain ⟨_, _, a2, c2, e1, hnt, hs2⟩ := sl2_cell hs t htn
  cases e1
  rw [(hG.2.2.2.2.2 s hsn).1] at hns hs1
  rw [(hG.2.2.2.2.2 t htn).1] at hnt hs2
  have HNO := hide (@likeB_no N E C m s t)
  have HIF := hide (@likeB_iff N E C m s t)
  have HX : Hid (∀ j, j < m → ∃ b1 o1 b2 o2 x y, a1 = some ⟨b1, o1, none⟩ ∧ a2 = some ⟨b2, o2, none⟩ ∧ w.cell? ⟨b1, o1 + j, none⟩ = some (.int .i64 (x : Nat)) ∧ w.cell? ⟨b2, o2 + j, none⟩ = some (.int .i64 (y : Nat)) ∧ x < n ∧ y < n ∧ w.cell? ⟨bc, oc + x, none⟩ = some (.int .i64 (C.getD (nxt N s j) 0)) ∧ w.cell? ⟨bc, oc + y, none⟩ = some (.int .i64 (C.getD (nxt N t j) 0))) := by
    intro j hj
    obtain ⟨b1, o1, e1, h1⟩ := sl_cell hs1 j hj
    obtain ⟨b2, o2, e2, h2⟩ := sl_cell hs2 j hj
    have n1 := nxt_cell hG hsn hj
    have n2 := nxt_cell hG htn hj
    rw [n1.2] at h1
    rw [n2.2] at h2
    obtain ⟨_, _, e3, h3⟩ := sl_cell hc _ n1.1
    cases e3
    obtain ⟨_, _, e3, h4⟩ := sl_cell hc _ n2.1
    cases e3
    exact ⟨b1, o1, b2, o2, _, _, e1, e2, h1, h2, n1.1, n2.1, h3, h4⟩
  clear hs he hc hG hs1 hs2
  generalize likeB N E C m s t = R at HNO HIF ⊢
  generalize E.getD s false = es at hes HNO HIF
  generalize E.getD t false = et at het HNO HIF
  generalize hcsv : C.getD s 0 = cs at hcs HNO HIF
  generalize hctv : C.getD t 0 = ct at hct HNO HIF
  clear hcsv hctv
  by_cases h1 : es = et
  · by_cases h2 : cs = ct
    · have HOK : Hid ((∀ q, q < m → C.getD (nxt N s q) 0 = C.getD (nxt N t q) 0) → R = true) := fun h => HIF.out.2 ⟨h1, h2, h⟩
      replace HNO : Hid (¬ (∀ q, q < m → C.getD (nxt N s q) 0 = C.getD (nxt N t q) 0) → R = false) := fun h => HNO.out (fun hh => h hh.2.2)
      clear HIF
      subst h1
      subst h2
      have h1' : (es != es) = false := by simp
      have h2' : (cs != cs) = false := by simp
      have HNS := hide hns
      have HNT := hide hnt
      go_enter Tryd.func23, Tryd.ntmps23
      go_wp2
      go_quiet (fail)
      go_wp2
      clear hes het hcs hct hns hnt
      go_loopw [11] (fun i wx => ∃ j k : Nat, j ≤ m ∧ i = .int .i64 j ∧ wx = w.drewN k ∧ ∀ q, q < j → C.getD (nxt N s q) 0 = C.getD (nxt N t q) 0) (fun i _ => m - (intOf i).toNat)
      case atStart => exact ⟨0, nq, by omega, rfl, rfl, by omega⟩
      case round =>
        obtain ⟨j, k, hj, rfl, hwx, hd⟩ := hrel
        have HWX := hide hwx
        have HD := hide hd
        have hns : wr.cell? ⟨bn, on + s, none⟩ = some (.slice a1 m c1) := by rw [hwx]; exact HNS.out
        have hnt : wr.cell? ⟨bn, on + t, none⟩ = some (.slice a2 m c2) := by rw [hwx]; exact HNT.out
        clear hwx hd
        by_cases hlt : j < m
        · have hlti : (j : Int) < (m : Int) := by omega
          obtain ⟨b1, o1, b2, o2, x, y, rfl, rfl, h1, h2, hx, hy, h3, h4⟩ := HX.out j hlt
          have g1 : wr.cell? ⟨b1, o1 + j, none⟩ = some (.int .i64 (x : Nat)) := by rw [HWX.out]; exact h1
          have g2 : wr.cell? ⟨b2, o2 + j, none⟩ = some (.int .i64 (y : Nat)) := by rw [HWX.out]; exact h2
          have g3 : wr.cell? ⟨bc, oc + x, none⟩ = some (.int .i64 (C.getD (nxt N s j) 0)) := by rw [HWX.out]; exact h3
          have g4 : wr.cell? ⟨bc, oc + y, none⟩ = some (.int .i64 (C.getD (nxt N t j) 0)) := by rw [HWX.out]; exact h4
          clear h1 h2 h3 h4
          have hxi : (x : Int) < (n : Int) := by omega
          have hyi : (y : Int) < (n : Int) := by omega
          have HD' : Hid (C.getD (nxt N s j) 0 = C.getD (nxt N t j) 0 → ∀ q, q < j + 1 → C.getD (nxt N s q) 0 = C.getD (nxt N t q) 0) := by
            intro h q hq
            by_cases e : q = j
            · subst e; exact h
            · exact HD.out q (by omega)
          have HN' : Hid (C.getD (nxt N s j) 0 ≠ C.getD (nxt N t j) 0 → R = false) := fun h => HNO.out (fun hh => h (hh j hlt))
          generalize C.getD (nxt N s j) 0 = p at g3 HD' HN'
          generalize C.getD (nxt N t j) 0 = q at g4 HD' HN'
          by_cases hpq : p = q
          · subst hpq
            have HD2 := hide (HD'.out rfl)
            have hpp : (p != p) = false := by simp
            clear HN' HD'
            go_wp2
            go_quiet (fail)
            go_wp2
            go_roundw
            case rel => exact ⟨j + 1, k + nq, by omega, by go_num, by rw [HWX.out, World.drewN_drewN], HD2.out⟩
            case measure => simp [intOf]; omega
          · have HF := hide (HN'.out hpq)
            have hpp : (p != q) = true := by simpa using hpq
            clear HN' HD'
            go_wp2
            go_quiet (fail)
            go_wp2
            go_ret
            exact ⟨by rw [HF.out]; simp, k + nq, by rw [HWX.out, World.drewN_drewN]⟩
        · have hlti : ¬ ((j : Int) < (m : Int)) := by omega
          have HT := hide (HOK.out fun q hq => HD.out q (by omega))
          go_wp2
          go_ret
          exact ⟨by rw [HT.out]; simp, k, by rw [HWX.out]⟩
    · have HF := hide (HNO.out (fun hh => h2 hh.2.1))
      subst h1
      have h1' : (es != es) = false := by simp
      have h2' : (cs != ct) = true := by simpa using h2
      clear h2 HNO HIF HX hns hnt
      go_enter Tryd.func23, Tryd.ntmps23
      go_wp2
      go_quiet (fail)
      go_wp2
      go_ret
      exact ⟨by rw [HF.out]; simp, nq, rfl⟩
  · have HF := hide (HNO.out (fun hh => h1 hh.1))
    clear HNO HIF HX hns hnt hcs hct
    rcases es with _ | _ <;> rcases et with _ | _
    · exact absurd rfl h1
    · clear h1
      go_enter Tryd.func23, Tryd.ntmps23
      go_wp2
      go_quiet (fail)
      go_wp2
      go_ret
      exact ⟨by rw [HF.out]; simp, nq, rfl⟩
    · clear h1
      go_enter Tryd.func23, Tryd.ntmps23
      go_wp2
      go_quiet (fail)
      go_wp2
      go_ret
      exact ⟨by rw [HF.out]; simp, nq, rfl⟩
    · exact absurd rfl h1
end Go.Proofs.YtihhlddbppljpacDoor
