/- ask.List: contract. -/
import Derived.Test.YtpkjnkcdajngkaaAkh
namespace Go.Proofs.Ytpkjnkcdajngkaa
open Go.RowKit

/-- Which error List has. -/
def listC (b t : Int) (N : List (List Int)) (e : Nat) (most : Int) : Int := if autoC b t N e ≠ 0 then autoC b t N e else if most < 0 ∨ 200 < most then 1 else 0
/-- What List hands back. -/
def AskR (b t : Int) (N : List (List Int)) (E : List Bool) (most : Int) (w : World) (e : Ending) (w' : World) : Prop :=
  (listC b t N E.length most ≠ 0 ∧ e = .returned (.tuple #[.slice none 0 0, errV (listC b t N E.length most)]) ∧ Below w.heap.size w w') ∨
  (listC b t N E.length most = 0 ∧ ∃ al cl, e = .returned (.tuple #[.slice al ((clnL N E 401).take most.toNat).length cl, .nilIface]) ∧ Sl2 w' al ((clnL N E 401).take most.toNat).length ((clnL N E 401).take most.toNat) ∧ Below w.heap.size w w')
set_option maxHeartbeats 4000000 in
set_option maxRecDepth 4000 in
theorem askList_any (b t : Int) (a a' : Option Addr) (len cap len' cap' : Nat) (N : List (List Int)) (E : List Bool) (most : Int) (w : World) (hs : Sl2 w a len N) (he : SlB w a' len' E) :
    Calls Try.prog 5 #[.agg #[.int .i64 b, .int .i64 t, .slice a len cap, .slice a' len' cap'], .int .i64 most] w (AskR b t N E most w) := by
  have hEl := he.1
  have HB1 : Hid (Below w.heap.size w (w.alloc (.cells #[.int .i64 b, .int .i64 t, .slice a len cap, .slice a' len' cap'] 25))) := (Below.refl _ _).alloc (Nat.le_refl _) _
  have HBX := hide (fun W => @box4 w W (.int .i64 b) (.int .i64 t) (.slice a len cap) (.slice a' len' cap') 25)
  have HCK := hide (check_u b t a a' len cap len' cap' N _ (sl2_below hs HB1.out) he.2.1)
  have hx := HBX.out _ (Below.refl _ _)
  obtain ⟨x0, x1, x2, x3⟩ := hx
  generalize hw1 : w.alloc (.cells #[.int .i64 b, .int .i64 t, .slice a len cap, .slice a' len' cap'] 25) = w1 at HB1 HBX HCK x0 x1 x2 x3
  have hcode : listC b t N E.length most = if autoC b t N len' ≠ 0 then autoC b t N len' else if most < 0 ∨ 200 < most then 1 else 0 := by unfold listC; rw [hEl]
  have HS := hide hs
  have HE := hide he
  have hNl := hs.1
  clear hs he
  by_cases hA : autoC b t N len' = 0
  · obtain ⟨hM, hE, hG, hmu⟩ := autoC_zero hA
    rw [errV_yes hA] at HCK
    rw [if_neg (by simpa using hA)] at hcode
    rw [hNl] at hE hG
    subst hE
    clear hNl hM hmu hEl
    by_cases hr : most < 0 ∨ 200 < most
    · rw [if_pos hr] at hcode
      have HFIN : Hid (∀ w', Below w.heap.size w w' → AskR b t N E most w (.returned (.tuple #[.slice none 0 0, .iface 39 (.int .i64 1)])) w') := fun w' h => Or.inl ⟨by rw [hcode]; decide, by rw [hcode]; rfl, h⟩
      generalize AskR b t N E most w = R at HFIN ⊢
      by_cases h0 : most < 0
      · go_enter Try.func5, Try.ntmps5
        go_wp2_with (go_at_call 11; refine HCK.out.mono ?_; rintro e w2 ⟨rfl, hb2⟩; have HB2 := hide (below_step HB1.out hb2); clear hb2)
        all_goals first | (exfalso; omega) | (exact HFIN.out _ HB2.out)
      · have h1 : 200 < most := by omega
        go_enter Try.func5, Try.ntmps5
        go_wp2_with (go_at_call 11; refine HCK.out.mono ?_; rintro e w2 ⟨rfl, hb2⟩; have HB2 := hide (below_step HB1.out hb2); clear hb2)
        all_goals first | (exfalso; omega) | (exact HFIN.out _ HB2.out)
    · rw [if_neg hr] at hcode
      obtain ⟨mst, rfl⟩ : ∃ mst : Nat, most = mst := ⟨most.toNat, by omega⟩
      have hm0 : ¬ (mst : Int) < 0 := by omega
      have hm1 : ¬ (200 : Int) < (mst : Int) := by omega
      have hm2 : mst ≤ 200 := by omega
      have HFIN : Hid (∀ al cl w', Sl2 w' al ((clnL N E 401).take mst).length ((clnL N E 401).take mst) → Below w.heap.size w w' → AskR b t N E mst w (.returned (.tuple #[.slice al ((clnL N E 401).take mst).length cl, .nilIface])) w') := fun al cl w' h1 h2 => Or.inr ⟨hcode, al, cl, rfl, h1, h2⟩
      generalize AskR b t N E mst w = R at HFIN ⊢
      go_enter Try.func5, Try.ntmps5
      go_wp2_with (go_at_call 11; refine HCK.out.mono ?_; rintro e w2 ⟨rfl, hb2⟩; have HB2 := hide hb2; obtain ⟨y0, y1, y2, y3⟩ := HBX.out w2 hb2; clear hb2)
      have HSA := hide (sl2_below (sl2_below HS.out HB1.out) HB2.out)
      have HEA := hide (slB_below (slB_below HE.out HB1.out) HB2.out)
      have HAL := hide (alive_any b t a len' cap a' cap' N E (manyU b t).toNat 400 w2.drew (sl2_below HSA.out (Below.refl _ _).drew) hG (slB_below HEA.out (Below.refl _ _).drew) (by omega))
      have HB4 := hide (below_step HB1.out HB2.out)
      have HFW := hide (fun (W : World) (g K cK : Nat) (hK : K ≤ 400 + 1) (hb : Below w2.heap.size w2 W) hr => firstWords_any b t a len' cap a' cap' N E (manyU b t).toNat g K cK mst W (sl2_below HSA.out hb) hG hr (by omega) hm2)
      have HCL : Hid (∀ K, K ≤ 400 + 1 → (K ≤ 400 → (alvR N E K).any id = false) → clnL N E K = clnL N E 401) := fun K h1 h2 => by
        by_cases h : K ≤ 400
        · refine (cln_late hG (show K ≤ 401 by omega) fun s hs => ?_).symm
          have h3 := List.any_eq_false.1 (h2 h)
          have hlen : (alvR N E K).length = N.length := alvR_len N E (by rw [HE.out.1, hG.1]) K
          rw [getDb (by rw [hlen, hG.1]; exact hs)]
          cases hb : (alvR N E K)[s]'(by rw [hlen, hG.1]; exact hs) with
          | false => rfl
          | true => exact absurd hb (by simpa using h3 _ (List.getElem_mem (by rw [hlen, hG.1]; exact hs)))
        · rw [show K = 401 by omega]
      have HDR : Hid (Below w2.heap.size w2 w2.drew) := (Below.refl _ _).drew
      clear x0 x1 x2 x3
      rw [show ((400 : Nat) : Int) = 400 from rfl] at HAL
      unfold AlvR at HAL
      obtain ⟨RL, hRL⟩ : ∃ RL, (clnL N E 401).take mst = RL := ⟨_, rfl⟩
      have HCM : Hid (∀ K, K ≤ 400 + 1 → (K ≤ 400 → (alvR N E K).any id = false) → (clnL N E K).take mst = RL) := fun K h1 h2 => by rw [HCL.out K h1 h2, hRL]
      rw [hRL] at HFIN
      clear hRL HCL
      go_region_law (first
        | (go_simp; go_at_call 13; refine HAL.out.mono ?_; rintro e w3 ⟨g, K, cK, rfl, hK1, hK2, hK3, hsr, hb3⟩; have HB3 : Hid (Below w2.heap.size w2 w3) := HDR.out.trans hb3; have HC := hide (HFW.out w3 g K cK hK2 HB3.out hsr); rw [HCM.out K hK2 hK3] at HC; obtain ⟨q0, q1, q2, q3⟩ := HBX.out w3 (below_step HB2.out HB3.out); clear hb3 hsr)
        | (go_simp; go_at_call 12; refine HC.out.mono ?_; rintro e w4 ⟨al, cl, rfl, hsl, hb4⟩; have HB5 := hide (below_step (below_step HB4.out HB3.out) hb4); have HFN := hide (HFIN.out al cl w4 hsl HB5.out); clear hsl hb4))
      all_goals
        go_wp2
        go_ret2
        exact HFN.out
  · rw [if_pos hA] at hcode
    have HFIN : Hid (∀ w', Below w.heap.size w w' → AskR b t N E most w (.returned (.tuple #[.slice none 0 0, errV (autoC b t N len')])) w') := fun w' h => Or.inl ⟨by rw [hcode]; exact hA, by rw [hcode], h⟩
    have hne : errV (autoC b t N len') = .iface 39 (.int .i64 (autoC b t N len')) := by unfold errV; rw [if_neg hA]
    rw [hne] at HCK HFIN
    generalize AskR b t N E most w = R at HFIN ⊢
    go_enter Try.func5, Try.ntmps5
    go_wp2_with (go_at_call 11; refine HCK.out.mono ?_; rintro e w2 ⟨rfl, hb2⟩; have HB2 := hide (below_step HB1.out hb2); clear hb2)
    exact HFIN.out _ HB2.out
end Go.Proofs.Ytpkjnkcdajngkaa
