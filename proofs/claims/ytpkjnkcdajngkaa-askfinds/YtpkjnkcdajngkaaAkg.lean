/- ask.firstWords$1 whole: by the count of letters that are left. -/
import Derived.Test.YtpkjnkcdajngkaaAkf
namespace Go.Proofs.Ytpkjnkcdajngkaa
open Go.RowKit

section
variable {N : List (List Int)} {E : List Bool} {most k s0 : Nat} {L : List (List Int)} {p : List Int}
/-- What is listed behind x letters of the loop. -/
def visP (N : List (List Int)) (E : List Bool) (most k s0 : Nat) (L : List (List Int)) (p : List Int) (x : Nat) : List (List Int) :=
  (L ++ ((List.range x).flatMap fun y => if decide (p = []) = true ∧ y = 0 then [] else (wdsG N E false k (nxt N s0 y)).map fun w => (y : Int) :: w).map fun w => p ++ w).take most
theorem visP_zero (h : L.length ≤ most) : visP N E most k s0 L p 0 = L := by
  unfold visP
  simp [List.take_of_length_le h]
theorem visP_len {x : Nat} : (visP N E most k s0 L p x).length ≤ most := by
  unfold visP
  rw [List.length_take]
  omega
theorem visP_end {m n : Nat} (hG : GoodN m n N) (hs : s0 < n) : visP N E most k s0 L p m = visL N E most (k + 1) s0 L p := by
  unfold visP visL
  rw [wdsG, (hG.2.2.2.2.2 s0 hs).1]
theorem take_take_app {A B : List (List Int)} {m : Nat} : (A.take m ++ B).take m = (A ++ B).take m := by
  rw [List.take_append, List.take_append, List.take_take, Nat.min_self, List.length_take]
  by_cases h : A.length ≤ m
  · rw [Nat.min_eq_right h]
  · rw [Nat.min_eq_left (by omega), Nat.sub_self, show m - A.length = 0 by omega]
theorem visP_skip (hp : p = []) : visP N E most k s0 L p 1 = visP N E most k s0 L p 0 := by
  unfold visP
  subst hp
  simp
theorem visP_succ {x : Nat} (h : ¬ (p = [] ∧ x = 0)) : visL N E most k (nxt N s0 x) (visP N E most k s0 L p x) (p ++ [(x : Int)]) = visP N E most k s0 L p (x + 1) := by
  unfold visL
  unfold visP
  rw [take_take_app, List.range_succ, List.flatMap_append, List.map_append, ← List.append_assoc]
  congr 2
  rw [show decide (p ++ [(x : Int)] = []) = false by simp, List.flatMap_cons, List.flatMap_nil, List.append_nil, if_neg (by simpa using h), List.map_map]
  refine List.map_congr_left fun w _ => ?_
  simp
theorem visL_full (h : L.length = most) : visL N E most k s0 L p = L := by
  unfold visL
  rw [List.take_append, List.take_of_length_le (by omega), h, Nat.sub_self]
  simp
theorem visL_dead {m n : Nat} (hG : GoodN m n N) (hs : s0 < n) (h : L.length ≤ most) (hd : (alvR N E k).getD s0 false = false) : visL N E most k s0 L p = L := by
  unfold visL
  rw [wds_root hG hs hd]
  simp [List.take_of_length_le h]
theorem visL_zero (h : L.length < most) (hd : (alvR N E 0).getD s0 false = true) : visL N E most 0 s0 L p = L ++ [p] := by
  have hd' : E.getD s0 false = true := hd
  unfold visL wdsG
  rw [if_pos hd']
  simp only [List.map_cons, List.append_nil, List.map_nil]
  exact List.take_of_length_le (by simp; omega)
end
theorem own_some {W : World} {base : Nat} {e : TypeId} {v : Value} {n : Nat} {xs : List Value} (h : W.ownsRow base e 1 v n xs) (hn : 0 < n) : ∃ g c, v = .slice (some ⟨g, 0, none⟩) n c ∧ n ≤ c ∧ c ≤ maxLen := by
  rcases h.2 with ⟨e1, e2⟩ | ⟨g, cp, cur, e, q1, q2, q3, q4, -⟩
  · omega
  · exact ⟨g, cp, e, q3, q4⟩
set_option maxHeartbeats 4000000 in
set_option maxRecDepth 4000 in
theorem visit_any {wS : World} {s : Nat} {b t : Int} {a : Option Addr} {n cap : Nat} {a' : Option Addr} {cap' : Nat} {N : List (List Int)} {E : List Bool} {g K cK most m : Nat} (hS : FwS wS s b t a n cap a' cap' N E g K cK most) (hG : GoodN m n N) (hm : most ≤ 200) : ∀ (k s0 : Nat) {vL vW : Value} {vals : List Value} {L : List (List Int)} {p : List Int} {W : World}, FwI wS s vL vW vals L p W → L.length ≤ most → k < K → s0 < n → p.length + k ≤ 900 → (∀ x ∈ p, 0 ≤ x ∧ x < 1000) →
    Calls Try.prog 18 #[.int .i64 (s0 : Int), .int .i64 (k : Int), .pointer (some ⟨s + 3, 0, none⟩), .pointer (some ⟨s + 2, 0, none⟩), .pointer (some ⟨s + 1, 0, none⟩), .pointer (some ⟨s + 4, 0, none⟩), .pointer (some ⟨s, 0, none⟩), .pointer (some ⟨s + 5, 0, none⟩)] W (VisR wS s (visL N E most k s0 L p) p) := by
  intro k
  induction k with
  | zero =>
    intro s0 vL vW vals L p W h hL hk hs0 hp hx
    by_cases hf : L.length = most
    · rw [visL_full hf]
      exact visit_full hS 0 s0 h (Or.inl hf)
    · cases hal : (alvR N E 0).getD s0 false with
      | false =>
        rw [visL_dead hG hs0 hL hal]
        exact visit_full hS 0 s0 h (Or.inr ⟨by omega, hk, hs0, hal⟩)
      | true =>
        rw [visL_zero (by omega) hal]
        exact visit_zero hS s0 h (by omega) hk hs0 hal hm (by omega) (fun x h => Go.WalkArith.wf_i64 (by have := hx x h; omega))
  | succ k ih =>
    intro s0 vL vW vals L p W h hL hk hs0 hp hx
    by_cases hf : L.length = most
    · rw [visL_full hf]
      exact visit_full hS (k + 1) s0 h (Or.inl hf)
    · cases hal : (alvR N E (k + 1)).getD s0 false with
      | false =>
        rw [visL_dead hG hs0 hL hal]
        exact visit_full hS (k + 1) s0 h (Or.inr ⟨by omega, hk, hs0, hal⟩)
      | true =>
        rw [← visP_end hG hs0]
        have hc0 := (one_cell h.lbox).1
        have hc1 := hS.mst W h.stat
        have hc2 := hS.rows W h.stat
        have hc5 := hS.auto W h.stat
        obtain ⟨al, cl, rfl⟩ := own_form h.lown
        have HI0 := hide h
        have hLi : ((L.length : Int) == (most : Int)) = false := by simp; omega
        obtain ⟨ar, cr, hc3, hr⟩ := hS.alv W h.bel (k + 1) hk
        obtain ⟨b1, o1, rfl, hc4⟩ := slB_cell hr s0 hs0
        obtain ⟨kk, hkk⟩ : ∃ kk : Int, ((k + 1 : Nat) : Int) = kk := ⟨_, rfl⟩
        have hkz : (kk == 0) = false := by simp; omega
        have hki : kk < (K : Int) := by omega
        have hki0 : 0 ≤ kk := by omega
        have hkn : kk.toNat = k + 1 := by omega
        have hsi : (s0 : Int) < (n : Int) := by omega
        have HKK : Hid (kk - 1 = (k : Int)) := by show _ = _; omega
        obtain ⟨bn, on, ax, cx, rfl, hnx⟩ := hS.next hs0
        rw [hal] at hc4
        obtain ⟨hrl, hrb⟩ := hG.2.2.2.2.2 s0 hs0
        rw [hrl] at hnx
        have hc6 := (hnx W h.bel).1
        have HNX := hide (fun W2 h2 => (hnx W2 h2).2)
        have HRB := hide hrb
        have HIH := hide (fun (s1 : Nat) (vL vW : Value) (vals : List Value) (L : List (List Int)) (q : List Int) (W : World) h1 h2 h3 h4 h5 => @ih s1 vL vW vals L q W h1 h2 (by omega) h3 h4 h5)
        have HX := hide hx
        clear hr hal ih hx hnx hrb hrl
        rw [hkk]
        go_enter Try.func18, Try.ntmps18
        go_wp2
        have HI1 : Hid (∃ vL vW vals, FwI wS s vL vW vals (visP N E most k s0 L p 0) p W) := by
          rw [hide (visP_zero hL) |>.out]
          exact ⟨_, _, _, HI0.out⟩
        clear hc0 hc1 hc2 hc3 hc4 hc5 hc6
        have hm36 := hG.2.2.2.1
        go_loopw [39] (fun i wx => ∃ x : Nat, x ≤ m ∧ i = .int .i64 x ∧ ∃ vL vW vals, FwI wS s vL vW vals (visP N E most k s0 L p x) p wx) (fun i _ => m - (intOf i).toNat)
        case atStart => exact ⟨0, by omega, rfl, HI1.out⟩
        case round =>
          obtain ⟨x, hxm, rfl, vL2, vW2, vals2, hI⟩ := hrel
          have HI := hide hI
          have HPL := hide (visP_len (N := N) (E := E) (most := most) (k := k) (s0 := s0) (L := L) (p := p) (x := x))
          by_cases hlt : x < m
          · have hlti : (x : Int) < (m : Int) := by omega
            obtain ⟨bx, ox, rfl, hcx⟩ := sl_cell (HNX.out wr hI.bel) x hlt
            obtain ⟨r0, r1⟩ := HRB.out x hlt
            have hs1 : (N.getD s0 []).getD x 0 = ((nxt N s0 x : Nat) : Int) := by unfold nxt; omega
            have HS1n : Hid (nxt N s0 x < n) := by show _ < _; omega
            rw [hs1] at hcx
            obtain ⟨aw, cw, rfl⟩ := own_form hI.wown
            have hcw := (one_cell hI.wbox).1
            by_cases hsk : p = [] ∧ x = 0
            · obtain ⟨hp0, rfl⟩ := hsk
              have HN : Hid (∃ vL vW vals, FwI wS s vL vW vals (visP N E most k s0 L p 1) p wr) := by
                rw [hide (visP_skip hp0) |>.out]
                exact ⟨_, _, _, hI⟩
              replace hcx : wr.cell? ⟨bx, ox, none⟩ = some (.int .i64 ((nxt N s0 0 : Nat) : Int)) := hcx
              have hpl : p.length = 0 := by rw [hp0]; rfl
              rw [hpl] at hcw
              clear hI hp0 hs1 r0 r1
              go_wp2
              go_roundw
              case rel => exact ⟨1, by omega, by go_num, HN.out⟩
              case measure => simp [intOf]; omega
            · have hpx : ((p.length : Int) == 0) = true ∧ ((x : Int) == 0) = false ∨ ((p.length : Int) == 0) = false := by
                by_cases hp0 : p = []
                · left
                  subst hp0
                  refine ⟨rfl, ?_⟩
                  have : x ≠ 0 := fun e => hsk ⟨rfl, e⟩
                  simp; omega
                · right
                  have : 0 < p.length := Nat.pos_of_ne_zero fun e => hp0 (List.length_eq_zero_iff.1 e)
                  simp; omega
              have hpl9 : p.length ≤ 899 := by omega
              have HIHx := hide (fun (vL vW : Value) (vals : List Value) (W : World) h1 => HIH.out (nxt N s0 x) vL vW vals _ (p ++ [(x : Int)]) W h1 HPL.out HS1n.out (by simp; omega) (fun y hy => by
                rcases List.mem_append.1 hy with hy | hy
                · exact HX.out y hy
                · simp only [List.mem_singleton] at hy
                  omega))
              rw [visP_succ hsk] at HIHx
              obtain ⟨i0, hi0, hz0, hz1, hz2⟩ := info_parts info3
              have HWO := hide hI.wown
              have HTOP := hide hI.top
              have HPU := hide (fun o w3 g' c' h1 h2 h3 => @fwI_push wS s vL2 (.slice aw p.length cw) vals2 (visP N E most k s0 L p x) p wr (x : Int) hI o w3 g' c' h1 h2 h3)
              have HVB := hide hS.visit
              clear hI hsk hs1 r0 r1 HIH
              rcases hpx with ⟨hp1, hp2⟩ | hp1
              all_goals
                go_wp2_with (at_builtin; refine wpList_append_lies _ rfl _ _ 26 rfl (s + 6) 3 i0 (.int .i64 0) 1 8 Try.underlying26 hi0 hz0 hz1 hz2 rfl (by decide) (.slice aw p.length cw) p.length _ rfl (HWO.out.alloc _) ⟨wr.heap.size, 0, none⟩ 1 1 [.int .i64 (x : Int)] rfl rfl (one_new _ _ _) (fun u hu => by simp at hu; subst hu; rfl) (by omega) (by unfold maxLen; omega) (by omega) (by have := HTOP.out; simp; omega) _ rfl ?_; intro g' cap3 w3 hown3 hgrow3 hat3 hlt3; obtain ⟨hbx3, hI3⟩ := HPU.out _ w3 g' cap3 hown3 hgrow3 (by rw [World.size_alloc] at hat3; exact hat3); obtain ⟨hw3c, hw3f⟩ := one_cell hbx3; have HI3 := hide hI3; have hvb := HVB.out _ hI3.stat; clear hbx3 hI3 hown3 hgrow3 hat3 hlt3)
                rw [HKK.out]
                refine (HIHx.out _ _ _ _ HI3.out).mono ?_
                rintro e w5 ⟨rfl, vL5, vW5, vals5, hI5⟩
                obtain ⟨g5, c5, rfl, hc5⟩ := own_some hI5.wown (by simp)
                have hpl1 : (p ++ [(x : Int)]).length = p.length + 1 := by simp
                rw [hpl1] at hI5 hc5
                have HI6 := hide (fwI_pop hI5)
                obtain ⟨hw5c, hw5f⟩ := one_cell hI5.wbox
                have hpp : ((p.length + 1 : Nat) : Int) - 1 = (p.length : Int) := by omega
                clear hI5 hvb hw3c hw3f hpl1
                go_wp2
                go_roundw
                case rel => exact ⟨x + 1, by omega, by go_num, _, _, _, HI6.out⟩
                case measure => simp [intOf]; omega
          · have hlti : ¬ (x : Int) < (m : Int) := by omega
            obtain rfl : x = m := by omega
            clear hI
            go_wp2
            exact bodyPost_ret (results_none rfl _ _ _) rfl ⟨rfl, _, _, _, HI.out⟩
end Go.Proofs.Ytpkjnkcdajngkaa
