/- The reference's MorphOf: contract. -/
import Derived.Test.YtcpnfbjcgaonkafDoorVc
namespace Go.Proofs.YtcpnfbjcgaonkafDoor
open Go.RowKit

theorem box3_set {W : World} {B : Nat} {u0 u1 u2 v0 v1 v2 : Value} {T : TypeId} (h : W.heap[B]? = some (.cells #[u0, u1, u2] T (0, 0))) {W' : World} (e : W' = ((W.setCell ⟨B, 0, none⟩ v0).setCell ⟨B, 1, none⟩ v1).setCell ⟨B, 2, none⟩ v2) :
    W'.heap[B]? = some (.cells #[v0, v1, v2] T (0, 0)) ∧ ∀ (w : World) (k : Nat), Below k w W → k ≤ B → Below k w W' := by
  subst e
  refine ⟨?_, fun w k hb hk => ((hb.setCell hk _).setCell hk _).setCell hk _⟩
  simp [World.setCell, Array.getElem?_modify, h]
def mlenB (R : List (List Int)) (k : Nat) : Bool := R.all fun r => decide (r.length = k)
def mrngB (R : List (List Int)) (n : Nat) : Bool := R.all fun r => r.all fun x => decide (0 ≤ x ∧ x < (n : Int))
def mcdB (K : List Int) : Bool := K.all fun x => decide (0 ≤ x ∧ x ≤ 9)
def morK (R : List (List Int)) : Nat := (R.getD 0 []).length
/-- The fault of rules and a code. -/
def morC (R : List (List Int)) (K : List Int) : Int :=
  if R.length = 0 then 4 else if 2 ≤ morK R ∧ morK R ≤ 6 then (if 20 < R.length then 3 else if mlenB R (morK R) = true then (if mrngB R R.length = true then (if (R.getD 0 []).getD 0 0 = 0 ∧ K.length = R.length then (if mcdB K = true then 0 else 1) else 2) else 1) else 2) else 1
theorem all_at {α : Type} {p : α → Bool} {l : List α} {d : α} (h : l.all p = true) {i : Nat} (hi : i < l.length) : p (l.getD i d) = true := by
  rw [List.all_eq_true] at h
  have e : l.getD i d = l[i] := by simp [List.getD, hi]
  rw [e]
  exact h _ (List.getElem_mem hi)
theorem all_by {α : Type} {p : α → Bool} {l : List α} {d : α} (h : ∀ i, i < l.length → p (l.getD i d) = true) : l.all p = true := by
  rw [List.all_eq_true]
  intro x hx
  obtain ⟨i, hi, rfl⟩ := List.getElem_of_mem hx
  have e : l.getD i d = l[i] := by simp [List.getD, hi]
  have := h i hi
  rwa [e] at this
/-- What MorphOf hands back. -/
def MorR (w : World) (R : List (List Int)) (K : List Int) (a : Option Addr) (n cap : Nat) (ao : Option Addr) (no co : Nat) (e : Ending) (w' : World) : Prop :=
  e = .returned (.tuple #[if morC R K = 0 then outV (morK R : Int) a n cap ao no co else outV 0 none 0 0 none 0 0, .int .i64 (morC R K)]) ∧ Below w.heap.size w w'
set_option maxHeartbeats 8000000 in
set_option maxRecDepth 8000 in
theorem morphOf_any (a : Option Addr) (n cap : Nat) (ao : Option Addr) (no co : Nat) (R : List (List Int)) (K : List Int) (w : World) (hs : Sl2 w a n R) (ho : Sl w ao no K) :
    Calls Tryd.prog 19 #[.slice a n cap, .slice ao no co] w (MorR w R K a n cap ao no co) := by
  have hL := hs.1
  have hLo := ho.1
  have hmx := hs.2.1
  have hmo := ho.2.1
  unfold maxLen at hmx hmo
  have HB0 := hide ((Below.refl w.heap.size w).alloc (Nat.le_refl _) (.cells #[.int .i64 0, .slice none 0 0, .slice none 0 0] 25))
  have HX0 := hide (heap_alloc_last w (.cells #[.int .i64 0, .slice none 0 0, .slice none 0 0] 25))
  have HS := hide (sl2_below hs HB0.out)
  have HO := hide (sl_below ho HB0.out)
  have HC : Hid (morC R K = if n = 0 then 4 else if 2 ≤ morK R ∧ morK R ≤ 6 then (if 20 < n then 3 else if mlenB R (morK R) = true then (if mrngB R n = true then (if (R.getD 0 []).getD 0 0 = 0 ∧ no = n then (if mcdB K = true then 0 else 1) else 2) else 1) else 2) else 1) := by show _ = _; unfold morC; rw [hL, hLo]
  have HL1 : Hid (∀ i, i < n → (R.getD i []).length ≠ morK R → mlenB R (morK R) = false) := fun i hi h => by
    cases e : mlenB R (morK R) with
    | false => rfl
    | true => exact absurd (of_decide_eq_true (all_at (d := []) e (by omega))) h
  have HL2 : Hid ((∀ i, i < n → (R.getD i []).length = morK R) → mlenB R (morK R) = true) := fun h => all_by (d := []) fun i hi => decide_eq_true (h i (by omega))
  have HR1 : Hid (∀ i j, i < n → j < (R.getD i []).length → ¬ (0 ≤ (R.getD i []).getD j 0 ∧ (R.getD i []).getD j 0 < (n : Int)) → mrngB R n = false) := fun i j hi hj h => by
    cases e : mrngB R n with
    | false => rfl
    | true => exact absurd (all_getD (all_at (d := []) e (by omega)) j hj) h
  have HR2 : Hid ((∀ i j, i < n → j < (R.getD i []).length → 0 ≤ (R.getD i []).getD j 0 ∧ (R.getD i []).getD j 0 < (n : Int)) → mrngB R n = true) := fun h => all_by (d := []) fun i hi => all_of_getD fun j hj => h i j (by omega) hj
  have HK1 : Hid (∀ i, i < no → ¬ (0 ≤ K.getD i 0 ∧ K.getD i 0 ≤ 9) → mcdB K = false) := fun i hi h => by
    cases e : mcdB K with
    | false => rfl
    | true => exact absurd (of_decide_eq_true (all_at (d := 0) e (by omega))) h
  have HK2 : Hid ((∀ i, i < no → 0 ≤ K.getD i 0 ∧ K.getD i 0 ≤ 9) → mcdB K = true) := fun h => all_by (d := 0) fun i hi => decide_eq_true (h i (by omega))
  have HKK : Hid (0 < n → (R.getD 0 []).length = morK R) := fun _ => rfl
  have HEND : Hid (∀ (c : Int) (W W' : World) (e : Ending), morC R K = c → c ≠ 0 → W.heap[w.heap.size]? = some (.cells #[.int .i64 0, .slice none 0 0, .slice none 0 0] 25 (0, 0)) → Below w.heap.size w W' → e = .returned (.tuple #[.agg #[.int .i64 0, .slice none 0 0, .slice none 0 0], .int .i64 c]) → MorR w R K a n cap ao no co e W') := fun c W W' e h1 h2 _ h4 h5 => by
    refine ⟨?_, h4⟩
    rw [h1, if_neg h2]
    exact h5
  have HFIN : Hid (∀ (W' : World) (e : Ending), morC R K = 0 → Below w.heap.size w W' → e = .returned (.tuple #[.agg #[.int .i64 (morK R : Int), .slice a n cap, .slice ao no co], .int .i64 0]) → MorR w R K a n cap ao no co e W') := fun W' e h1 h4 h5 => by
    refine ⟨?_, h4⟩
    rw [h1, if_pos rfl]
    exact h5
  clear hs ho hL hLo
  obtain ⟨⟨p0, p1, p2⟩, pf⟩ := box3_cells HX0.out
  by_cases h0 : n = 0
  · have hc := HC.out
    rw [if_pos h0] at hc
    have HE := hide (fun W' e q1 q2 => HEND.out 4 _ W' e hc (by decide) HX0.out q1 q2)
    subst h0
    clear HC HL1 HL2 HR1 HR2 HK1 HK2 HKK HEND HFIN hc
    generalize hwb : w.alloc (.cells #[.int .i64 0, .slice none 0 0, .slice none 0 0] 25) = wb at HB0 HX0 HS HO p0 p1 p2 pf
    go_enter Tryd.func19, Tryd.ntmps19
    go_wp2
    obtain ⟨hset, hbel⟩ := box3_set (v0 := .int .i64 0) (v1 := .slice none 0 0) (v2 := .slice none 0 0) HX0.out rfl
    have hb := hbel w w.heap.size HB0.out (Nat.le_refl _)
    obtain ⟨⟨z0, z1, z2⟩, -⟩ := box3_cells hset
    exact bodyPost_ret (v := .tuple #[.agg #[.int .i64 0, .slice none 0 0, .slice none 0 0], .int .i64 4]) (by simp [results, Tryd.results19, go_sem, z0, z1, z2]) rfl (HE.out _ _ hb rfl)
  · have h0i : ((n : Int) == 0) = false := by simp; omega
    have hc1 := HC.out
    rw [if_neg h0] at hc1
    have HE : Hid (∀ (c : Int) (W' : World) (e : Ending), c ≠ 0 → morC R K = c → Below w.heap.size w W' → e = .returned (.tuple #[.agg #[.int .i64 0, .slice none 0 0, .slice none 0 0], .int .i64 c]) → MorR w R K a n cap ao no co e W') := fun c W' e q0 q1 q2 q3 => HEND.out c _ W' e q1 q0 HX0.out q2 q3
    clear HC HEND
    have hn0 : 0 < n := by omega
    have hn0i : (0 : Int) < (n : Int) := by omega
    obtain ⟨bb, o, a1, cc1, rfl, hck, hsl⟩ := sl2_cell HS.out 0 hn0
    have hkm := hsl.2.1
    unfold maxLen at hkm
    have HSL := hide hsl
    rw [HKK.out hn0, Nat.add_zero] at hck
    rw [HKK.out hn0] at hkm HSL
    clear hsl HKK
    generalize hkk : morK R = k at *
    clear hkk
    generalize hwb : w.alloc (.cells #[.int .i64 0, .slice none 0 0, .slice none 0 0] 25) = wb at HB0 HX0 HS HO p0 p1 p2 pf hck HSL
    by_cases hk2 : (k : Int) < 2
    · rw [if_neg (by omega)] at hc1
      have HCC := hide hc1
      clear hc1
      go_enter Tryd.func19, Tryd.ntmps19
      go_wp2
      obtain ⟨hset, hbel⟩ := box3_set (v0 := .int .i64 0) (v1 := .slice none 0 0) (v2 := .slice none 0 0) HX0.out rfl
      have hb := hbel w w.heap.size HB0.out (Nat.le_refl _)
      obtain ⟨⟨z0, z1, z2⟩, -⟩ := box3_cells hset
      exact bodyPost_ret (v := .tuple #[.agg #[.int .i64 0, .slice none 0 0, .slice none 0 0], .int .i64 1]) (by simp [results, Tryd.results19, go_sem, z0, z1, z2]) rfl (HE.out 1 _ _ (by decide) HCC.out hb rfl)
    · have hk2' : decide ((k : Int) < 2) = false := by simp; omega
      by_cases hk6 : (k : Int) > 6
      · rw [if_neg (by omega)] at hc1
        have HCC := hide hc1
        clear hc1
        go_enter Tryd.func19, Tryd.ntmps19
        go_wp2
        obtain ⟨hset, hbel⟩ := box3_set (v0 := .int .i64 0) (v1 := .slice none 0 0) (v2 := .slice none 0 0) HX0.out rfl
        have hb := hbel w w.heap.size HB0.out (Nat.le_refl _)
        obtain ⟨⟨z0, z1, z2⟩, -⟩ := box3_cells hset
        exact bodyPost_ret (v := .tuple #[.agg #[.int .i64 0, .slice none 0 0, .slice none 0 0], .int .i64 1]) (by simp [results, Tryd.results19, go_sem, z0, z1, z2]) rfl (HE.out 1 _ _ (by decide) HCC.out hb rfl)
      · have hk6' : decide ((k : Int) > 6) = false := by simp; omega
        rw [if_pos (by omega)] at hc1
        by_cases h20 : 20 < n
        · have h20i : (n : Int) > 20 := by omega
          rw [if_pos h20] at hc1
          have HCC := hide hc1
          clear hc1
          go_enter Tryd.func19, Tryd.ntmps19
          go_wp2
          obtain ⟨hset, hbel⟩ := box3_set (v0 := .int .i64 0) (v1 := .slice none 0 0) (v2 := .slice none 0 0) HX0.out rfl
          have hb := hbel w w.heap.size HB0.out (Nat.le_refl _)
          obtain ⟨⟨z0, z1, z2⟩, -⟩ := box3_cells hset
          exact bodyPost_ret (v := .tuple #[.agg #[.int .i64 0, .slice none 0 0, .slice none 0 0], .int .i64 3]) (by simp [results, Tryd.results19, go_sem, z0, z1, z2]) rfl (HE.out 3 _ _ (by decide) HCC.out hb rfl)
        · have h20i : ¬ (n : Int) > 20 := by omega
          rw [if_neg h20] at hc1
          have HC1 := hide hc1
          clear hc1
          go_enter Tryd.func19, Tryd.ntmps19
          go_wp2
          clear hwb
          go_loop [7] (fun iv => ∃ s : Nat, s ≤ n ∧ iv = .int .i64 s ∧ ∀ i, i < s → (R.getD i []).length = k) (fun iv => n - (intOf iv).toNat)
          case atStart => exact ⟨0, by omega, rfl, fun i hi => by omega⟩
          case round =>
            obtain ⟨s, hsn, rfl, hall⟩ := hrel
            have HA1 := hide hall
            clear hall
            by_cases hlt : s < n
            · have hlti : (s : Int) < (n : Int) := by omega
              obtain ⟨b2, o2, a2, c2, e, hck2, hsl2⟩ := sl2_cell HS.out s hlt
              cases e
              have hm2 := hsl2.2.1
              unfold maxLen at hm2
              have HLs := hide (HL1.out s hlt)
              have HNX : Hid ((R.getD s []).length = k → ∀ i, i < s + 1 → (R.getD i []).length = k) := fun h i hi => by
                by_cases e : i = s
                · subst e; exact h
                · exact HA1.out i (by omega)
              clear hsl2
              generalize (R.getD s []).length = ls at hck2 hm2 HLs HNX
              by_cases hls : ls = k
              · subst hls
                have HN2 := hide (HNX.out rfl)
                go_wp2
                go_round
                case rel => exact ⟨s + 1, by omega, by go_num, HN2.out⟩
                case measure => simp [intOf]; omega
              · have hlsi : ((ls : Int) == (k : Int)) = false := by simp; omega
                have hc := HC1.out
                rw [HLs.out hls, if_neg (by decide)] at hc
                have HCC := hide hc
                clear hc HLs HNX
                go_wp2
                obtain ⟨hset, hbel⟩ := box3_set (v0 := .int .i64 0) (v1 := .slice none 0 0) (v2 := .slice none 0 0) HX0.out rfl
                have hb := hbel w w.heap.size HB0.out (Nat.le_refl _)
                obtain ⟨⟨z0, z1, z2⟩, -⟩ := box3_cells hset
                exact bodyPost_ret (v := .tuple #[.agg #[.int .i64 0, .slice none 0 0, .slice none 0 0], .int .i64 2]) (by simp [results, Tryd.results19, go_sem, z0, z1, z2]) rfl (HE.out 2 _ _ (by decide) HCC.out hb rfl)
            · have hlti : ¬ (s : Int) < (n : Int) := by omega
              obtain rfl : n = s := by omega
              have hc := HC1.out
              rw [HL2.out HA1.out, if_pos rfl] at hc
              have HC2 := hide hc
              clear hc HC1 HL1 HL2
              go_wp2
              go_loop [8] (fun iv => ∃ s : Nat, s ≤ n ∧ iv = .int .i64 s ∧ ∀ i j, i < s → j < k → 0 ≤ (R.getD i []).getD j 0 ∧ (R.getD i []).getD j 0 < (n : Int)) (fun iv => n - (intOf iv).toNat)
              case atStart => exact ⟨0, by omega, rfl, fun i j hi => by omega⟩
              case round =>
                obtain ⟨s, hsn, rfl, hall⟩ := hrel
                have HA2 := hide hall
                clear hall
                by_cases hlt : s < n
                · have hlti : (s : Int) < (n : Int) := by omega
                  obtain ⟨b2, o2, a2, c2, e, hck2, hsl2⟩ := sl2_cell HS.out s hlt
                  cases e
                  rw [HA1.out s hlt] at hck2
                  have HS2 := hide hsl2
                  have hls := HA1.out s hlt
                  rw [hls] at HS2
                  have HRs := hide (fun j hj h => HR1.out s j hlt (by rw [hls]; exact hj) h)
                  have HNX : Hid ((∀ j, j < k → 0 ≤ (R.getD s []).getD j 0 ∧ (R.getD s []).getD j 0 < (n : Int)) → ∀ i j, i < s + 1 → j < k → 0 ≤ (R.getD i []).getD j 0 ∧ (R.getD i []).getD j 0 < (n : Int)) := fun h i j hi hj => by
                    by_cases e : i = s
                    · subst e; exact h j hj
                    · exact HA2.out i j (by omega) hj
                  clear hsl2 hls
                  generalize hrr : R.getD s [] = r at HS2 HRs HNX
                  clear hrr
                  go_wp2
                  go_loop [9] (fun iv => ∃ q : Nat, q ≤ k ∧ iv = .int .i64 q ∧ ∀ j, j < q → 0 ≤ r.getD j 0 ∧ r.getD j 0 < (n : Int)) (fun iv => k - (intOf iv).toNat)
                  case atStart => exact ⟨0, by omega, rfl, fun j hj => by omega⟩
                  case round =>
                    obtain ⟨q, hq, rfl, hall⟩ := hrel
                    have HQ := hide hall
                    clear hall
                    by_cases hqt : q < k
                    · have hqti : (q : Int) < (k : Int) := by omega
                      obtain ⟨b3, o3, rfl, hcx⟩ := sl_cell HS2.out q hqt
                      have HRq := hide (HRs.out q hqt)
                      have HNQ : Hid (0 ≤ r.getD q 0 ∧ r.getD q 0 < (n : Int) → ∀ j, j < q + 1 → 0 ≤ r.getD j 0 ∧ r.getD j 0 < (n : Int)) := fun h j hj => by
                        by_cases e : j = q
                        · subst e; exact h
                        · exact HQ.out j (by omega)
                      generalize r.getD q 0 = x at hcx HRq HNQ
                      by_cases hx0 : x < 0
                      · have hc := HC2.out
                        rw [HRq.out (by omega), if_neg (by decide)] at hc
                        have HCC := hide hc
                        clear hc
                        go_wp2
                        obtain ⟨hset, hbel⟩ := box3_set (v0 := .int .i64 0) (v1 := .slice none 0 0) (v2 := .slice none 0 0) HX0.out rfl
                        have hb := hbel w w.heap.size HB0.out (Nat.le_refl _)
                        obtain ⟨⟨z0, z1, z2⟩, -⟩ := box3_cells hset
                        exact bodyPost_ret (v := .tuple #[.agg #[.int .i64 0, .slice none 0 0, .slice none 0 0], .int .i64 1]) (by simp [results, Tryd.results19, go_sem, z0, z1, z2]) rfl (HE.out 1 _ _ (by decide) HCC.out hb rfl)
                      · have hx0' : decide (x < 0) = false := by simp; omega
                        by_cases hxn : (n : Int) ≤ x
                        · have hc := HC2.out
                          rw [HRq.out (by omega), if_neg (by decide)] at hc
                          have HCC := hide hc
                          clear hc
                          go_wp2
                          obtain ⟨hset, hbel⟩ := box3_set (v0 := .int .i64 0) (v1 := .slice none 0 0) (v2 := .slice none 0 0) HX0.out rfl
                          have hb := hbel w w.heap.size HB0.out (Nat.le_refl _)
                          obtain ⟨⟨z0, z1, z2⟩, -⟩ := box3_cells hset
                          exact bodyPost_ret (v := .tuple #[.agg #[.int .i64 0, .slice none 0 0, .slice none 0 0], .int .i64 1]) (by simp [results, Tryd.results19, go_sem, z0, z1, z2]) rfl (HE.out 1 _ _ (by decide) HCC.out hb rfl)
                        · have hxn' : x < (n : Int) := by omega
                          have HN2 := hide (HNQ.out ⟨by omega, hxn'⟩)
                          go_wp2
                          go_round
                          case rel => exact ⟨q + 1, by omega, by go_num, HN2.out⟩
                          case measure => simp [intOf]; omega
                    · have hqti : ¬ (q : Int) < (k : Int) := by omega
                      have HN2 := hide (HNX.out (fun j hj => HQ.out j (by omega)))
                      go_wp2
                      go_round
                      case rel => exact ⟨s + 1, by omega, by go_num, HN2.out⟩
                      case measure => simp [intOf]; omega
                · have hlti : ¬ (s : Int) < (n : Int) := by omega
                  have hc := HC2.out
                  rw [HR2.out (fun i j hi hj => HA2.out i j (by omega) (by rw [HA1.out i hi] at hj; exact hj)), if_pos rfl] at hc
                  have HC3 := hide hc
                  obtain ⟨b4, o4, rfl, hc0⟩ := sl_cell HSL.out 0 (by omega)
                  rw [Nat.add_zero] at hc0
                  have hkp : (0 : Int) < (k : Int) := by omega
                  clear hc HC2 HR1 HR2 HA2
                  generalize (R.getD 0 []).getD 0 0 = x0 at hc0 HC3
                  by_cases hx0 : x0 = 0
                  · subst hx0
                    by_cases hno : no = n
                    · have hc := HC3.out
                      rw [if_pos ⟨rfl, hno⟩] at hc
                      have HC4 := hide hc
                      clear hc HC3
                      obtain rfl : n = no := hno.symm
                      clear hno
                      go_wp2
                      go_loop [10] (fun iv => ∃ s : Nat, s ≤ n ∧ iv = .int .i64 s ∧ ∀ i, i < s → 0 ≤ K.getD i 0 ∧ K.getD i 0 ≤ 9) (fun iv => n - (intOf iv).toNat)
                      case atStart => exact ⟨0, by omega, rfl, fun i hi => by omega⟩
                      case round =>
                        obtain ⟨u, hun, rfl, hall⟩ := hrel
                        have HU := hide hall
                        clear hall
                        by_cases hut : u < n
                        · have huti : (u : Int) < (n : Int) := by omega
                          obtain ⟨b3, o3, rfl, hcu⟩ := sl_cell HO.out u hut
                          have HKu := hide (HK1.out u hut)
                          have HNU : Hid (0 ≤ K.getD u 0 ∧ K.getD u 0 ≤ 9 → ∀ i, i < u + 1 → 0 ≤ K.getD i 0 ∧ K.getD i 0 ≤ 9) := fun h i hi => by
                            by_cases e : i = u
                            · subst e; exact h
                            · exact HU.out i (by omega)
                          generalize K.getD u 0 = y at hcu HKu HNU
                          by_cases hy0 : y < 0
                          · have hc := HC4.out
                            rw [HKu.out (by omega), if_neg (by decide)] at hc
                            have HCC := hide hc
                            clear hc
                            go_wp2
                            obtain ⟨hset, hbel⟩ := box3_set (v0 := .int .i64 0) (v1 := .slice none 0 0) (v2 := .slice none 0 0) HX0.out rfl
                            have hb := hbel w w.heap.size HB0.out (Nat.le_refl _)
                            obtain ⟨⟨z0, z1, z2⟩, -⟩ := box3_cells hset
                            exact bodyPost_ret (v := .tuple #[.agg #[.int .i64 0, .slice none 0 0, .slice none 0 0], .int .i64 1]) (by simp [results, Tryd.results19, go_sem, z0, z1, z2]) rfl (HE.out 1 _ _ (by decide) HCC.out hb rfl)
                          · have hy0' : decide (y < 0) = false := by simp; omega
                            by_cases hy9 : y > 9
                            · have hc := HC4.out
                              rw [HKu.out (by omega), if_neg (by decide)] at hc
                              have HCC := hide hc
                              clear hc
                              go_wp2
                              obtain ⟨hset, hbel⟩ := box3_set (v0 := .int .i64 0) (v1 := .slice none 0 0) (v2 := .slice none 0 0) HX0.out rfl
                              have hb := hbel w w.heap.size HB0.out (Nat.le_refl _)
                              obtain ⟨⟨z0, z1, z2⟩, -⟩ := box3_cells hset
                              exact bodyPost_ret (v := .tuple #[.agg #[.int .i64 0, .slice none 0 0, .slice none 0 0], .int .i64 1]) (by simp [results, Tryd.results19, go_sem, z0, z1, z2]) rfl (HE.out 1 _ _ (by decide) HCC.out hb rfl)
                            · have hy9' : decide (y > 9) = false := by simp; omega
                              have HN2 := hide (HNU.out (by omega))
                              go_wp2
                              go_round
                              case rel => exact ⟨u + 1, by omega, by go_num, HN2.out⟩
                              case measure => simp [intOf]; omega
                        · have huti : ¬ (u : Int) < (n : Int) := by omega
                          have hc := HC4.out
                          rw [HK2.out (fun i hi => HU.out i (by omega)), if_pos rfl] at hc
                          have HCC := hide hc
                          clear hc
                          go_wp2
                          obtain ⟨hset, hbel⟩ := box3_set (v0 := .int .i64 (k : Int)) (v1 := .slice (some ⟨bb, o, none⟩) n cap) (v2 := .slice ao n co) HX0.out rfl
                          have hb := hbel w w.heap.size HB0.out (Nat.le_refl _)
                          obtain ⟨⟨z0, z1, z2⟩, -⟩ := box3_cells hset
                          exact bodyPost_ret (v := .tuple #[.agg #[.int .i64 (k : Int), .slice (some ⟨bb, o, none⟩) n cap, .slice ao n co], .int .i64 0]) (by simp [results, Tryd.results19, go_sem, z0, z1, z2]) rfl (HFIN.out _ _ HCC.out hb rfl)
                    · have hnoi : ((no : Int) == (n : Int)) = false := by simp; omega
                      have hc := HC3.out
                      rw [if_neg (fun h => hno h.2)] at hc
                      have HCC := hide hc
                      clear hc
                      go_wp2
                      obtain ⟨hset, hbel⟩ := box3_set (v0 := .int .i64 0) (v1 := .slice none 0 0) (v2 := .slice none 0 0) HX0.out rfl
                      have hb := hbel w w.heap.size HB0.out (Nat.le_refl _)
                      obtain ⟨⟨z0, z1, z2⟩, -⟩ := box3_cells hset
                      exact bodyPost_ret (v := .tuple #[.agg #[.int .i64 0, .slice none 0 0, .slice none 0 0], .int .i64 2]) (by simp [results, Tryd.results19, go_sem, z0, z1, z2]) rfl (HE.out 2 _ _ (by decide) HCC.out hb rfl)
                  · have hx0i : (x0 == 0) = false := by simp [hx0]
                    have hc := HC3.out
                    rw [if_neg (fun h => hx0 h.1)] at hc
                    have HCC := hide hc
                    clear hc
                    go_wp2
                    obtain ⟨hset, hbel⟩ := box3_set (v0 := .int .i64 0) (v1 := .slice none 0 0) (v2 := .slice none 0 0) HX0.out rfl
                    have hb := hbel w w.heap.size HB0.out (Nat.le_refl _)
                    obtain ⟨⟨z0, z1, z2⟩, -⟩ := box3_cells hset
                    exact bodyPost_ret (v := .tuple #[.agg #[.int .i64 0, .slice none 0 0, .slice none 0 0], .int .i64 2]) (by simp [results, Tryd.results19, go_sem, z0, z1, z2]) rfl (HE.out 2 _ _ (by decide) HCC.out hb rfl)
end Go.Proofs.YtcpnfbjcgaonkafDoor
