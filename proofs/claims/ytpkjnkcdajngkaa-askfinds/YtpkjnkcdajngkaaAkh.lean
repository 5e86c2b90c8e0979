/- ask.firstWords: contract. -/
import Derived.Test.YtpkjnkcdajngkaaAkg
import Derived.Laws.EntriesVeiled
namespace Go.Proofs.Ytpkjnkcdajngkaa
open Go.RowKit

theorem six_boxes (w : World) (o0 o1 o2 o3 o4 o5 : Obj) (W : World) (h : (((((w.alloc o0).alloc o1).alloc o2).alloc o3).alloc o4).alloc o5 = W) :
    W.heap.size = w.heap.size + 6 ∧ Below w.heap.size w W ∧ W.heap[w.heap.size]? = some o0 ∧ W.heap[w.heap.size + 1]? = some o1 ∧ W.heap[w.heap.size + 2]? = some o2 ∧ W.heap[w.heap.size + 3]? = some o3 ∧ W.heap[w.heap.size + 4]? = some o4 ∧ W.heap[w.heap.size + 5]? = some o5 := by
  subst h
  have e : ∀ (w : World) (o : Obj), (w.alloc o).heap.size = w.heap.size + 1 := fun w o => by simp
  have l : ∀ (w : World) (o : Obj), (w.alloc o).heap[w.heap.size]? = some o := fun w o => heap_alloc_last w o
  have p : ∀ (w : World) (o : Obj) (x : Nat) (v : Obj), w.heap[x]? = some v → (w.alloc o).heap[x]? = some v := fun w o x v h => (Below.heap_alloc _ _ _ (Array.getElem?_eq_some_iff.1 h).1).trans h
  refine ⟨by simp, ((((((Below.refl _ w).alloc (Nat.le_refl _) _).alloc (by simp) _).alloc (by simp; omega) _).alloc (by simp; omega) _).alloc (by simp; omega) _).alloc (by simp; omega) _, ?_, ?_, ?_, ?_, ?_, ?_⟩
  · exact p _ _ _ _ (p _ _ _ _ (p _ _ _ _ (p _ _ _ _ (p _ _ _ _ (l w o0)))))
  · exact p _ _ _ _ (p _ _ _ _ (p _ _ _ _ (p _ _ _ _ (by simpa [e] using l (w.alloc o0) o1))))
  · exact p _ _ _ _ (p _ _ _ _ (p _ _ _ _ (by simpa [e] using l ((w.alloc o0).alloc o1) o2)))
  · exact p _ _ _ _ (p _ _ _ _ (by simpa [e] using l (((w.alloc o0).alloc o1).alloc o2) o3))
  · exact p _ _ _ _ (by simpa [e] using l ((((w.alloc o0).alloc o1).alloc o2).alloc o3) o4)
  · simpa [e] using l (((((w.alloc o0).alloc o1).alloc o2).alloc o3).alloc o4) o5
theorem fwI_end {wS : World} {s : Nat} {vL vW : Value} {vals : List Value} {L : List (List Int)} {p : List Int} {W : World} (h : FwI wS s vL vW vals L p W) (hm : L.length ≤ maxLen) : ∃ al cl, vL = .slice al L.length cl ∧ Sl2 W al L.length L := by
  rcases h.lown.2 with ⟨e1, e2⟩ | ⟨g, cap, cur, e, hg, hh, hc, hcm, hcs, ht⟩
  · exact ⟨none, 0, by rw [e1, e2], rfl, hm, Or.inl e2⟩
  · refine ⟨_, _, e, rfl, hm, Or.inr ⟨g, 0, rfl, fun i hi => ?_⟩⟩
    obtain ⟨a, c, q0, q1, -⟩ := h.rows i hi
    refine ⟨a, c, ?_, q1⟩
    rw [cell_of_row W g (0 + i) cur 26 (0, 0) hh, Nat.zero_add]
    have h3 : (cur.toList.take (L.length * 1))[i]? = vals[i]? := by rw [ht]
    rw [List.getElem?_take, if_pos (by omega), Array.getElem?_toList] at h3
    rw [h3, q0]
theorem visL_cln (N : List (List Int)) (E : List Bool) (most x : Nat) : visL N E most x 0 ((clnL N E x).take most) [] = (clnL N E (x + 1)).take most := by
  unfold visL
  rw [take_take_app]
  unfold clnL
  rw [List.range_succ, List.flatMap_append]
  simp
/-- Rows in new memory. -/
def ListR (w : World) (R : List (List Int)) (e : Ending) (w' : World) : Prop := ∃ al cl, e = .returned (.slice al R.length cl) ∧ Sl2 w' al R.length R ∧ Below w.heap.size w w'
def visF (s : Nat) : Value := .func (.func 18) #[] #[.pointer (some ⟨s + 1 + 1 + 1, 0, none⟩), .pointer (some ⟨s + 1 + 1, 0, none⟩), .pointer (some ⟨s + 1, 0, none⟩), .pointer (some ⟨s + 1 + 1 + 1 + 1, 0, none⟩), .pointer (some ⟨s, 0, none⟩), .pointer (some ⟨s + 1 + 1 + 1 + 1 + 1, 0, none⟩)]
set_option maxHeartbeats 4000000 in
set_option maxRecDepth 4000 in
theorem firstWords_any (b t : Int) (a : Option Addr) (n cap : Nat) (a' : Option Addr) (cap' : Nat) (N : List (List Int)) (E : List Bool) (m g K cK most : Nat) (w : World) (hs : Sl2 w a n N) (hG : GoodN m n N) (hr : SlR w g K n (alvR N E)) (hK : K ≤ 900) (hm : most ≤ 200) :
    Calls Try.prog 12 #[.agg #[.int .i64 b, .int .i64 t, .slice a n cap, .slice a' n cap'], .slice (some ⟨g, 0, none⟩) K cK, .int .i64 (most : Int)] w (ListR w ((clnL N E K).take most)) := by
  have hn1 := hG.2.1
  generalize hwA : (((((w.alloc (.cells #[.int .i64 b, .int .i64 t, .slice a n cap, .slice a' n cap'] 25)).alloc (.cells #[.slice (some ⟨g, 0, none⟩) K cK] 41)).alloc (.cells #[.int .i64 (most : Int)] 3)).alloc (.cells #[.slice none 0 0] 22)).alloc (.cells #[.slice none 0 0] 26)).alloc (.cells #[.nilFunc] 48) = wA
  obtain ⟨z0, z1, z2, z3, z4, z5, z6, z7⟩ := six_boxes w _ _ _ _ _ _ wA hwA
  have hca : wA.cell? ⟨w.heap.size + 1 + 1 + 1 + 1 + 1, 0, none⟩ = some .nilFunc := (one_cell z7).1
  have hcf : wA.frozen? ⟨w.heap.size + 1 + 1 + 1 + 1 + 1, 0, none⟩ = false := (one_cell z7).2
  obtain ⟨wS, hwS⟩ : ∃ wS, wA.setCell ⟨w.heap.size + 1 + 1 + 1 + 1 + 1, 0, none⟩ (.func (.func 18) #[] #[.pointer (some ⟨w.heap.size + 1 + 1 + 1, 0, none⟩), .pointer (some ⟨w.heap.size + 1 + 1, 0, none⟩), .pointer (some ⟨w.heap.size + 1, 0, none⟩), .pointer (some ⟨w.heap.size + 1 + 1 + 1 + 1, 0, none⟩), .pointer (some ⟨w.heap.size, 0, none⟩), .pointer (some ⟨w.heap.size + 1 + 1 + 1 + 1 + 1, 0, none⟩)]) = wS := ⟨_, rfl⟩
  have k0 : ∀ x, x ≠ w.heap.size + 5 → wS.heap[x]? = wA.heap[x]? := fun x hx => by rw [← hwS]; exact Below.heap_setCell _ _ _ _ hx
  have y7 : wS.heap[w.heap.size + 5]? = some (.cells #[visF w.heap.size] 48 (0, 0)) := by rw [← hwS]; exact one_set z7
  have hB : Below w.heap.size w wS := by rw [← hwS]; exact z1.setCell (by show _ ≤ w.heap.size + 5; omega) _
  have hcr : wS.cell? ⟨w.heap.size + 1, 0, none⟩ = some (.slice (some ⟨g, 0, none⟩) K cK) := (one_cell ((k0 _ (by omega)).trans z3)).1
  have HS : Hid (FwS wS w.heap.size b t a n cap a' cap' N E g K cK most) := by
    refine ⟨fun W hW => ?_, fun W hW => ?_, fun W hW => ?_, fun W hW => ?_, w, rfl, hB, hs, hr⟩
    · exact (box_cells ((hW _ (by omega) (by omega) (by omega)).trans ((k0 _ (by omega)).trans z2))).1.2.2.1
    · exact (one_cell ((hW _ (by omega) (by omega) (by omega)).trans ((k0 _ (by omega)).trans z3))).1
    · exact (one_cell ((hW _ (by omega) (by omega) (by omega)).trans ((k0 _ (by omega)).trans z4))).1
    · exact (one_cell ((hW _ (by omega) (by omega) (by omega)).trans y7)).1
  have HI0 : Hid (FwI wS w.heap.size (.slice none 0 0) (.slice none 0 0) [] [] [] wS) :=
    ⟨(k0 _ (by omega)).trans z5, (k0 _ (by omega)).trans z6, World.ownsRow_nil _ _ _ _, World.ownsRow_nil _ _ _ _, fun j hj => by simp at hj, fun _ _ _ _ => rfl, Below.refl _ _, by rw [← hwS]; simp [World.setCell, z0]⟩
  have HB := hide hB
  clear z0 z1 z2 z3 z4 z5 z6 z7 hs hr k0 y7 hB
  go_enter Try.func12, Try.ntmps12
  go_wp2
  clear hcr hca hcf
  have HK := hide hK
  go_loopw [14] (fun i wx => ∃ x : Nat, x ≤ K ∧ i = .int .i64 x ∧ ∃ vL vW vals, FwI wS w.heap.size vL vW vals ((clnL N E x).take most) [] wx) (fun i _ => K - (intOf i).toNat)
  case atStart => exact ⟨0, by omega, rfl, _, _, _, by rw [show (clnL N E 0).take most = [] by simp [clnL]]; exact HI0.out⟩
  case round =>
    obtain ⟨x, hxK, rfl, vL, vW, vals, hI⟩ := hrel
    by_cases hlt : x < K
    · have hlti : (x : Int) < (K : Int) := by omega
      have hv : wr.cell? ⟨w.heap.size + 1 + 1 + 1 + 1 + 1, 0, none⟩ = some (visF w.heap.size) := HS.out.visit wr hI.stat
      unfold visF at hv
      have HV := hide (visit_any HS.out hG hm x 0 hI (by rw [List.length_take]; omega) hlt (by omega) (by simp; omega) (fun x hx => by cases hx))
      rw [visL_cln] at HV
      clear hI
      go_wp2_with fail
      refine HV.out.mono ?_
      rintro e w5 ⟨rfl, vL5, vW5, vals5, hI5⟩
      have HI5 := hide hI5
      clear hI5 hv
      go_wp2
      go_roundw
      case rel => exact ⟨x + 1, by omega, by go_num, _, _, _, HI5.out⟩
      case measure => simp [intOf]; omega
    · have hlti : ¬ (x : Int) < (K : Int) := by omega
      obtain rfl : x = K := by omega
      obtain ⟨al, cl, rfl, hsl⟩ := fwI_end hI (by rw [List.length_take]; unfold maxLen; omega)
      have hcl : wr.cell? ⟨w.heap.size + 1 + 1 + 1, 0, none⟩ = some _ := (one_cell hI.lbox).1
      have HF := hide (⟨hsl, HB.out.trans hI.bel⟩ : _ ∧ Below w.heap.size w wr)
      clear hI hsl
      go_wp2
      go_ret
      exact ⟨al, cl, by simp, HF.out⟩
end Go.Proofs.Ytpkjnkcdajngkaa
