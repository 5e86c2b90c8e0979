/- 7 texts in one. -/
import Derived.Deep.DeepCutAuto
import Derived.Test.YtafbggbdlcfbdaaGreatDoorLq
import Derived.Test.YtafbggbdlcfbdaaGreatDoorZPa
import Derived.Test.YtafbggbdlcfbdaaGreatDoorZNr
/- The reference's uses, freeIn, FreeOf: contracts. -/
namespace Go.Proofs.YtafbggbdlcfbdaaGreatDoor
open Go.RowKit

theorem box7_cells {W : World} {B : Nat} {v0 v1 v2 v3 v4 v5 v6 : Value} {T : TypeId} (h : W.heap[B]? = some (.cells #[v0, v1, v2, v3, v4, v5, v6] T (0, 0))) : (W.cell? ⟨B, 0, none⟩ = some v0 ∧ W.cell? ⟨B, 1, none⟩ = some v1 ∧ W.cell? ⟨B, 2, none⟩ = some v2 ∧ W.cell? ⟨B, 3, none⟩ = some v3 ∧ W.cell? ⟨B, 4, none⟩ = some v4 ∧ W.cell? ⟨B, 5, none⟩ = some v5 ∧ W.cell? ⟨B, 6, none⟩ = some v6) ∧ ∀ i, W.frozen? ⟨B, i, none⟩ = false := by
  refine ⟨⟨by simp [World.cell?, h], by simp [World.cell?, h], by simp [World.cell?, h], by simp [World.cell?, h], by simp [World.cell?, h], by simp [World.cell?, h], by simp [World.cell?, h]⟩, fun i => by simp [World.frozen?, h]⟩
abbrev ndO (n : Nd) (a : Option Addr) (c : Nat) : Obj := .cells #[.int .i64 n.op, .int .i64 n.var, .int .i64 n.oth, .int .i64 n.wd, .int .i64 n.wd2, .int .i64 n.num, .slice a n.cf.length c] 41
end Go.Proofs.YtafbggbdlcfbdaaGreatDoor

/- A box of seven cells that is written anew. -/
namespace Go.Proofs.YtafbggbdlcfbdaaGreatDoor
open Go.RowKit

theorem seven_behind {k B : Nat} {w W : World} {u0 u1 u2 u3 u4 u5 u6 : Value} {T : TypeId} (h : W.heap[B]? = some (.cells #[u0, u1, u2, u3, u4, u5, u6] T (0, 0))) (hb : Below k w W) (hk : k ≤ B) (v0 v1 v2 v3 v4 v5 v6 : Value) : ∃ Wf, (((((((W.setCell ⟨B, 0, none⟩ v0).setCell ⟨B, 1, none⟩ v1).setCell ⟨B, 2, none⟩ v2).setCell ⟨B, 3, none⟩ v3).setCell ⟨B, 4, none⟩ v4).setCell ⟨B, 5, none⟩ v5).setCell ⟨B, 6, none⟩ v6) = Wf ∧ Wf.heap[B]? = some (.cells #[v0, v1, v2, v3, v4, v5, v6] T (0, 0)) ∧ Below k w Wf ∧ ∀ x, x ≠ B → Wf.heap[x]? = W.heap[x]? :=
  ⟨_, rfl, by simp [World.setCell, Array.getElem?_modify, h], ((((((hb.setCell hk _).setCell hk _).setCell hk _).setCell hk _).setCell hk _).setCell hk _).setCell hk _, fun x hx => by
    rw [Below.heap_setCell _ _ _ _ hx, Below.heap_setCell _ _ _ _ hx, Below.heap_setCell _ _ _ _ hx, Below.heap_setCell _ _ _ _ hx, Below.heap_setCell _ _ _ _ hx, Below.heap_setCell _ _ _ _ hx, Below.heap_setCell _ _ _ _ hx]⟩
theorem box7_froz {W : World} {B : Nat} {v0 v1 v2 v3 v4 v5 v6 : Value} {T : TypeId} (h : W.heap[B]? = some (.cells #[v0, v1, v2, v3, v4, v5, v6] T (0, 0))) : W.frozen? ⟨B, 0, none⟩ = false ∧ W.frozen? ⟨B, 1, none⟩ = false ∧ W.frozen? ⟨B, 2, none⟩ = false ∧ W.frozen? ⟨B, 3, none⟩ = false ∧ W.frozen? ⟨B, 4, none⟩ = false ∧ W.frozen? ⟨B, 5, none⟩ = false ∧ W.frozen? ⟨B, 6, none⟩ = false := by
  have := (box7_cells h).2
  exact ⟨this 0, this 1, this 2, this 3, this 4, this 5, this 6⟩
end Go.Proofs.YtafbggbdlcfbdaaGreatDoor

/- The reference's sideOf: contract. -/
namespace Go.Proofs.YtafbggbdlcfbdaaGreatDoor
open Go.RowKit

theorem nat_ne0 {m : Nat} (h : m ≠ 0) : ((m : Int) == 0) = false := by simp; omega
set_option maxHeartbeats 4000000 in
set_option maxRecDepth 4000 in
theorem sideOf_any (n : Nd) (a : Option Addr) (c : Nat) (sg : Int) (hsg : sg = 1 ∨ sg = -1) (hcf : ∀ k, -1000 ≤ n.cf.getD k 0 ∧ n.cf.getD k 0 ≤ 1000) (hl : n.cf.length ≤ 5) (hnm : -1000 ≤ n.num ∧ n.num ≤ 1000) (w : World) (hs : Sl w a n.cf.length n.cf) : Calls Tryz.prog 13 #[ndV n a c, .int .i64 sg] w fun e w' => e = .returned (.string (bs (sideT n.cf n.num sg))) ∧ Below w.heap.size w w' := by
  have HB := hide ((Below.refl w.heap.size w).alloc (Nat.le_refl _) (ndO n a c))
  obtain ⟨⟨p0, p1, p2, p3, p4, p5, p6⟩, -⟩ := box7_cells (heap_alloc_last w (ndO n a c))
  have HS := hide (sl_below hs HB.out)
  have HM : Hid (∀ x : Int, -1000 ≤ x → x ≤ 1000 → -1000 ≤ sg * x ∧ sg * x ≤ 1000 ∧ wrap64 (sg * x) = sg * x) := fun x h0 h1 => by
    have : -1000 ≤ sg * x ∧ sg * x ≤ 1000 := by rcases hsg with rfl | rfl <;> omega
    refine ⟨this.1, this.2, ?_⟩
    unfold wrap64
    omega
  have HCF := hide hcf
  have hE : bs [] = ⟨#[]⟩ := rfl
  have HK := hide (sideK_len n.cf sg)
  have HKS : Hid (∀ k, sideK n.cf sg (k + 1) = if sg * n.cf.getD k 0 < 1 then sideK n.cf sg k else joinT (sideK n.cf sg k) (partT k (sg * n.cf.getD k 0))) := fun k => rfl
  have HK0 : Hid ([] = sideK n.cf sg 0) := rfl
  have HT : Hid (sideT n.cf n.num sg = let m := if sg * n.num > 0 then joinT (sideK n.cf sg n.cf.length) (decL (sg * n.num).toNat) else sideK n.cf sg n.cf.length; if m.length = 0 then [48] else m) := rfl
  unfold ndV
  clear hs hcf hsg
  obtain ⟨hp0, hp1, hpw⟩ := HM.out n.num hnm.1 hnm.2
  generalize sideT n.cf n.num sg = R at HT ⊢
  generalize hW : w.alloc (ndO n a c) = W at HB p0 p1 p2 p3 p4 p5 p6 HS
  go_enter Tryz.func13, Tryz.ntmps13
  go_wp2
  rw [← hE]
  clear hE
  go_loop [5, 6] (fun sv kv => ∃ k : Nat, k ≤ n.cf.length ∧ sv = .string (bs (sideK n.cf sg k)) ∧ kv = .int .i64 (k : Int)) (fun _ kv => n.cf.length - (intOf kv).toNat)
  case atStart => exact ⟨0, by omega, by rw [← HK0.out], rfl⟩
  case round =>
    obtain ⟨k, hk, rfl, rfl⟩ := hrel
    have hsl := HK.out k
    have hss := HKS.out k
    by_cases hlt : k < n.cf.length
    · have hlti : (k : Int) < (n.cf.length : Int) := by omega
      obtain ⟨bo, oo, rfl, hc⟩ := sl_cell HS.out k hlt
      obtain ⟨q0, q1, hqw⟩ := HM.out _ (HCF.out k).1 (HCF.out k).2
      have hk5 : k < 5 := by omega
      generalize n.cf.getD k 0 = z at hc q0 q1 hqw hss
      generalize hpr : sg * z = pr at q0 q1 hqw hss
      generalize sideK n.cf sg k = s at hsl hss
      obtain ⟨s2, HS2⟩ : ∃ s2, Hid (s2 = sideK n.cf sg (k + 1)) := ⟨_, rfl⟩
      rw [← HS2.out] at hss
      have HSS := hide hss
      clear hss
      have hsz := bs_size s
      have hk1 : ∀ s3, s3 = s2 → ∃ k1 : Nat, k1 ≤ n.cf.length ∧ Value.string (bs s3) = Value.string (bs (sideK n.cf sg k1)) ∧ Value.int .i64 ((k : Int) + 1) = Value.int .i64 (k1 : Int) := fun s3 h => ⟨k + 1, by omega, by rw [h, HS2.out], by rfl⟩
      have HK1 := hide hk1
      have HML : Hid (n.cf.length - (intOf (Value.int .i64 ((k : Int) + 1))).toNat < n.cf.length - (intOf (Value.int .i64 (k : Int))).toNat) := by show _ < _; simp [intOf]; omega
      clear hk1
      have HLE := hide (fun W => letter_any k hk5 W)
      by_cases h1 : pr < 1
      · go_wp2
        refine ⟨HK1.out s (by rw [HSS.out, if_pos h1]), HML.out⟩
      · have hj := HSS.out
        rw [if_neg h1] at hj
        unfold joinT partT at hj
        clear HSS
        by_cases hs0 : s.length = 0
        · rw [if_pos hs0] at hj
          obtain rfl : s = [] := List.eq_nil_of_length_eq_zero hs0
          have hgt : ¬ (((bs []).size : Int) > 0) := by rw [bs_size]; simp
          clear hsz hs0 hsl
          by_cases h2 : pr > 1
          · rw [if_pos h2] at hj
            obtain ⟨q, rfl⟩ : ∃ q : Nat, pr = (q : Int) := ⟨pr.toNat, by omega⟩
            rw [Int.toNat_natCast] at hj
            have HDE := hide (fun W => dec_any q (by omega) W)
            have hdl := decL_len q
            have ha1 := bs_add (P := Tryz.prog) [] (decL q) (by simp; omega) W
            have ha2 := bs_add (P := Tryz.prog) (decL q) [ltC k] (by simp; omega) W
            rw [List.nil_append] at ha1
            have HJ := hide hj
            clear hdl hj
            generalize decL q = dq at *
            go_wp2_with (first | (go_at_call 14; refine (HDE.out _).mono ?_; rintro e w' ⟨rfl, hw'⟩; rw [hw']; clear hw' w') | (go_at_call 15; refine (HLE.out _).mono ?_; rintro e w' ⟨rfl, hw'⟩; rw [hw']; clear hw' w'))
            exact ⟨HK1.out _ HJ.out.symm, HML.out⟩
          · rw [if_neg h2] at hj
            have ha2 := bs_add (P := Tryz.prog) [] [ltC k] (by simp) W
            rw [List.nil_append] at ha2
            have HJ := hide hj
            clear hj
            go_wp2_with (go_at_call 15; refine (HLE.out _).mono ?_; rintro e w' ⟨rfl, hw'⟩; rw [hw']; clear hw' w')
            exact ⟨HK1.out _ HJ.out.symm, HML.out⟩
        · rw [if_neg hs0] at hj
          have hgt : (((bs s).size : Int) > 0) := by rw [bs_size]; omega
          have ha0 : (Op.stringOp .add (bs s) ⟨#[43]⟩).run Tryz.prog W = .ok (.string (bs (s ++ [43]))) W := bs_add (P := Tryz.prog) s [43] (by simp; omega) W
          have HL2 : Hid ((s ++ [43]).length ≤ 200) := by show _ ≤ _; simp; omega
          clear hsz hs0 hsl
          generalize s ++ [43] = sp at *
          by_cases h2 : pr > 1
          · rw [if_pos h2] at hj
            obtain ⟨q, rfl⟩ : ∃ q : Nat, pr = (q : Int) := ⟨pr.toNat, by omega⟩
            rw [Int.toNat_natCast] at hj
            have HDE := hide (fun W => dec_any q (by omega) W)
            have hdl := decL_len q
            have ha1 := bs_add (P := Tryz.prog) sp (decL q) (by have := HL2.out; omega) W
            have ha2 := bs_add (P := Tryz.prog) (sp ++ decL q) [ltC k] (by have := HL2.out; simp; omega) W
            have HJ : Hid ((sp ++ decL q) ++ [ltC k] = s2) := by show _ = _; rw [hj, List.append_assoc]
            clear hdl hj
            generalize sp ++ decL q = sq at *
            go_wp2_with (first | (go_at_call 14; refine (HDE.out _).mono ?_; rintro e w' ⟨rfl, hw'⟩; rw [hw']; clear hw' w') | (go_at_call 15; refine (HLE.out _).mono ?_; rintro e w' ⟨rfl, hw'⟩; rw [hw']; clear hw' w'))
            exact ⟨HK1.out _ HJ.out, HML.out⟩
          · rw [if_neg h2] at hj
            have ha2 := bs_add (P := Tryz.prog) sp [ltC k] (by have := HL2.out; simp; omega) W
            have HJ := hide hj
            clear hj
            go_wp2_with (go_at_call 15; refine (HLE.out _).mono ?_; rintro e w' ⟨rfl, hw'⟩; rw [hw']; clear hw' w')
            exact ⟨HK1.out _ HJ.out.symm, HML.out⟩
    · have hlti : ¬ (k : Int) < (n.cf.length : Int) := by omega
      obtain rfl : k = n.cf.length := by omega
      have hR := HT.out
      clear hss HKS HK HK0 HT
      generalize hs' : sideK n.cf sg n.cf.length = s at hsl hR
      generalize hpr : sg * n.num = pr at hp0 hp1 hpw hR
      have hsz := bs_size s
      by_cases h1 : pr > 0
      · obtain ⟨q, rfl⟩ : ∃ q : Nat, pr = (q : Int) := ⟨pr.toNat, by omega⟩
        have HDE := hide (fun W => dec_any q (by omega) W)
        have hdl := decL_len q
        simp only [if_pos h1, Int.toNat_natCast] at hR
        unfold joinT at hR
        by_cases hs0 : s.length = 0
        · rw [if_pos hs0, if_neg (by omega)] at hR
          obtain rfl : s = [] := List.eq_nil_of_length_eq_zero hs0
          have hgt : ¬ (((bs []).size : Int) > 0) := by rw [bs_size]; simp
          have hds := bs_size (decL q)
          have hge : (((bs (decL q)).size : Int) == 0) = false := by rw [hds]; exact nat_ne0 (by omega)
          have ha1 := bs_add (P := Tryz.prog) [] (decL q) (by simp; omega) W
          rw [List.nil_append] at ha1
          have HR := hide hR
          clear hR hdl hsl hsz hs0 hds
          generalize decL q = dq at *
          go_wp2_with (go_at_call 14; refine (HDE.out _).mono ?_; rintro e w' ⟨rfl, hw'⟩; rw [hw']; clear hw' w')
          go_ret
          exact ⟨by rw [HR.out]; rfl, HB.out⟩
        · have hgt : (((bs s).size : Int) > 0) := by rw [bs_size]; omega
          have ha0 : (Op.stringOp .add (bs s) ⟨#[43]⟩).run Tryz.prog W = .ok (.string (bs (s ++ [43]))) W := bs_add (P := Tryz.prog) s [43] (by simp; omega) W
          have ha1 := bs_add (P := Tryz.prog) (s ++ [43]) (decL q) (by simp; omega) W
          rw [if_neg hs0, if_neg (by simp)] at hR
          have hge : (((bs (s ++ [43] ++ decL q)).size : Int) == 0) = false := by rw [bs_size]; simp; omega
          have HR := hide hR
          clear hR hdl hsl hsz hs0
          generalize s ++ [43] = sp at *
          generalize sp ++ decL q = sq at *
          go_wp2_with (go_at_call 14; refine (HDE.out _).mono ?_; rintro e w' ⟨rfl, hw'⟩; rw [hw']; clear hw' w')
          go_ret
          exact ⟨by rw [HR.out]; rfl, HB.out⟩
      · simp only [if_neg h1] at hR
        by_cases hs0 : s.length = 0
        · rw [if_pos hs0] at hR
          obtain rfl : s = [] := List.eq_nil_of_length_eq_zero hs0
          have hge : (((bs []).size : Int) == 0) = true := by rw [bs_size]; simp
          have HR := hide hR
          clear hR hsl hsz hs0
          go_wp2
          go_ret
          exact ⟨by rw [HR.out]; rfl, HB.out⟩
        · rw [if_neg hs0] at hR
          have hge : (((bs s).size : Int) == 0) = false := by rw [bs_size]; exact nat_ne0 hs0
          have HR := hide hR
          clear hR hsl hsz hs0
          go_wp2
          go_ret
          exact ⟨by rw [HR.out]; rfl, HB.out⟩
end Go.Proofs.YtafbggbdlcfbdaaGreatDoor

/- The reference's PrintOf, at what has no parts: contract. -/
namespace Go.Proofs.YtafbggbdlcfbdaaGreatDoor
open Go.RowKit

def plS (i : Nat) : Nat := ([24, 25, 26, 27, 28, 29, 30, 4] : List Nat).getD i 0
theorem plS_inj : ∀ i : Fin 8, ∀ j : Fin 8, plS i.val = plS j.val → i = j := by decide +kernel
theorem plS_lt : ∀ i : Fin 8, plS i.val < 121 := by decide +kernel
set_option maxHeartbeats 8000000 in
set_option maxRecDepth 8000 in
theorem print_line (a : Option Addr) (n cap : Nat) (ns : List Nd) (p : Nat) (wq : World) (nd : Nd) (hs : SlF wq a n ns) (hp : p < n) (hnd : ns.getD p zNd = nd) (hok : ndF nd = 0) (e12 : nd.op = 1 ∨ nd.op = 2) : Calls Tryz.prog 5 #[.slice a n cap, .int .i64 (p : Int)] wq fun e w' => e = .returned (.string (bs (atomT nd))) ∧ Below wq.heap.size wq w' := by
  obtain ⟨hr, hsh⟩ := ndF_zero hok
  obtain ⟨bb, oo, a2, c2, rfl, x0, x1, x2, x3, x4, x5, x6, hcf⟩ := slF_cell hs p hp
  rw [hnd] at x0 x1 x2 x3 x4 x5 x6 hcf
  have hB1 := (Below.refl wq.heap.size wq).alloc (Nat.le_refl _) (ndO nd a2 c2)
  have HB := hide hB1
  have HX := hide (heap_alloc_last wq (ndO nd a2 c2))
  generalize hW1 : wq.alloc (ndO nd a2 c2) = W1 at HB HX
  obtain ⟨z0, z1, z2, z3, z4, z5, z6⟩ := (box7_cells HX.out).1
  have hpi : (p : Int) < (n : Int) := by omega
  have hlt : ∀ {pp : Addr} {vv : Value}, W1.cell? pp = some vv → ∀ W, Below W1.heap.size W1 W → W.cell? pp = some vv := fun h W hb => (hb.cell (World.block_lt_of_cell? W1 _ h)).trans h
  have HC0 := hide (hlt z0)
  have HC1 := hide (hlt z1)
  have HC2 := hide (hlt z2)
  have HC3 := hide (hlt z3)
  have HC4 := hide (hlt z4)
  have HC5 := hide (hlt z5)
  have HC6 := hide (hlt z6)
  have hln := hr.2.2.2.2.2.2 e12
  have hcb : ∀ k, -1000 ≤ nd.cf.getD k 0 ∧ nd.cf.getD k 0 ≤ 1000 := fun k => by
    by_cases h : k < nd.cf.length
    · have := absT_at nd.cf h
      unfold absI at this
      split at this <;> omega
    · simp [List.getD, List.getElem?_eq_none (Nat.le_of_not_lt h)]
  have hcW := sl_below hcf HB.out
  have HS1 := hide (fun W (hb : Below W1.heap.size W1 W) => sideOf_any nd a2 c2 1 (.inl rfl) hcb hln.1 (by omega) W (sl_below hcW hb))
  have HS2 := hide (fun W (hb : Below W1.heap.size W1 W) => sideOf_any nd a2 c2 (-1) (.inr rfl) hcb hln.1 (by omega) W (sl_below hcW hb))
  have hl1 := sideT_len nd.cf nd.num 1
  have hl2 := sideT_len nd.cf nd.num (-1)
  have hcl := hln.1
  unfold ndV at HS1 HS2
  obtain ⟨sg, hsg⟩ : ∃ sg : List UInt8, sg = if nd.op = 2 then [60] else [61] := ⟨_, rfl⟩
  have HR : Hid (atomT nd = sideT nd.cf nd.num 1 ++ sg ++ sideT nd.cf nd.num (-1)) := by
    show _ = _
    rw [hsg]
    unfold atomT
    rcases e12 with h | h
    · rw [if_pos h, if_neg (by omega)]
    · rw [if_neg (by omega), if_pos h, if_pos h]
  have hgl : sg.length = 1 := by rw [hsg]; split <;> rfl
  have ha1 : ∀ W, (Op.stringOp .add (bs (sideT nd.cf nd.num 1)) (bs sg)).run Tryz.prog W = .ok (.string (bs (sideT nd.cf nd.num 1 ++ sg))) W := bs_add _ _ (by omega)
  have ha2 : ∀ W, (Op.stringOp .add (bs (sideT nd.cf nd.num 1 ++ sg)) (bs (sideT nd.cf nd.num (-1)))).run Tryz.prog W = .ok (.string (bs (sideT nd.cf nd.num 1 ++ sg ++ sideT nd.cf nd.num (-1)))) W := bs_add _ _ (by rw [List.length_append]; omega)
  generalize atomT nd = R at HR ⊢
  generalize sideT nd.cf nd.num 1 ++ sg ++ sideT nd.cf nd.num (-1) = t2 at *
  generalize sideT nd.cf nd.num 1 ++ sg = t1 at *
  generalize sideT nd.cf nd.num 1 = s1 at *
  generalize sideT nd.cf nd.num (-1) = s2 at *
  clear hs hok hnd hr hsh hcf hcb hcW hln hl1 hl2 hcl hgl hlt
  have HSG := hide hsg
  clear hsg
  have ht : ((nd.op == 1) = true ∧ (nd.op == 2) = false ∧ Hid (bs sg = ⟨#[61]⟩)) ∨ ((nd.op == 1) = false ∧ (nd.op == 2) = true ∧ Hid (bs sg = ⟨#[60]⟩)) := by
    rcases e12 with h | h
    · exact .inl ⟨by simp [h], by simp [h], by show _ = _; rw [HSG.out, if_neg (by omega)]; rfl⟩
    · exact .inr ⟨by simp [h], by simp [h], by show _ = _; rw [HSG.out, if_pos h]; rfl⟩
  clear e12
  rcases ht with ⟨q1, q2, HG⟩ | ⟨q1, q2, HG⟩
  all_goals
    go_enter Tryz.func5, Tryz.ntmps5
    go_upto_region 6 with fail
    clear hW1 z0 z1 z2 z3 z4 z5 z6 x0 x1 x2 x3 x4 x5 x6
    rw [← HG.out]
    refine region_vals (by kernel_rfl) (rvOn_spec (by decide +kernel)) plS (fun i => ([.agg #[.int .i64 nd.op, .int .i64 nd.var, .int .i64 nd.oth, .int .i64 nd.wd, .int .i64 nd.wd2, .int .i64 nd.num, .slice a2 nd.cf.length c2], .string (bs (s1)), .string (bs (sg)), .string (bs (t1)), .agg #[.int .i64 nd.op, .int .i64 nd.var, .int .i64 nd.oth, .int .i64 nd.wd, .int .i64 nd.wd2, .int .i64 nd.num, .slice a2 nd.cf.length c2], .string (bs (s2)), .string (bs (t2)), .string (bs (t2))] : List Value).getD i undef) (fun i j hi hj e => by have := plS_inj ⟨i, hi⟩ ⟨j, hj⟩ e; injection this) (fun i hi => plS_lt ⟨i, hi⟩) ?_ ?_
    · intro T W i o ho hsz hdep hst hb
      have hi : i < 8 := (Array.getElem?_eq_some_iff.1 ho).1
      have e5 : T[5]? = some (.pointer (some ⟨wq.heap.size, 0, none⟩)) := hst 5 (by decide +kernel)
      have e6 : T[6]? = some (.string (bs (sg))) := hst 6 (by decide +kernel)
      have k0 := HC0.out W hb
      have k1 := HC1.out W hb
      have k2 := HC2.out W hb
      have k3 := HC3.out W hb
      have k4 := HC4.out W hb
      have k5 := HC5.out W hb
      have k6 := HC6.out W hb
      have HCA := hide (HS1.out W hb)
      have HCB := hide (HS2.out W hb)
      have HBW := hide hb
      clear hsz hst hb HC0 HC1 HC2 HC3 HC4 HC5 HC6 HS1 HS2
      rcases (by omega : i = 0 ∨ i = 1 ∨ i = 2 ∨ i = 3 ∨ i = 4 ∨ i = 5 ∨ i = 6 ∨ i = 7) with rfl | rfl | rfl | rfl | rfl | rfl | rfl | rfl
      · injection ho with ho
        subst ho
        clear hdep
        refine wpOp_step (o := _) rfl fun K2 hK => ?_
        rw [if_pos (by rfl)]
        have HK := hide hK
        clear hK
        go_simp
        exact HK.out _ _ ⟨rfl, HBW.out⟩
      · injection ho with ho
        subst ho
        have d0 : T[24]? = some (.agg #[.int .i64 nd.op, .int .i64 nd.var, .int .i64 nd.oth, .int .i64 nd.wd, .int .i64 nd.wd2, .int .i64 nd.num, .slice a2 nd.cf.length c2]) := hdep { on := 0, ground := .data } (by simp) rfl
        clear hdep
        refine wpOp_step (o := _) rfl fun K2 hK => ?_
        rw [if_pos (by rfl)]
        have HK := hide hK
        clear hK
        go_simp
        refine HCA.out.mono ?_
        rintro e W2 ⟨rfl, hb2⟩
        exact HK.out _ _ ⟨rfl, below_step HBW.out hb2⟩
      · injection ho with ho
        subst ho
        clear hdep
        refine wpOp_step (o := _) rfl fun K2 hK => ?_
        rw [if_pos (by rfl)]
        have HK := hide hK
        clear hK
        go_simp
        exact HK.out _ _ ⟨rfl, HBW.out⟩
      · injection ho with ho
        subst ho
        have d1 : T[25]? = some (.string (bs (s1))) := hdep { on := 1, ground := .data } (by simp) rfl
        have d2 : T[26]? = some (.string (bs (sg))) := hdep { on := 2, ground := .data } (by simp) rfl
        clear hdep
        refine wpOp_step (o := _) rfl fun K2 hK => ?_
        rw [if_pos (by rfl)]
        have HK := hide hK
        clear hK
        go_simp
        exact HK.out _ _ ⟨rfl, HBW.out⟩
      · injection ho with ho
        subst ho
        clear hdep
        refine wpOp_step (o := _) rfl fun K2 hK => ?_
        rw [if_pos (by rfl)]
        have HK := hide hK
        clear hK
        go_simp
        exact HK.out _ _ ⟨rfl, HBW.out⟩
      · injection ho with ho
        subst ho
        have d4 : T[28]? = some (.agg #[.int .i64 nd.op, .int .i64 nd.var, .int .i64 nd.oth, .int .i64 nd.wd, .int .i64 nd.wd2, .int .i64 nd.num, .slice a2 nd.cf.length c2]) := hdep { on := 4, ground := .data } (by simp) rfl
        clear hdep
        refine wpOp_step (o := _) rfl fun K2 hK => ?_
        rw [if_pos (by rfl)]
        have HK := hide hK
        clear hK
        go_simp
        refine HCB.out.mono ?_
        rintro e W2 ⟨rfl, hb2⟩
        exact HK.out _ _ ⟨rfl, below_step HBW.out hb2⟩
      · injection ho with ho
        subst ho
        have d3 : T[27]? = some (.string (bs (t1))) := hdep { on := 3, ground := .data } (by simp) rfl
        have d5 : T[29]? = some (.string (bs (s2))) := hdep { on := 5, ground := .data } (by simp) rfl
        clear hdep
        refine wpOp_step (o := _) rfl fun K2 hK => ?_
        rw [if_pos (by rfl)]
        have HK := hide hK
        clear hK
        go_simp
        exact HK.out _ _ ⟨rfl, HBW.out⟩
      · injection ho with ho
        subst ho
        have d6 : T[30]? = some (.string (bs (t2))) := hdep { on := 6, ground := .data } (by simp) rfl
        clear hdep
        refine wpOp_step (o := _) rfl fun K2 hK => ?_
        rw [if_pos (by rfl)]
        have HK := hide hK
        clear hK
        go_simp
        exact HK.out _ _ ⟨rfl, HBW.out⟩
    · intro T W hsz hval hst hb
      have h4 : T[4]? = some (.string (bs t2)) := hval 7 (by decide +kernel)
      have HBW := hide hb
      clear hval hst hb hsz
      go_wp2
      go_ret
      exact ⟨by simp [h4, HR.out], below_step HB.out HBW.out⟩
def paS (i : Nat) : Nat := ([34, 35, 36, 37, 38, 39, 40, 41, 42, 43, 44, 45, 46, 47, 4] : List Nat).getD i 0
theorem paS_inj : ∀ i : Fin 15, ∀ j : Fin 15, paS i.val = paS j.val → i = j := by decide +kernel
theorem paS_lt : ∀ i : Fin 15, paS i.val < 121 := by decide +kernel
set_option maxHeartbeats 8000000 in
set_option maxRecDepth 8000 in
theorem print_at (a : Option Addr) (n cap : Nat) (ns : List Nd) (p : Nat) (wq : World) (nd : Nd) (hs : SlF wq a n ns) (hp : p < n) (hnd : ns.getD p zNd = nd) (hok : ndF nd = 0) (e3 : nd.op = 3) : Calls Tryz.prog 5 #[.slice a n cap, .int .i64 (p : Int)] wq fun e w' => e = .returned (.string (bs (atomT nd))) ∧ Below wq.heap.size wq w' := by
  obtain ⟨hr, hsh⟩ := ndF_zero hok
  obtain ⟨bb, oo, a2, c2, rfl, x0, x1, x2, x3, x4, x5, x6, hcf⟩ := slF_cell hs p hp
  rw [hnd] at x0 x1 x2 x3 x4 x5 x6 hcf
  have hB1 := (Below.refl wq.heap.size wq).alloc (Nat.le_refl _) (ndO nd a2 c2)
  have HB := hide hB1
  have HX := hide (heap_alloc_last wq (ndO nd a2 c2))
  generalize hW1 : wq.alloc (ndO nd a2 c2) = W1 at HB HX
  obtain ⟨z0, z1, z2, z3, z4, z5, z6⟩ := (box7_cells HX.out).1
  have hpi : (p : Int) < (n : Int) := by omega
  have hlt : ∀ {pp : Addr} {vv : Value}, W1.cell? pp = some vv → ∀ W, Below W1.heap.size W1 W → W.cell? pp = some vv := fun h W hb => (hb.cell (World.block_lt_of_cell? W1 _ h)).trans h
  have HC0 := hide (hlt z0)
  have HC1 := hide (hlt z1)
  have HC2 := hide (hlt z2)
  have HC3 := hide (hlt z3)
  have HC4 := hide (hlt z4)
  have HC5 := hide (hlt z5)
  have HC6 := hide (hlt z6)
  have hv := hr.2.1 (.inl e3)
  have hwr := hr.2.2.2.1 (.inl e3)
  have hnm := hr.2.2.2.2.2.1 e3
  obtain ⟨q, hq⟩ : ∃ q : Nat, nd.var = (q : Int) := ⟨nd.var.toNat, by omega⟩
  obtain ⟨u, hu⟩ : ∃ u : Nat, nd.wd = (u : Int) := ⟨nd.wd.toNat, by omega⟩
  obtain ⟨m, hm⟩ : ∃ m : Nat, nd.num = (m : Int) := ⟨nd.num.toNat, by omega⟩
  have HR : Hid (atomT nd = [64] ++ decL u ++ [91] ++ [ltC q] ++ [93, 61] ++ decL m) := by
    show _ = _
    unfold atomT
    rw [if_neg (by omega), if_neg (by omega), if_pos e3, hq, hu, hm, Int.toNat_natCast, Int.toNat_natCast, Int.toNat_natCast]
  rw [hu] at HC3
  rw [hq] at HC1
  rw [hm] at HC5
  have HDU := hide (fun W => dec_any u (by omega) W)
  have HDM := hide (fun W => dec_any m (by omega) W)
  have HLQ := hide (fun W => letter_any q (by omega) W)
  have l1 := decL_len u
  have l2 := decL_len m
  have ha1 : ∀ W, (Op.stringOp .add ⟨#[64]⟩ (bs (decL u))).run Tryz.prog W = .ok (.string (bs ([64] ++ decL u))) W := bs_add [64] _ (by simp; omega)
  have ha2 : ∀ W, (Op.stringOp .add (bs ([64] ++ decL u)) ⟨#[91]⟩).run Tryz.prog W = .ok (.string (bs ([64] ++ decL u ++ [91]))) W := bs_add _ [91] (by simp; omega)
  have ha3 : ∀ W, (Op.stringOp .add (bs ([64] ++ decL u ++ [91])) (bs [ltC q])).run Tryz.prog W = .ok (.string (bs ([64] ++ decL u ++ [91] ++ [ltC q]))) W := bs_add _ _ (by simp; omega)
  have ha4 : ∀ W, (Op.stringOp .add (bs ([64] ++ decL u ++ [91] ++ [ltC q])) ⟨#[93, 61]⟩).run Tryz.prog W = .ok (.string (bs ([64] ++ decL u ++ [91] ++ [ltC q] ++ [93, 61]))) W := bs_add _ [93, 61] (by simp; omega)
  have ha5 : ∀ W, (Op.stringOp .add (bs ([64] ++ decL u ++ [91] ++ [ltC q] ++ [93, 61])) (bs (decL m))).run Tryz.prog W = .ok (.string (bs ([64] ++ decL u ++ [91] ++ [ltC q] ++ [93, 61] ++ decL m))) W := bs_add _ _ (by simp; omega)
  have e1 : (nd.op == 1) = false := by simp [e3]
  have e2 : (nd.op == 2) = false := by simp [e3]
  have e4 : (nd.op == 3) = true := by simp [e3]
  generalize atomT nd = R at HR ⊢
  clear hs hok hnd hr hsh hcf hlt hv hwr hnm hq hu hm l1 l2 e3
  generalize [64] ++ decL u ++ [91] ++ [ltC q] ++ [93, 61] ++ decL m = t5 at *
  generalize [64] ++ decL u ++ [91] ++ [ltC q] ++ [93, 61] = t4 at *
  generalize [64] ++ decL u ++ [91] ++ [ltC q] = t3 at *
  generalize [64] ++ decL u ++ [91] = t2 at *
  generalize [64] ++ decL u = t1 at *
  generalize decL u = du at *
  generalize decL m = dm at *
  go_enter Tryz.func5, Tryz.ntmps5
  go_upto_region 8 with fail
  clear hW1 z0 z1 z2 z3 z4 z5 z6 x0 x1 x2 x3 x4 x5 x6
  refine region_vals (by kernel_rfl) (rvOn_spec (by decide +kernel)) paS (fun i => ([.pointer (some ⟨wq.heap.size, 3, none⟩), .int .i64 (u : Int), .string (bs (du)), .string (bs (t1)), .string (bs (t2)), .pointer (some ⟨wq.heap.size, 1, none⟩), .int .i64 (q : Int), .string (bs ([ltC q])), .string (bs (t3)), .string (bs (t4)), .pointer (some ⟨wq.heap.size, 5, none⟩), .int .i64 (m : Int), .string (bs (dm)), .string (bs (t5)), .string (bs (t5))] : List Value).getD i undef) (fun i j hi hj e => by have := paS_inj ⟨i, hi⟩ ⟨j, hj⟩ e; injection this) (fun i hi => paS_lt ⟨i, hi⟩) ?_ ?_
  · intro T W i o ho hsz hdep hst hb
    have hi : i < 15 := (Array.getElem?_eq_some_iff.1 ho).1
    have e5 : T[5]? = some (.pointer (some ⟨wq.heap.size, 0, none⟩)) := hst 5 (by decide +kernel)
    have k0 := HC0.out W hb
    have k1 := HC1.out W hb
    have k2 := HC2.out W hb
    have k3 := HC3.out W hb
    have k4 := HC4.out W hb
    have k5 := HC5.out W hb
    have k6 := HC6.out W hb
    have HBW := hide hb
    clear hsz hst hb HC0 HC1 HC2 HC3 HC4 HC5 HC6
    rcases (by omega : i = 0 ∨ i = 1 ∨ i = 2 ∨ i = 3 ∨ i = 4 ∨ i = 5 ∨ i = 6 ∨ i = 7 ∨ i = 8 ∨ i = 9 ∨ i = 10 ∨ i = 11 ∨ i = 12 ∨ i = 13 ∨ i = 14) with rfl | rfl | rfl | rfl | rfl | rfl | rfl | rfl | rfl | rfl | rfl | rfl | rfl | rfl | rfl
    · injection ho with ho
      subst ho
      clear hdep
      refine wpOp_step (o := _) rfl fun K2 hK => ?_
      rw [if_pos (by rfl)]
      have HK := hide hK
      clear hK
      go_simp
      exact HK.out _ _ ⟨rfl, HBW.out⟩
    · injection ho with ho
      subst ho
      have d0 : T[34]? = some (.pointer (some ⟨wq.heap.size, 3, none⟩)) := hdep { on := 0, ground := .data } (by simp) rfl
      clear hdep
      refine wpOp_step (o := _) rfl fun K2 hK => ?_
      rw [if_pos (by rfl)]
      have HK := hide hK
      clear hK
      go_simp
      exact HK.out _ _ ⟨rfl, HBW.out⟩
    · injection ho with ho
      subst ho
      have d1 : T[35]? = some (.int .i64 (u : Int)) := hdep { on := 1, ground := .data } (by simp) rfl
      clear hdep
      refine wpOp_step (o := _) rfl fun K2 hK => ?_
      rw [if_pos (by rfl)]
      have HK := hide hK
      clear hK
      go_simp
      refine (HDU.out W).mono ?_
      rintro e W2 ⟨rfl, rfl⟩
      exact HK.out _ _ ⟨rfl, HBW.out⟩
    · injection ho with ho
      subst ho
      have d2 : T[36]? = some (.string (bs (du))) := hdep { on := 2, ground := .data } (by simp) rfl
      clear hdep
      refine wpOp_step (o := _) rfl fun K2 hK => ?_
      rw [if_pos (by rfl)]
      have HK := hide hK
      clear hK
      go_simp
      exact HK.out _ _ ⟨rfl, HBW.out⟩
    · injection ho with ho
      subst ho
      have d3 : T[37]? = some (.string (bs (t1))) := hdep { on := 3, ground := .data } (by simp) rfl
      clear hdep
      refine wpOp_step (o := _) rfl fun K2 hK => ?_
      rw [if_pos (by rfl)]
      have HK := hide hK
      clear hK
      go_simp
      exact HK.out _ _ ⟨rfl, HBW.out⟩
    · injection ho with ho
      subst ho
      clear hdep
      refine wpOp_step (o := _) rfl fun K2 hK => ?_
      rw [if_pos (by rfl)]
      have HK := hide hK
      clear hK
      go_simp
      exact HK.out _ _ ⟨rfl, HBW.out⟩
    · injection ho with ho
      subst ho
      have d5 : T[39]? = some (.pointer (some ⟨wq.heap.size, 1, none⟩)) := hdep { on := 5, ground := .data } (by simp) rfl
      clear hdep
      refine wpOp_step (o := _) rfl fun K2 hK => ?_
      rw [if_pos (by rfl)]
      have HK := hide hK
      clear hK
      go_simp
      exact HK.out _ _ ⟨rfl, HBW.out⟩
    · injection ho with ho
      subst ho
      have d6 : T[40]? = some (.int .i64 (q : Int)) := hdep { on := 6, ground := .data } (by simp) rfl
      clear hdep
      refine wpOp_step (o := _) rfl fun K2 hK => ?_
      rw [if_pos (by rfl)]
      have HK := hide hK
      clear hK
      go_simp
      refine (HLQ.out W).mono ?_
      rintro e W2 ⟨rfl, rfl⟩
      exact HK.out _ _ ⟨rfl, HBW.out⟩
    · injection ho with ho
      subst ho
      have d4 : T[38]? = some (.string (bs (t2))) := hdep { on := 4, ground := .data } (by simp) rfl
      have d7 : T[41]? = some (.string (bs ([ltC q]))) := hdep { on := 7, ground := .data } (by simp) rfl
      clear hdep
      refine wpOp_step (o := _) rfl fun K2 hK => ?_
      rw [if_pos (by rfl)]
      have HK := hide hK
      clear hK
      go_simp
      exact HK.out _ _ ⟨rfl, HBW.out⟩
    · injection ho with ho
      subst ho
      have d8 : T[42]? = some (.string (bs (t3))) := hdep { on := 8, ground := .data } (by simp) rfl
      clear hdep
      refine wpOp_step (o := _) rfl fun K2 hK => ?_
      rw [if_pos (by rfl)]
      have HK := hide hK
      clear hK
      go_simp
      exact HK.out _ _ ⟨rfl, HBW.out⟩
    · injection ho with ho
      subst ho
      clear hdep
      refine wpOp_step (o := _) rfl fun K2 hK => ?_
      rw [if_pos (by rfl)]
      have HK := hide hK
      clear hK
      go_simp
      exact HK.out _ _ ⟨rfl, HBW.out⟩
    · injection ho with ho
      subst ho
      have d10 : T[44]? = some (.pointer (some ⟨wq.heap.size, 5, none⟩)) := hdep { on := 10, ground := .data } (by simp) rfl
      clear hdep
      refine wpOp_step (o := _) rfl fun K2 hK => ?_
      rw [if_pos (by rfl)]
      have HK := hide hK
      clear hK
      go_simp
      exact HK.out _ _ ⟨rfl, HBW.out⟩
    · injection ho with ho
      subst ho
      have d11 : T[45]? = some (.int .i64 (m : Int)) := hdep { on := 11, ground := .data } (by simp) rfl
      clear hdep
      refine wpOp_step (o := _) rfl fun K2 hK => ?_
      rw [if_pos (by rfl)]
      have HK := hide hK
      clear hK
      go_simp
      refine (HDM.out W).mono ?_
      rintro e W2 ⟨rfl, rfl⟩
      exact HK.out _ _ ⟨rfl, HBW.out⟩
    · injection ho with ho
      subst ho
      have d9 : T[43]? = some (.string (bs (t4))) := hdep { on := 9, ground := .data } (by simp) rfl
      have d12 : T[46]? = some (.string (bs (dm))) := hdep { on := 12, ground := .data } (by simp) rfl
      clear hdep
      refine wpOp_step (o := _) rfl fun K2 hK => ?_
      rw [if_pos (by rfl)]
      have HK := hide hK
      clear hK
      go_simp
      exact HK.out _ _ ⟨rfl, HBW.out⟩
    · injection ho with ho
      subst ho
      have d13 : T[47]? = some (.string (bs (t5))) := hdep { on := 13, ground := .data } (by simp) rfl
      clear hdep
      refine wpOp_step (o := _) rfl fun K2 hK => ?_
      rw [if_pos (by rfl)]
      have HK := hide hK
      clear hK
      go_simp
      exact HK.out _ _ ⟨rfl, HBW.out⟩
  · intro T W hsz hval hst hb
    have h4 : T[4]? = some (.string (bs t5)) := hval 14 (by decide +kernel)
    have HBW := hide hb
    clear hval hst hb hsz
    go_wp2
    go_ret
    exact ⟨by simp [h4, HR.out], below_step HB.out HBW.out⟩
def pkS (i : Nat) : Nat := ([51, 52, 53, 54, 55, 56, 57, 58, 59, 60, 61, 62, 63, 64, 65, 66, 67, 68, 69, 70, 4] : List Nat).getD i 0
theorem pkS_inj : ∀ i : Fin 21, ∀ j : Fin 21, pkS i.val = pkS j.val → i = j := by decide +kernel
theorem pkS_lt : ∀ i : Fin 21, pkS i.val < 121 := by decide +kernel
set_option maxHeartbeats 8000000 in
set_option maxRecDepth 8000 in
theorem print_like (a : Option Addr) (n cap : Nat) (ns : List Nd) (p : Nat) (wq : World) (nd : Nd) (hs : SlF wq a n ns) (hp : p < n) (hnd : ns.getD p zNd = nd) (hok : ndF nd = 0) (e4 : nd.op = 4) : Calls Tryz.prog 5 #[.slice a n cap, .int .i64 (p : Int)] wq fun e w' => e = .returned (.string (bs (atomT nd))) ∧ Below wq.heap.size wq w' := by
  obtain ⟨hr, hsh⟩ := ndF_zero hok
  obtain ⟨bb, oo, a2, c2, rfl, x0, x1, x2, x3, x4, x5, x6, hcf⟩ := slF_cell hs p hp
  rw [hnd] at x0 x1 x2 x3 x4 x5 x6 hcf
  have hB1 := (Below.refl wq.heap.size wq).alloc (Nat.le_refl _) (ndO nd a2 c2)
  have HB := hide hB1
  have HX := hide (heap_alloc_last wq (ndO nd a2 c2))
  generalize hW1 : wq.alloc (ndO nd a2 c2) = W1 at HB HX
  obtain ⟨z0, z1, z2, z3, z4, z5, z6⟩ := (box7_cells HX.out).1
  have hpi : (p : Int) < (n : Int) := by omega
  have hlt : ∀ {pp : Addr} {vv : Value}, W1.cell? pp = some vv → ∀ W, Below W1.heap.size W1 W → W.cell? pp = some vv := fun h W hb => (hb.cell (World.block_lt_of_cell? W1 _ h)).trans h
  have HC0 := hide (hlt z0)
  have HC1 := hide (hlt z1)
  have HC2 := hide (hlt z2)
  have HC3 := hide (hlt z3)
  have HC4 := hide (hlt z4)
  have HC5 := hide (hlt z5)
  have HC6 := hide (hlt z6)
  have hv := hr.2.1 (.inr (.inl e4))
  have hwr := hr.2.2.2.1 (.inr e4)
  have hv2 := hr.2.2.1 e4
  have hwr2 := hr.2.2.2.2.1 e4
  obtain ⟨q, hq⟩ : ∃ q : Nat, nd.var = (q : Int) := ⟨nd.var.toNat, by omega⟩
  obtain ⟨u, hu⟩ : ∃ u : Nat, nd.wd = (u : Int) := ⟨nd.wd.toNat, by omega⟩
  obtain ⟨m, hm⟩ : ∃ m : Nat, nd.wd2 = (m : Int) := ⟨nd.wd2.toNat, by omega⟩
  obtain ⟨r, hrr⟩ : ∃ r : Nat, nd.oth = (r : Int) := ⟨nd.oth.toNat, by omega⟩
  have HR : Hid (atomT nd = [64] ++ decL u ++ [91] ++ [ltC q] ++ [93, 61, 64] ++ decL m ++ [91] ++ [ltC r] ++ [93]) := by
    show _ = _
    unfold atomT
    rw [if_neg (by omega), if_neg (by omega), if_neg (by omega), hq, hu, hm, hrr, Int.toNat_natCast, Int.toNat_natCast, Int.toNat_natCast, Int.toNat_natCast]
  rw [hu] at HC3
  rw [hq] at HC1
  rw [hm] at HC4
  rw [hrr] at HC2
  have HDU := hide (fun W => dec_any u (by omega) W)
  have HDM := hide (fun W => dec_any m (by omega) W)
  have HLQ := hide (fun W => letter_any q (by omega) W)
  have HLR := hide (fun W => letter_any r (by omega) W)
  have l1 := decL_len u
  have l2 := decL_len m
  have ha1 : ∀ W, (Op.stringOp .add ⟨#[64]⟩ (bs (decL u))).run Tryz.prog W = .ok (.string (bs ([64] ++ decL u))) W := bs_add [64] _ (by simp; omega)
  have ha2 : ∀ W, (Op.stringOp .add (bs ([64] ++ decL u)) ⟨#[91]⟩).run Tryz.prog W = .ok (.string (bs ([64] ++ decL u ++ [91]))) W := bs_add _ [91] (by simp; omega)
  have ha3 : ∀ W, (Op.stringOp .add (bs ([64] ++ decL u ++ [91])) (bs ([ltC q]))).run Tryz.prog W = .ok (.string (bs ([64] ++ decL u ++ [91] ++ [ltC q]))) W := bs_add _ _ (by simp; omega)
  have ha4 : ∀ W, (Op.stringOp .add (bs ([64] ++ decL u ++ [91] ++ [ltC q])) ⟨#[93, 61, 64]⟩).run Tryz.prog W = .ok (.string (bs ([64] ++ decL u ++ [91] ++ [ltC q] ++ [93, 61, 64]))) W := bs_add _ [93, 61, 64] (by simp; omega)
  have ha5 : ∀ W, (Op.stringOp .add (bs ([64] ++ decL u ++ [91] ++ [ltC q] ++ [93, 61, 64])) (bs (decL m))).run Tryz.prog W = .ok (.string (bs ([64] ++ decL u ++ [91] ++ [ltC q] ++ [93, 61, 64] ++ decL m))) W := bs_add _ _ (by simp; omega)
  have ha6 : ∀ W, (Op.stringOp .add (bs ([64] ++ decL u ++ [91] ++ [ltC q] ++ [93, 61, 64] ++ decL m)) ⟨#[91]⟩).run Tryz.prog W = .ok (.string (bs ([64] ++ decL u ++ [91] ++ [ltC q] ++ [93, 61, 64] ++ decL m ++ [91]))) W := bs_add _ [91] (by simp; omega)
  have ha7 : ∀ W, (Op.stringOp .add (bs ([64] ++ decL u ++ [91] ++ [ltC q] ++ [93, 61, 64] ++ decL m ++ [91])) (bs ([ltC r]))).run Tryz.prog W = .ok (.string (bs ([64] ++ decL u ++ [91] ++ [ltC q] ++ [93, 61, 64] ++ decL m ++ [91] ++ [ltC r]))) W := bs_add _ _ (by simp; omega)
  have ha8 : ∀ W, (Op.stringOp .add (bs ([64] ++ decL u ++ [91] ++ [ltC q] ++ [93, 61, 64] ++ decL m ++ [91] ++ [ltC r])) ⟨#[93]⟩).run Tryz.prog W = .ok (.string (bs ([64] ++ decL u ++ [91] ++ [ltC q] ++ [93, 61, 64] ++ decL m ++ [91] ++ [ltC r] ++ [93]))) W := bs_add _ [93] (by simp; omega)
  have e1 : (nd.op == 1) = false := by simp [e4]
  have e2 : (nd.op == 2) = false := by simp [e4]
  have e3 : (nd.op == 3) = false := by simp [e4]
  have e5 : (nd.op == 4) = true := by simp [e4]
  generalize atomT nd = R at HR ⊢
  clear hs hok hnd hr hsh hcf hlt hv hwr hv2 hwr2 hq hu hm hrr l1 l2 e4
  generalize [64] ++ decL u ++ [91] ++ [ltC q] ++ [93, 61, 64] ++ decL m ++ [91] ++ [ltC r] ++ [93] = t8 at *
  generalize [64] ++ decL u ++ [91] ++ [ltC q] ++ [93, 61, 64] ++ decL m ++ [91] ++ [ltC r] = t7 at *
  generalize [64] ++ decL u ++ [91] ++ [ltC q] ++ [93, 61, 64] ++ decL m ++ [91] = t6 at *
  generalize [64] ++ decL u ++ [91] ++ [ltC q] ++ [93, 61, 64] ++ decL m = t5 at *
  generalize [64] ++ decL u ++ [91] ++ [ltC q] ++ [93, 61, 64] = t4 at *
  generalize [64] ++ decL u ++ [91] ++ [ltC q] = t3 at *
  generalize [64] ++ decL u ++ [91] = t2 at *
  generalize [64] ++ decL u = t1 at *
  generalize decL u = du at *
  generalize decL m = dm at *
  go_enter Tryz.func5, Tryz.ntmps5
  go_upto_region 10 with fail
  clear hW1 z0 z1 z2 z3 z4 z5 z6 x0 x1 x2 x3 x4 x5 x6
  refine region_vals (by kernel_rfl) (rvOn_spec (by decide +kernel)) pkS (fun i => ([.pointer (some ⟨wq.heap.size, 3, none⟩), .int .i64 (u : Int), .string (bs (du)), .string (bs (t1)), .string (bs (t2)), .pointer (some ⟨wq.heap.size, 1, none⟩), .int .i64 (q : Int), .string (bs ([ltC q])), .string (bs (t3)), .string (bs (t4)), .pointer (some ⟨wq.heap.size, 4, none⟩), .int .i64 (m : Int), .string (bs (dm)), .string (bs (t5)), .string (bs (t6)), .pointer (some ⟨wq.heap.size, 2, none⟩), .int .i64 (r : Int), .string (bs ([ltC r])), .string (bs (t7)), .string (bs (t8)), .string (bs (t8))] : List Value).getD i undef) (fun i j hi hj e => by have := pkS_inj ⟨i, hi⟩ ⟨j, hj⟩ e; injection this) (fun i hi => pkS_lt ⟨i, hi⟩) ?_ ?_
  · intro T W i o ho hsz hdep hst hb
    have hi : i < 21 := (Array.getElem?_eq_some_iff.1 ho).1
    have e5 : T[5]? = some (.pointer (some ⟨wq.heap.size, 0, none⟩)) := hst 5 (by decide +kernel)
    have k0 := HC0.out W hb
    have k1 := HC1.out W hb
    have k2 := HC2.out W hb
    have k3 := HC3.out W hb
    have k4 := HC4.out W hb
    have k5 := HC5.out W hb
    have k6 := HC6.out W hb
    have HBW := hide hb
    clear hsz hst hb HC0 HC1 HC2 HC3 HC4 HC5 HC6
    rcases (by omega : i = 0 ∨ i = 1 ∨ i = 2 ∨ i = 3 ∨ i = 4 ∨ i = 5 ∨ i = 6 ∨ i = 7 ∨ i = 8 ∨ i = 9 ∨ i = 10 ∨ i = 11 ∨ i = 12 ∨ i = 13 ∨ i = 14 ∨ i = 15 ∨ i = 16 ∨ i = 17 ∨ i = 18 ∨ i = 19 ∨ i = 20) with rfl | rfl | rfl | rfl | rfl | rfl | rfl | rfl | rfl | rfl | rfl | rfl | rfl | rfl | rfl | rfl | rfl | rfl | rfl | rfl | rfl
    · injection ho with ho
      subst ho
      clear hdep
      refine wpOp_step (o := _) rfl fun K2 hK => ?_
      rw [if_pos (by rfl)]
      have HK := hide hK
      clear hK
      go_simp
      exact HK.out _ _ ⟨rfl, HBW.out⟩
    · injection ho with ho
      subst ho
      have d0 : T[51]? = some (.pointer (some ⟨wq.heap.size, 3, none⟩)) := hdep { on := 0, ground := .data } (by simp) rfl
      clear hdep
      refine wpOp_step (o := _) rfl fun K2 hK => ?_
      rw [if_pos (by rfl)]
      have HK := hide hK
      clear hK
      go_simp
      exact HK.out _ _ ⟨rfl, HBW.out⟩
    · injection ho with ho
      subst ho
      have d1 : T[52]? = some (.int .i64 (u : Int)) := hdep { on := 1, ground := .data } (by simp) rfl
      clear hdep
      refine wpOp_step (o := _) rfl fun K2 hK => ?_
      rw [if_pos (by rfl)]
      have HK := hide hK
      clear hK
      go_simp
      refine (HDU.out W).mono ?_
      rintro e W2 ⟨rfl, rfl⟩
      exact HK.out _ _ ⟨rfl, HBW.out⟩
    · injection ho with ho
      subst ho
      have d2 : T[53]? = some (.string (bs (du))) := hdep { on := 2, ground := .data } (by simp) rfl
      clear hdep
      refine wpOp_step (o := _) rfl fun K2 hK => ?_
      rw [if_pos (by rfl)]
      have HK := hide hK
      clear hK
      go_simp
      exact HK.out _ _ ⟨rfl, HBW.out⟩
    · injection ho with ho
      subst ho
      have d3 : T[54]? = some (.string (bs (t1))) := hdep { on := 3, ground := .data } (by simp) rfl
      clear hdep
      refine wpOp_step (o := _) rfl fun K2 hK => ?_
      rw [if_pos (by rfl)]
      have HK := hide hK
      clear hK
      go_simp
      exact HK.out _ _ ⟨rfl, HBW.out⟩
    · injection ho with ho
      subst ho
      clear hdep
      refine wpOp_step (o := _) rfl fun K2 hK => ?_
      rw [if_pos (by rfl)]
      have HK := hide hK
      clear hK
      go_simp
      exact HK.out _ _ ⟨rfl, HBW.out⟩
    · injection ho with ho
      subst ho
      have d5 : T[56]? = some (.pointer (some ⟨wq.heap.size, 1, none⟩)) := hdep { on := 5, ground := .data } (by simp) rfl
      clear hdep
      refine wpOp_step (o := _) rfl fun K2 hK => ?_
      rw [if_pos (by rfl)]
      have HK := hide hK
      clear hK
      go_simp
      exact HK.out _ _ ⟨rfl, HBW.out⟩
    · injection ho with ho
      subst ho
      have d6 : T[57]? = some (.int .i64 (q : Int)) := hdep { on := 6, ground := .data } (by simp) rfl
      clear hdep
      refine wpOp_step (o := _) rfl fun K2 hK => ?_
      rw [if_pos (by rfl)]
      have HK := hide hK
      clear hK
      go_simp
      refine (HLQ.out W).mono ?_
      rintro e W2 ⟨rfl, rfl⟩
      exact HK.out _ _ ⟨rfl, HBW.out⟩
    · injection ho with ho
      subst ho
      have d4 : T[55]? = some (.string (bs (t2))) := hdep { on := 4, ground := .data } (by simp) rfl
      have d7 : T[58]? = some (.string (bs ([ltC q]))) := hdep { on := 7, ground := .data } (by simp) rfl
      clear hdep
      refine wpOp_step (o := _) rfl fun K2 hK => ?_
      rw [if_pos (by rfl)]
      have HK := hide hK
      clear hK
      go_simp
      exact HK.out _ _ ⟨rfl, HBW.out⟩
    · injection ho with ho
      subst ho
      have d8 : T[59]? = some (.string (bs (t3))) := hdep { on := 8, ground := .data } (by simp) rfl
      clear hdep
      refine wpOp_step (o := _) rfl fun K2 hK => ?_
      rw [if_pos (by rfl)]
      have HK := hide hK
      clear hK
      go_simp
      exact HK.out _ _ ⟨rfl, HBW.out⟩
    · injection ho with ho
      subst ho
      clear hdep
      refine wpOp_step (o := _) rfl fun K2 hK => ?_
      rw [if_pos (by rfl)]
      have HK := hide hK
      clear hK
      go_simp
      exact HK.out _ _ ⟨rfl, HBW.out⟩
    · injection ho with ho
      subst ho
      have d10 : T[61]? = some (.pointer (some ⟨wq.heap.size, 4, none⟩)) := hdep { on := 10, ground := .data } (by simp) rfl
      clear hdep
      refine wpOp_step (o := _) rfl fun K2 hK => ?_
      rw [if_pos (by rfl)]
      have HK := hide hK
      clear hK
      go_simp
      exact HK.out _ _ ⟨rfl, HBW.out⟩
    · injection ho with ho
      subst ho
      have d11 : T[62]? = some (.int .i64 (m : Int)) := hdep { on := 11, ground := .data } (by simp) rfl
      clear hdep
      refine wpOp_step (o := _) rfl fun K2 hK => ?_
      rw [if_pos (by rfl)]
      have HK := hide hK
      clear hK
      go_simp
      refine (HDM.out W).mono ?_
      rintro e W2 ⟨rfl, rfl⟩
      exact HK.out _ _ ⟨rfl, HBW.out⟩
    · injection ho with ho
      subst ho
      have d9 : T[60]? = some (.string (bs (t4))) := hdep { on := 9, ground := .data } (by simp) rfl
      have d12 : T[63]? = some (.string (bs (dm))) := hdep { on := 12, ground := .data } (by simp) rfl
      clear hdep
      refine wpOp_step (o := _) rfl fun K2 hK => ?_
      rw [if_pos (by rfl)]
      have HK := hide hK
      clear hK
      go_simp
      exact HK.out _ _ ⟨rfl, HBW.out⟩
    · injection ho with ho
      subst ho
      have d13 : T[64]? = some (.string (bs (t5))) := hdep { on := 13, ground := .data } (by simp) rfl
      clear hdep
      refine wpOp_step (o := _) rfl fun K2 hK => ?_
      rw [if_pos (by rfl)]
      have HK := hide hK
      clear hK
      go_simp
      exact HK.out _ _ ⟨rfl, HBW.out⟩
    · injection ho with ho
      subst ho
      clear hdep
      refine wpOp_step (o := _) rfl fun K2 hK => ?_
      rw [if_pos (by rfl)]
      have HK := hide hK
      clear hK
      go_simp
      exact HK.out _ _ ⟨rfl, HBW.out⟩
    · injection ho with ho
      subst ho
      have d15 : T[66]? = some (.pointer (some ⟨wq.heap.size, 2, none⟩)) := hdep { on := 15, ground := .data } (by simp) rfl
      clear hdep
      refine wpOp_step (o := _) rfl fun K2 hK => ?_
      rw [if_pos (by rfl)]
      have HK := hide hK
      clear hK
      go_simp
      exact HK.out _ _ ⟨rfl, HBW.out⟩
    · injection ho with ho
      subst ho
      have d16 : T[67]? = some (.int .i64 (r : Int)) := hdep { on := 16, ground := .data } (by simp) rfl
      clear hdep
      refine wpOp_step (o := _) rfl fun K2 hK => ?_
      rw [if_pos (by rfl)]
      have HK := hide hK
      clear hK
      go_simp
      refine (HLR.out W).mono ?_
      rintro e W2 ⟨rfl, rfl⟩
      exact HK.out _ _ ⟨rfl, HBW.out⟩
    · injection ho with ho
      subst ho
      have d14 : T[65]? = some (.string (bs (t6))) := hdep { on := 14, ground := .data } (by simp) rfl
      have d17 : T[68]? = some (.string (bs ([ltC r]))) := hdep { on := 17, ground := .data } (by simp) rfl
      clear hdep
      refine wpOp_step (o := _) rfl fun K2 hK => ?_
      rw [if_pos (by rfl)]
      have HK := hide hK
      clear hK
      go_simp
      exact HK.out _ _ ⟨rfl, HBW.out⟩
    · injection ho with ho
      subst ho
      have d18 : T[69]? = some (.string (bs (t7))) := hdep { on := 18, ground := .data } (by simp) rfl
      clear hdep
      refine wpOp_step (o := _) rfl fun K2 hK => ?_
      rw [if_pos (by rfl)]
      have HK := hide hK
      clear hK
      go_simp
      exact HK.out _ _ ⟨rfl, HBW.out⟩
    · injection ho with ho
      subst ho
      have d19 : T[70]? = some (.string (bs (t8))) := hdep { on := 19, ground := .data } (by simp) rfl
      clear hdep
      refine wpOp_step (o := _) rfl fun K2 hK => ?_
      rw [if_pos (by rfl)]
      have HK := hide hK
      clear hK
      go_simp
      exact HK.out _ _ ⟨rfl, HBW.out⟩
  · intro T W hsz hval hst hb
    have h4 : T[4]? = some (.string (bs t8)) := hval 20 (by decide +kernel)
    have HBW := hide hb
    clear hval hst hb hsz
    go_wp2
    go_ret
    exact ⟨by simp [h4, HR.out], below_step HB.out HBW.out⟩
end Go.Proofs.YtafbggbdlcfbdaaGreatDoor

/- The reference's PrintOf, whole: contract. -/
namespace Go.Proofs.YtafbggbdlcfbdaaGreatDoor
open Go.RowKit

theorem partsN_zero {op : Int} (h1 : 1 ≤ op ∧ op ≤ 9) (h : partsN op = 0) : op = 1 ∨ op = 2 ∨ op = 3 ∨ op = 4 := by
  unfold partsN at h
  by_cases q : op = 5 ∨ op = 8 ∨ op = 9
  · rw [if_pos q] at h; omega
  · rw [if_neg q] at h
    by_cases q2 : op = 6 ∨ op = 7
    · rw [if_pos q2] at h; omega
    · omega
theorem partsN_one {op : Int} (h : partsN op = 1) : op = 5 ∨ op = 8 ∨ op = 9 := by
  unfold partsN at h
  by_cases q : op = 5 ∨ op = 8 ∨ op = 9
  · exact q
  · rw [if_neg q] at h
    split at h <;> omega
theorem partsN_two {op : Int} (h : partsN op = 2) : op = 6 ∨ op = 7 := by
  unfold partsN at h
  by_cases q : op = 5 ∨ op = 8 ∨ op = 9
  · rw [if_pos q] at h; omega
  · rw [if_neg q] at h
    split at h <;> omega
set_option maxHeartbeats 16000000 in
set_option maxRecDepth 8000 in
theorem print_any (a : Option Addr) (n cap : Nat) (ns : List Nd) (w0 : World) (hs : SlF w0 a n ns) (hn : n ≤ 40) : ∀ (N : Nat) (t : Fm), t.flat.length ≤ N → t.ok → ∀ (pre post : List Nd) (W : World), ns = pre ++ (t.flat ++ post) → Below w0.heap.size w0 W → Calls Tryz.prog 5 #[.slice a n cap, .int .i64 (pre.length : Int)] W fun e W' => e = .returned (.string (bs t.txt)) ∧ Below W.heap.size W W' := by
  intro N
  induction N with
  | zero => intro t htl; have := flat_pos t; omega
  | succ N ih =>
    intro t htl hok pre post W he hb0
    have hL := hs.1
    have hfl := flat_node t
    have hpn : pre.length < n := by rw [← hL, he, hfl]; simp <;> omega
    have hget : ns.getD pre.length zNd = t.node := by rw [he, hfl]; simp [List.getD]
    have hsW := slF_below hs hb0
    have htx := txt_len t hok
    have hfn : t.flat.length ≤ n := by rw [← hL, he]; simp; omega
    cases t with
    | at0 nd =>
      have hnd : ndF nd = 0 := hok.1
      have hop := (ndF_zero hnd).1.1
      show Calls _ _ _ _ fun e W' => e = .returned (.string (bs (atomT nd))) ∧ _
      simp only [Fm.node] at hget
      rcases partsN_zero hop hok.2 with h | h | h | h
      · exact print_line a n cap ns pre.length W nd hsW hpn hget hnd (.inl h)
      · exact print_line a n cap ns pre.length W nd hsW hpn hget hnd (.inr h)
      · exact print_at a n cap ns pre.length W nd hsW hpn hget hnd h
      · exact print_like a n cap ns pre.length W nd hsW hpn hget hnd h
    | un nd f =>
      obtain ⟨hnd, hp1, hfo⟩ := hok
      have h589 := partsN_one hp1
      have hvr := (ndF_zero hnd).1.2.1
      simp only [Fm.node] at hget
      obtain ⟨bb, oo, a', c', rfl, x0, x1, x2, x3, x4, x5, x6, -⟩ := slF_cell hsW pre.length hpn
      rw [hget] at x0 x1 x2 x3 x4 x5 x6
      have hB1 := (Below.refl W.heap.size W).alloc (Nat.le_refl _) (ndO nd a' c')
      have HC := hide (ih f (by simp [Fm.flat] at htl; omega) hfo (pre ++ [nd]) post (W.alloc (ndO nd a' c')) (by rw [he]; simp [Fm.flat]) (below_step hb0 hB1))
      rw [show (((pre ++ [nd]).length : Nat) : Int) = (pre.length : Int) + 1 by simp] at HC
      have HB := hide hB1
      have HX := hide (heap_alloc_last W (ndO nd a' c'))
      have HT : Hid ((Fm.un nd f).txt = unT nd f.txt) := rfl
      have hx1 := txt_len f hfo
      have hx3 : (Fm.un nd f).flat.length = f.flat.length + 1 := by simp [Fm.flat]
      have hfx : f.txt.length ≤ 16000 := by omega
      have hpi : (pre.length : Int) < (n : Int) := by omega
      have e1 : (nd.op == 1) = false := by simp; omega
      have e2 : (nd.op == 2) = false := by simp; omega
      have e3 : (nd.op == 3) = false := by simp; omega
      have e4 : (nd.op == 4) = false := by simp; omega
      clear hs ih htl hfo hfl hget he hL hsW hb0 hB1 hnd hp1 htx hfn hx1 hx3
      generalize (Fm.un nd f).txt = T at HT ⊢
      generalize f.txt = tv at HT HC hfx
      generalize pre.length = p at *
      generalize hW1 : W.alloc (ndO nd a' c') = W1 at HB HX HC
      obtain ⟨z0, z1, z2, z3, z4, z5, z6⟩ := (box7_cells HX.out).1
      go_enter Tryz.func5, Tryz.ntmps5
      go_wp2_with fail
      clear hW1 x0 x1 x2 x3 x4 x5 x6 z0 z1 z2 z3 z4 z5 z6
      refine HC.out.mono ?_
      rintro e w2 ⟨rfl, hb2⟩
      obtain ⟨z0, z1, z2, z3, z4, z5, z6⟩ := (box7_cells ((hb2.block _ (Array.getElem?_eq_some_iff.1 HX.out).1).trans HX.out)).1
      have HB2 := hide (below_step HB.out hb2)
      have hu := HT.out
      unfold unT at hu
      clear hb2 HC HT
      by_cases h5 : nd.op = 5
      · rw [if_pos h5] at hu
        have e5 : (nd.op == 5) = true := by simp [h5]
        have ha : (Op.stringOp .add ⟨#[126]⟩ (bs tv)).run Tryz.prog w2 = .ok (.string (bs ([126] ++ tv))) w2 := bs_add [126] tv (by simp; omega) w2
        have HU := hide hu
        clear hu h5 h589 hvr hfx
        generalize [126] ++ tv = t1 at *
        go_wp2
        go_ret
        exact ⟨by rw [HU.out]; rfl, HB2.out⟩
      · rw [if_neg h5] at hu
        have e5 : (nd.op == 5) = false := by simp [h5]
        have hv := hvr (.inr (.inr (by omega)))
        obtain ⟨q, hq⟩ : ∃ q : Nat, nd.var = (q : Int) := ⟨nd.var.toNat, by omega⟩
        rw [hq, Int.toNat_natCast] at hu
        rw [hq] at z1
        have HLQ := hide (fun W => letter_any q (by omega) W)
        by_cases h8 : nd.op = 8
        · rw [if_pos h8] at hu
          have e8 : (nd.op == 8) = true := by simp [h8]
          have ha1 : (Op.stringOp .add ⟨#[69]⟩ (bs [ltC q])).run Tryz.prog w2 = .ok (.string (bs ([69] ++ [ltC q]))) w2 := bs_add [69] _ (by simp) w2
          have ha2 : (Op.stringOp .add (bs ([69] ++ [ltC q])) ⟨#[58]⟩).run Tryz.prog w2 = .ok (.string (bs ([69] ++ [ltC q] ++ [58]))) w2 := bs_add _ [58] (by simp) w2
          have ha3 : (Op.stringOp .add (bs ([69] ++ [ltC q] ++ [58])) (bs tv)).run Tryz.prog w2 = .ok (.string (bs ([69] ++ [ltC q] ++ [58] ++ tv))) w2 := bs_add _ _ (by simp; omega) w2
          have HU := hide hu
          clear hu h5 h8 h589 hvr hfx hv hq
          generalize [69] ++ [ltC q] ++ [58] ++ tv = t3 at *
          generalize [69] ++ [ltC q] ++ [58] = t2 at *
          generalize [69] ++ [ltC q] = t1 at *
          go_wp2_with (go_at_call 15; refine (HLQ.out _).mono ?_; rintro e w' ⟨rfl, hw'⟩; rw [hw']; clear hw' w')
          go_ret
          exact ⟨by rw [HU.out]; rfl, HB2.out⟩
        · rw [if_neg h8] at hu
          have e8 : (nd.op == 8) = false := by simp [h8]
          have e9 : (nd.op == 9) = true := by simp; omega
          have ha1 : (Op.stringOp .add ⟨#[65]⟩ (bs [ltC q])).run Tryz.prog w2 = .ok (.string (bs ([65] ++ [ltC q]))) w2 := bs_add [65] _ (by simp) w2
          have ha2 : (Op.stringOp .add (bs ([65] ++ [ltC q])) ⟨#[58]⟩).run Tryz.prog w2 = .ok (.string (bs ([65] ++ [ltC q] ++ [58]))) w2 := bs_add _ [58] (by simp) w2
          have ha3 : (Op.stringOp .add (bs ([65] ++ [ltC q] ++ [58])) (bs tv)).run Tryz.prog w2 = .ok (.string (bs ([65] ++ [ltC q] ++ [58] ++ tv))) w2 := bs_add _ _ (by simp; omega) w2
          have HU := hide hu
          clear hu h5 h8 h589 hvr hfx hv hq
          generalize [65] ++ [ltC q] ++ [58] ++ tv = t3 at *
          generalize [65] ++ [ltC q] ++ [58] = t2 at *
          generalize [65] ++ [ltC q] = t1 at *
          go_wp2_with (go_at_call 15; refine (HLQ.out _).mono ?_; rintro e w' ⟨rfl, hw'⟩; rw [hw']; clear hw' w')
          go_ret
          exact ⟨by rw [HU.out]; rfl, HB2.out⟩
    | bin nd f g =>
      obtain ⟨hnd, hp1, hfo, hgo⟩ := hok
      have h67 := partsN_two hp1
      simp only [Fm.node] at hget
      obtain ⟨bb, oo, a', c', rfl, x0, x1, x2, x3, x4, x5, x6, -⟩ := slF_cell hsW pre.length hpn
      rw [hget] at x0 x1 x2 x3 x4 x5 x6
      have hB1 := (Below.refl W.heap.size W).alloc (Nat.le_refl _) (ndO nd a' c')
      have HC := hide (ih f (by simp [Fm.flat] at htl; omega) hfo (pre ++ [nd]) (g.flat ++ post) (W.alloc (ndO nd a' c')) (by rw [he]; simp [Fm.flat]) (below_step hb0 hB1))
      rw [show (((pre ++ [nd]).length : Nat) : Int) = (pre.length : Int) + 1 by simp] at HC
      have HE : Hid (∀ W', Below (W.alloc (ndO nd a' c')).heap.size (W.alloc (ndO nd a' c')) W' → Calls Tryz.prog 16 #[.slice (some ⟨bb, oo, none⟩) n cap, .int .i64 ((pre.length : Int) + 1)] W' fun e w' => e = .returned (.int .i64 ((pre.length + 1 + f.flat.length : Nat) : Int)) ∧ w' = W') := fun W' hb => by
        have h := endOf_any (some ⟨bb, oo, none⟩) n cap ns W' (slF_below hs (below_step hb0 (below_step hB1 hb))) hn (pre ++ [nd]) (g.flat ++ post) f hfo (by rw [he]; simp [Fm.flat])
        rw [show (((pre ++ [nd]).length : Nat) : Int) = (pre.length : Int) + 1 by simp, show (pre ++ [nd]).length + f.flat.length = pre.length + 1 + f.flat.length by simp] at h
        exact h
      have HC2 : Hid (∀ W', Below (W.alloc (ndO nd a' c')).heap.size (W.alloc (ndO nd a' c')) W' → Calls Tryz.prog 5 #[.slice (some ⟨bb, oo, none⟩) n cap, .int .i64 ((pre.length + 1 + f.flat.length : Nat) : Int)] W' fun e w' => e = .returned (.string (bs g.txt)) ∧ Below W'.heap.size W' w') := fun W' hb => by
        have h := ih g (by simp [Fm.flat] at htl; omega) hgo (pre ++ (nd :: f.flat)) post W' (by rw [he]; simp [Fm.flat]) (below_step hb0 (below_step hB1 hb))
        rw [show (pre ++ (nd :: f.flat)).length = pre.length + 1 + f.flat.length by simp; omega] at h
        exact h
      have HB := hide hB1
      have HX := hide (heap_alloc_last W (ndO nd a' c'))
      have HT : Hid ((Fm.bin nd f g).txt = binT nd f.txt g.txt) := rfl
      have hx1 := txt_len f hfo
      have hx2 := txt_len g hgo
      have hx3 : (Fm.bin nd f g).flat.length = f.flat.length + g.flat.length + 1 := by simp [Fm.flat]
      have hfx : f.txt.length ≤ 16000 := by omega
      have hgx : g.txt.length ≤ 16000 := by omega
      have hpi : (pre.length : Int) < (n : Int) := by omega
      have e1 : (nd.op == 1) = false := by simp; omega
      have e2 : (nd.op == 2) = false := by simp; omega
      have e3 : (nd.op == 3) = false := by simp; omega
      have e4 : (nd.op == 4) = false := by simp; omega
      have e5 : (nd.op == 5) = false := by simp; omega
      have e8 : (nd.op == 8) = false := by simp; omega
      have e9 : (nd.op == 9) = false := by simp; omega
      have e67 : ((nd.op == 6) = true ∧ nd.op = 6) ∨ ((nd.op == 6) = false ∧ ¬ nd.op = 6) := by
        rcases h67 with h | h
        · exact .inl ⟨by simp [h], h⟩
        · exact .inr ⟨by simp [h], by omega⟩
      clear hs ih htl hfo hgo hfl hget he hL hsW hb0 hB1 hnd hp1 h67 hx1 hx2 hx3 htx hfn
      generalize (Fm.bin nd f g).txt = T at HT ⊢
      generalize f.txt = tv at HT HC hfx
      generalize g.txt = tw at HT HC2 hgx
      generalize f.flat.length = fl at HE HC2
      generalize pre.length = p at *
      generalize hW1 : W.alloc (ndO nd a' c') = W1 at HB HX HC HE HC2
      obtain ⟨z0, z1, z2, z3, z4, z5, z6⟩ := (box7_cells HX.out).1
      go_enter Tryz.func5, Tryz.ntmps5
      go_wp2_with fail
      clear hW1 x0 x1 x2 x3 x4 x5 x6 z0 z1 z2 z3 z4 z5 z6
      refine HC.out.mono ?_
      rintro e w2 ⟨rfl, hb2⟩
      obtain ⟨z0, z1, z2, z3, z4, z5, z6⟩ := (box7_cells ((hb2.block _ (Array.getElem?_eq_some_iff.1 HX.out).1).trans HX.out)).1
      have HE2 := hide (HE.out w2 hb2)
      have HC3 := hide (HC2.out w2 hb2)
      have HB2 := hide hb2
      clear hb2 HC HE HC2
      go_wp2_with (go_at_call 16; refine HE2.out.mono ?_; rintro e w' ⟨rfl, hw'⟩; rw [hw']; clear hw' w')
      refine HC3.out.mono ?_
      rintro e w3 ⟨rfl, hb3⟩
      clear z0 z1 z2 z3 z4 z5 z6
      have hb13 := below_step HB2.out hb3
      obtain ⟨z0, z1, z2, z3, z4, z5, z6⟩ := (box7_cells ((hb13.block _ (Array.getElem?_eq_some_iff.1 HX.out).1).trans HX.out)).1
      have HB3 := hide (below_step HB.out hb13)
      have hu := HT.out
      unfold binT at hu
      clear hb3 hb13 HC3 HE2 HT
      have ha1 : (Op.stringOp .add ⟨#[40]⟩ (bs tv)).run Tryz.prog w3 = .ok (.string (bs ([40] ++ tv))) w3 := bs_add [40] _ (by simp; omega) w3
      rcases e67 with ⟨e6, h6⟩ | ⟨e6, h6⟩
      · rw [if_pos h6] at hu
        have ha2 : (Op.stringOp .add (bs ([40] ++ tv)) ⟨#[38]⟩).run Tryz.prog w3 = .ok (.string (bs ([40] ++ tv ++ [38]))) w3 := bs_add _ [38] (by simp; omega) w3
        have ha3 : (Op.stringOp .add (bs ([40] ++ tv ++ [38])) (bs tw)).run Tryz.prog w3 = .ok (.string (bs ([40] ++ tv ++ [38] ++ tw))) w3 := bs_add _ _ (by simp; omega) w3
        have ha4 : (Op.stringOp .add (bs ([40] ++ tv ++ [38] ++ tw)) ⟨#[41]⟩).run Tryz.prog w3 = .ok (.string (bs ([40] ++ tv ++ [38] ++ tw ++ [41]))) w3 := bs_add _ [41] (by simp; omega) w3
        have HU := hide hu
        clear hu h6 hfx hgx
        generalize [40] ++ tv ++ [38] ++ tw ++ [41] = t4 at *
        generalize [40] ++ tv ++ [38] ++ tw = t3 at *
        generalize [40] ++ tv ++ [38] = t2 at *
        generalize [40] ++ tv = t1 at *
        go_wp2
        go_ret
        exact ⟨by rw [HU.out]; rfl, HB3.out⟩
      · rw [if_neg h6] at hu
        have ha2 : (Op.stringOp .add (bs ([40] ++ tv)) ⟨#[124]⟩).run Tryz.prog w3 = .ok (.string (bs ([40] ++ tv ++ [124]))) w3 := bs_add _ [124] (by simp; omega) w3
        have ha3 : (Op.stringOp .add (bs ([40] ++ tv ++ [124])) (bs tw)).run Tryz.prog w3 = .ok (.string (bs ([40] ++ tv ++ [124] ++ tw))) w3 := bs_add _ _ (by simp; omega) w3
        have ha4 : (Op.stringOp .add (bs ([40] ++ tv ++ [124] ++ tw)) ⟨#[41]⟩).run Tryz.prog w3 = .ok (.string (bs ([40] ++ tv ++ [124] ++ tw ++ [41]))) w3 := bs_add _ [41] (by simp; omega) w3
        have HU := hide hu
        clear hu h6 hfx hgx
        generalize [40] ++ tv ++ [124] ++ tw ++ [41] = t4 at *
        generalize [40] ++ tv ++ [124] ++ tw = t3 at *
        generalize [40] ++ tv ++ [124] = t2 at *
        generalize [40] ++ tv = t1 at *
        go_wp2
        go_ret
        exact ⟨by rw [HU.out]; rfl, HB3.out⟩
end Go.Proofs.YtafbggbdlcfbdaaGreatDoor

/- The reference's Bare; two formulas that are the same (filbertsame.Nodes): contracts. -/
namespace Go.Proofs.YtafbggbdlcfbdaaGreatDoor
open Go.RowKit

set_option maxHeartbeats 4000000 in
set_option maxRecDepth 4000 in
theorem nodes_eq (a a2 : Option Addr) (n cap cap2 : Nat) (ns : List Nd) (w : World) (hs : SlF w a n ns) (hs2 : SlF w a2 n ns) : Calls Tryz.prog 10 #[.slice a n cap, .slice a2 n cap2] w fun e w' => e = .returned (.bool true) ∧ Below w.heap.size w w' := by
  have hmx := hs.2.1
  unfold maxLen at hmx
  have HS := hide hs
  have HS2 := hide hs2
  clear hs hs2
  go_enter Tryz.func10, Tryz.ntmps10
  go_wp2
  go_loopw [5] (fun iv wx => ∃ k : Nat, k ≤ n ∧ iv = .int .i64 k ∧ Below w.heap.size w wx) (fun iv _ => n - (intOf iv).toNat)
  case atStart => exact ⟨0, by omega, rfl, Below.refl _ _⟩
  case round =>
    obtain ⟨k, hk, rfl, hb⟩ := hrel
    have HB := hide hb
    clear hb
    by_cases hlt : k < n
    · have hlti : (k : Int) < (n : Int) := by omega
      obtain ⟨bb, oo, a', c', rfl, x0, x1, x2, x3, x4, x5, x6, hsl⟩ := slF_cell (slF_below HS.out HB.out) k hlt
      have hB1 := (Below.refl wr.heap.size wr).alloc (Nat.le_refl _) (ndO (ns.getD k zNd) a' c')
      obtain ⟨b2, o2, a2', c2', rfl, y0, y1, y2, y3, y4, y5, y6, hsl2⟩ := slF_cell (slF_below HS2.out (below_step HB.out hB1)) k hlt
      generalize ns.getD k zNd = nd at *
      have hB2 := (Below.refl (wr.alloc (ndO nd a' c')).heap.size (wr.alloc (ndO nd a' c'))).alloc (Nat.le_refl _) (ndO nd a2' c2')
      have HX1 := hide (heap_alloc2_fst wr (ndO nd a' c') (ndO nd a2' c2'))
      have HX2 := hide (heap_alloc2_snd wr (ndO nd a' c') (ndO nd a2' c2'))
      have HBB := hide (below_step hB1 hB2)
      have HI := hide (ints_eq a' a2' nd.cf.length c' c2' nd.cf ((wr.alloc (ndO nd a' c')).alloc (ndO nd a2' c2')) (sl_below (sl_below hsl hB1) hB2) (sl_below hsl2 hB2))
      generalize hW2 : (wr.alloc (ndO nd a' c')).alloc (ndO nd a2' c2') = W2 at HX1 HX2 HBB HI
      obtain ⟨⟨z0, z1, z2, z3, z4, z5, z6⟩, -⟩ := box7_cells HX1.out
      obtain ⟨⟨u0, u1, u2, u3, u4, u5, u6⟩, -⟩ := box7_cells HX2.out
      clear hB1 hB2 hsl hsl2
      go_wp2_with fail
      clear hW2 x0 x1 x2 x3 x4 x5 x6 y0 y1 y2 y3 y4 y5 y6 z0 z1 z2 z3 z4 z5 z6 u0 u1 u2 u3 u4 u5 u6
      refine HI.out.mono ?_
      rintro e w3 ⟨rfl, hb3⟩
      obtain ⟨⟨z0, z1, z2, z3, z4, z5, z6⟩, -⟩ := box7_cells ((hb3.block _ (Array.getElem?_eq_some_iff.1 HX1.out).1).trans HX1.out)
      obtain ⟨⟨u0, u1, u2, u3, u4, u5, u6⟩, -⟩ := box7_cells ((hb3.block _ (Array.getElem?_eq_some_iff.1 HX2.out).1).trans HX2.out)
      have HB3 := hide (below_step HB.out (below_step HBB.out hb3))
      clear hb3
      go_wp2
      go_roundw
      case rel => exact ⟨k + 1, by omega, by go_num, HB3.out⟩
      case measure => simp [intOf]; omega
    · have hlti : ¬ (k : Int) < (n : Int) := by omega
      go_wp2
      go_ret
      exact ⟨rfl, HB.out⟩
end Go.Proofs.YtafbggbdlcfbdaaGreatDoor

/- The reference's NodeFault: contract. -/
namespace Go.Proofs.YtafbggbdlcfbdaaGreatDoor
open Go.RowKit

def ndRp (op var oth wd wd2 num : Int) (len : Nat) (sz : Int) : Prop := (1 ≤ op ∧ op ≤ 9) ∧ ((op = 3 ∨ op = 4 ∨ op = 8 ∨ op = 9) → 0 ≤ var ∧ var < 5) ∧ (op = 4 → 0 ≤ oth ∧ oth < 5) ∧ ((op = 3 ∨ op = 4) → 0 ≤ wd ∧ wd < 3) ∧ (op = 4 → 0 ≤ wd2 ∧ wd2 < 3) ∧ (op = 3 → 0 ≤ num ∧ num ≤ 9) ∧ ((op = 1 ∨ op = 2) → len ≤ 5 ∧ sz ≤ 12 ∧ -60 ≤ num ∧ num ≤ 60)
def ndSp (op var oth wd wd2 num : Int) (len : Nat) (last : Int) : Prop := (¬ (op = 3 ∨ op = 4 ∨ op = 8 ∨ op = 9) → var = 0) ∧ (op ≠ 4 → oth = 0 ∧ wd2 = 0) ∧ (¬ (op = 3 ∨ op = 4) → wd = 0) ∧ (¬ (op = 1 ∨ op = 2) → op ≠ 3 → num = 0) ∧ (¬ (op = 1 ∨ op = 2) → len = 0) ∧ (0 < len → last ≠ 0)
theorem ndF_1 {n : Nd} (h : ¬ ndRp n.op n.var n.oth n.wd n.wd2 n.num n.cf.length (absT n.cf n.cf.length)) : ndF n = 1 := by
  unfold ndF; exact if_neg h
theorem ndF_2 {n : Nd} (h : ndRp n.op n.var n.oth n.wd n.wd2 n.num n.cf.length (absT n.cf n.cf.length)) (h2 : ¬ ndSp n.op n.var n.oth n.wd n.wd2 n.num n.cf.length (n.cf.getD (n.cf.length - 1) 0)) : ndF n = 2 := by
  unfold ndF; rw [if_pos (show ndR n from h)]; exact if_neg h2
theorem ndF_0 {n : Nd} (h : ndRp n.op n.var n.oth n.wd n.wd2 n.num n.cf.length (absT n.cf n.cf.length)) (h2 : ndSp n.op n.var n.oth n.wd n.wd2 n.num n.cf.length (n.cf.getD (n.cf.length - 1) 0)) : ndF n = 0 := by
  unfold ndF; rw [if_pos (show ndR n from h)]; exact if_pos h2
set_option maxHeartbeats 40000000 in
set_option maxRecDepth 8000 in
theorem nodeFault_any : NodeSays := by
  intro n a c w hs
  have HB := hide ((Below.refl w.heap.size w).alloc (Nat.le_refl _) (ndO n a c))
  obtain ⟨⟨p0, p1, p2, p3, p4, p5, p6⟩, -⟩ := box7_cells (heap_alloc_last w (ndO n a c))
  have hsl := sl_below hs HB.out
  have hmx := hs.2.1
  unfold maxLen at hmx
  have H1 := hide (@ndF_1 n)
  have H2 := hide (@ndF_2 n)
  have H0 := hide (@ndF_0 n)
  have HSO := hide (sizeOf_any a n.cf.length c n.cf _ hsl)
  have HSZ := hide (sizeI_12 n.cf)
  have HLC := hide (fun i (h : i < n.cf.length) => sl_cell hsl i h)
  unfold ndV
  generalize hW1 : w.alloc (ndO n a c) = W1 at HB p0 p1 p2 p3 p4 p5 p6 hsl HSO HLC
  obtain ⟨op, var, oth, wd, wd2, num, cf⟩ := n
  simp only at p0 p1 p2 p3 p4 p5 p6 H1 H2 H0 HSO HSZ HLC hmx hW1 ⊢
  clear hs hsl
  generalize ndF ⟨op, var, oth, wd, wd2, num, cf⟩ = F at H1 H2 H0 ⊢
  generalize absT cf cf.length = sz at H1 H2 H0 HSZ
  generalize sizeI cf = si at HSO HSZ
  obtain ⟨bL, hbL⟩ : ∃ x, decide (op = 1 ∨ op = 2) = x := ⟨_, rfl⟩
  have HbL := hide hbL
  clear hbL
  obtain ⟨bV, hbV⟩ : ∃ x, decide (op = 3 ∨ op = 4 ∨ op = 8 ∨ op = 9) = x := ⟨_, rfl⟩
  have HbV := hide hbV
  clear hbV
  obtain ⟨bW, hbW⟩ : ∃ x, decide (op = 3 ∨ op = 4) = x := ⟨_, rfl⟩
  have HbW := hide hbW
  clear hbW
  go_enter Tryz.func11, Tryz.ntmps11
  go_upto_region 1 with fail
  clear hW1
  go_cut [3] (fun s wx => s = .bool bL ∧ W1 = wx)
  case first =>
    clear H1 H2 H0
    as_aux_lemma =>
      by_cases h1 : op = 1
      · have eh1 : (op == 1) = true := by simp [h1]
        have nh1 : (op != 1) = false := by simp [h1]
        have HEQ : Hid (bL = true) := by show _ = _; rw [← HbL.out]; exact decide_eq_true (show op = 1 ∨ op = 2 by omega)
        clear h1
        go_wp2_with (go_at_call 23; refine HSO.out.mono ?_; rintro e w' ⟨rfl, hw'⟩; rw [hw']; clear hw' w')
        go_meet
        case rel => exact ⟨by rw [HEQ.out] <;> first | (congr 1; exact decide_eq_true (by omega)) | (congr 1; exact decide_eq_false (by omega)) | (congr 1; simp; omega), rfl⟩
      · have eh1 : (op == 1) = false := by simp [h1]
        have nh1 : (op != 1) = true := by simp [h1]
        by_cases h2 : op = 2
        · have eh2 : (op == 2) = true := by simp [h2]
          have nh2 : (op != 2) = false := by simp [h2]
          have HEQ : Hid (bL = true) := by show _ = _; rw [← HbL.out]; exact decide_eq_true (show op = 1 ∨ op = 2 by omega)
          clear h1 h2
          go_wp2_with (go_at_call 23; refine HSO.out.mono ?_; rintro e w' ⟨rfl, hw'⟩; rw [hw']; clear hw' w')
          go_meet
          case rel => exact ⟨by rw [HEQ.out] <;> first | (congr 1; exact decide_eq_true (by omega)) | (congr 1; exact decide_eq_false (by omega)) | (congr 1; simp; omega), rfl⟩
        · have eh2 : (op == 2) = false := by simp [h2]
          have nh2 : (op != 2) = true := by simp [h2]
          have HEQ : Hid (bL = false) := by show _ = _; rw [← HbL.out]; exact decide_eq_false (show ¬ (op = 1 ∨ op = 2) by omega)
          clear h1 h2
          go_wp2_with (go_at_call 23; refine HSO.out.mono ?_; rintro e w' ⟨rfl, hw'⟩; rw [hw']; clear hw' w')
          go_meet
          case rel => exact ⟨by rw [HEQ.out] <;> first | (congr 1; exact decide_eq_true (by omega)) | (congr 1; exact decide_eq_false (by omega)) | (congr 1; simp; omega), rfl⟩
  case rest =>
    obtain ⟨rfl, rfl⟩ := hcut
    as_aux_lemma =>
      go_upto_region 2 with fail
      go_cut [4] (fun s wx => s = .bool bV ∧ W1 = wx)
      case first =>
        clear H1 H2 H0
        as_aux_lemma =>
          by_cases h3 : op = 3
          · have eh3 : (op == 3) = true := by simp [h3]
            have nh3 : (op != 3) = false := by simp [h3]
            have HEQ : Hid (bV = true) := by show _ = _; rw [← HbV.out]; exact decide_eq_true (show op = 3 ∨ op = 4 ∨ op = 8 ∨ op = 9 by omega)
            clear h3
            go_wp2_with (go_at_call 23; refine HSO.out.mono ?_; rintro e w' ⟨rfl, hw'⟩; rw [hw']; clear hw' w')
            go_meet
            case rel => exact ⟨by rw [HEQ.out] <;> first | (congr 1; exact decide_eq_true (by omega)) | (congr 1; exact decide_eq_false (by omega)) | (congr 1; simp; omega), rfl⟩
          · have eh3 : (op == 3) = false := by simp [h3]
            have nh3 : (op != 3) = true := by simp [h3]
            by_cases h4 : op = 4
            · have eh4 : (op == 4) = true := by simp [h4]
              have nh4 : (op != 4) = false := by simp [h4]
              have HEQ : Hid (bV = true) := by show _ = _; rw [← HbV.out]; exact decide_eq_true (show op = 3 ∨ op = 4 ∨ op = 8 ∨ op = 9 by omega)
              clear h3 h4
              go_wp2_with (go_at_call 23; refine HSO.out.mono ?_; rintro e w' ⟨rfl, hw'⟩; rw [hw']; clear hw' w')
              go_meet
              case rel => exact ⟨by rw [HEQ.out] <;> first | (congr 1; exact decide_eq_true (by omega)) | (congr 1; exact decide_eq_false (by omega)) | (congr 1; simp; omega), rfl⟩
            · have eh4 : (op == 4) = false := by simp [h4]
              have nh4 : (op != 4) = true := by simp [h4]
              by_cases h8 : op = 8
              · have eh8 : (op == 8) = true := by simp [h8]
                have nh8 : (op != 8) = false := by simp [h8]
                have HEQ : Hid (bV = true) := by show _ = _; rw [← HbV.out]; exact decide_eq_true (show op = 3 ∨ op = 4 ∨ op = 8 ∨ op = 9 by omega)
                clear h3 h4 h8
                go_wp2_with (go_at_call 23; refine HSO.out.mono ?_; rintro e w' ⟨rfl, hw'⟩; rw [hw']; clear hw' w')
                go_meet
                case rel => exact ⟨by rw [HEQ.out] <;> first | (congr 1; exact decide_eq_true (by omega)) | (congr 1; exact decide_eq_false (by omega)) | (congr 1; simp; omega), rfl⟩
              · have eh8 : (op == 8) = false := by simp [h8]
                have nh8 : (op != 8) = true := by simp [h8]
                by_cases h9 : op = 9
                · have eh9 : (op == 9) = true := by simp [h9]
                  have nh9 : (op != 9) = false := by simp [h9]
                  have HEQ : Hid (bV = true) := by show _ = _; rw [← HbV.out]; exact decide_eq_true (show op = 3 ∨ op = 4 ∨ op = 8 ∨ op = 9 by omega)
                  clear h3 h4 h8 h9
                  go_wp2_with (go_at_call 23; refine HSO.out.mono ?_; rintro e w' ⟨rfl, hw'⟩; rw [hw']; clear hw' w')
                  go_meet
                  case rel => exact ⟨by rw [HEQ.out] <;> first | (congr 1; exact decide_eq_true (by omega)) | (congr 1; exact decide_eq_false (by omega)) | (congr 1; simp; omega), rfl⟩
                · have eh9 : (op == 9) = false := by simp [h9]
                  have nh9 : (op != 9) = true := by simp [h9]
                  have HEQ : Hid (bV = false) := by show _ = _; rw [← HbV.out]; exact decide_eq_false (show ¬ (op = 3 ∨ op = 4 ∨ op = 8 ∨ op = 9) by omega)
                  clear h3 h4 h8 h9
                  go_wp2_with (go_at_call 23; refine HSO.out.mono ?_; rintro e w' ⟨rfl, hw'⟩; rw [hw']; clear hw' w')
                  go_meet
                  case rel => exact ⟨by rw [HEQ.out] <;> first | (congr 1; exact decide_eq_true (by omega)) | (congr 1; exact decide_eq_false (by omega)) | (congr 1; simp; omega), rfl⟩
      case rest =>
        obtain ⟨rfl, rfl⟩ := hcut
        as_aux_lemma =>
          go_upto_region 3 with fail
          go_cut [5] (fun s wx => s = .bool bW ∧ W1 = wx)
          case first =>
            clear H1 H2 H0
            as_aux_lemma =>
              by_cases h3 : op = 3
              · have eh3 : (op == 3) = true := by simp [h3]
                have nh3 : (op != 3) = false := by simp [h3]
                have HEQ : Hid (bW = true) := by show _ = _; rw [← HbW.out]; exact decide_eq_true (show op = 3 ∨ op = 4 by omega)
                clear h3
                go_wp2_with (go_at_call 23; refine HSO.out.mono ?_; rintro e w' ⟨rfl, hw'⟩; rw [hw']; clear hw' w')
                go_meet
                case rel => exact ⟨by rw [HEQ.out] <;> first | (congr 1; exact decide_eq_true (by omega)) | (congr 1; exact decide_eq_false (by omega)) | (congr 1; simp; omega), rfl⟩
              · have eh3 : (op == 3) = false := by simp [h3]
                have nh3 : (op != 3) = true := by simp [h3]
                by_cases h4 : op = 4
                · have eh4 : (op == 4) = true := by simp [h4]
                  have nh4 : (op != 4) = false := by simp [h4]
                  have HEQ : Hid (bW = true) := by show _ = _; rw [← HbW.out]; exact decide_eq_true (show op = 3 ∨ op = 4 by omega)
                  clear h3 h4
                  go_wp2_with (go_at_call 23; refine HSO.out.mono ?_; rintro e w' ⟨rfl, hw'⟩; rw [hw']; clear hw' w')
                  go_meet
                  case rel => exact ⟨by rw [HEQ.out] <;> first | (congr 1; exact decide_eq_true (by omega)) | (congr 1; exact decide_eq_false (by omega)) | (congr 1; simp; omega), rfl⟩
                · have eh4 : (op == 4) = false := by simp [h4]
                  have nh4 : (op != 4) = true := by simp [h4]
                  have HEQ : Hid (bW = false) := by show _ = _; rw [← HbW.out]; exact decide_eq_false (show ¬ (op = 3 ∨ op = 4) by omega)
                  clear h3 h4
                  go_wp2_with (go_at_call 23; refine HSO.out.mono ?_; rintro e w' ⟨rfl, hw'⟩; rw [hw']; clear hw' w')
                  go_meet
                  case rel => exact ⟨by rw [HEQ.out] <;> first | (congr 1; exact decide_eq_true (by omega)) | (congr 1; exact decide_eq_false (by omega)) | (congr 1; simp; omega), rfl⟩
          case rest =>
            obtain ⟨rfl, rfl⟩ := hcut
            as_aux_lemma =>
              go_upto_region 4 with fail
              go_cut [47] (fun s wx => s = .bool (decide (op < 1 ∨ op > 9)) ∧ W1 = wx)
              case first =>
                clear H1 H2 H0
                as_aux_lemma =>
                  by_cases q1 : op < 1
                  · skip
                    have HEQ := hide (decide_eq_true (show op < 1 ∨ op > 9 by omega) : decide (op < 1 ∨ op > 9) = true)
                    go_wp2_with (go_at_call 23; refine HSO.out.mono ?_; rintro e w' ⟨rfl, hw'⟩; rw [hw']; clear hw' w')
                    go_meet
                    case rel => exact ⟨by rw [HEQ.out] <;> first | (congr 1; exact decide_eq_true (by omega)) | (congr 1; exact decide_eq_false (by omega)) | (congr 1; simp; omega), rfl⟩
                  · skip
                    by_cases q2 : op > 9
                    · skip
                      have HEQ := hide (decide_eq_true (show op < 1 ∨ op > 9 by omega) : decide (op < 1 ∨ op > 9) = true)
                      go_wp2_with (go_at_call 23; refine HSO.out.mono ?_; rintro e w' ⟨rfl, hw'⟩; rw [hw']; clear hw' w')
                      go_meet
                      case rel => exact ⟨by rw [HEQ.out] <;> first | (congr 1; exact decide_eq_true (by omega)) | (congr 1; exact decide_eq_false (by omega)) | (congr 1; simp; omega), rfl⟩
                    · skip
                      have HEQ := hide (decide_eq_false (show ¬ (op < 1 ∨ op > 9) by omega) : decide (op < 1 ∨ op > 9) = false)
                      go_wp2_with (go_at_call 23; refine HSO.out.mono ?_; rintro e w' ⟨rfl, hw'⟩; rw [hw']; clear hw' w')
                      go_meet
                      case rel => exact ⟨by rw [HEQ.out] <;> first | (congr 1; exact decide_eq_true (by omega)) | (congr 1; exact decide_eq_false (by omega)) | (congr 1; simp; omega), rfl⟩
              case rest =>
                obtain ⟨rfl, rfl⟩ := hcut
                by_cases g : op < 1 ∨ op > 9
                · rw [decide_eq_true g]
                  as_aux_lemma =>
                    have hsz := HSZ.out.1
                    have HFF := hide (H1.out (by unfold ndRp; omega))
                    clear g hsz H1 H2 H0
                    go_wp2
                    go_ret
                    exact ⟨by rw [HFF.out]; rfl, HB.out⟩
                rw [decide_eq_false g]
                have G4 := hide g
                clear g
                as_aux_lemma =>
                  go_upto_region 6 with fail
                  go_cut [4, 73] (fun v4 s wx => v4 = .bool bV ∧ s = .bool (decide (((op = 3 ∨ op = 4 ∨ op = 8 ∨ op = 9) ∧ (var < 0 ∨ var ≥ 5)) ∨ (op = 4 ∧ (oth < 0 ∨ oth ≥ 5)))) ∧ W1 = wx)
                  case first =>
                    clear H1 H2 H0
                    as_aux_lemma =>
                      by_cases dv : op = 3 ∨ op = 4 ∨ op = 8 ∨ op = 9
                      · have EbV : bV = true := by rw [← HbV.out]; exact decide_eq_true (show op = 3 ∨ op = 4 ∨ op = 8 ∨ op = 9 by omega)
                        rw [EbV]
                        have HEbV := hide EbV
                        clear EbV
                        by_cases q1 : var < 0
                        · skip
                          have HEQ := hide (decide_eq_true (show ((op = 3 ∨ op = 4 ∨ op = 8 ∨ op = 9) ∧ (var < 0 ∨ var ≥ 5)) ∨ (op = 4 ∧ (oth < 0 ∨ oth ≥ 5)) by omega) : decide (((op = 3 ∨ op = 4 ∨ op = 8 ∨ op = 9) ∧ (var < 0 ∨ var ≥ 5)) ∨ (op = 4 ∧ (oth < 0 ∨ oth ≥ 5))) = true)
                          clear dv
                          go_wp2_with (go_at_call 23; refine HSO.out.mono ?_; rintro e w' ⟨rfl, hw'⟩; rw [hw']; clear hw' w')
                          go_meet
                          case rel => exact ⟨by rw [HEbV.out], by rw [HEQ.out] <;> first | (congr 1; exact decide_eq_true (by omega)) | (congr 1; exact decide_eq_false (by omega)) | (congr 1; simp; omega), rfl⟩
                        · skip
                          by_cases q2 : var ≥ 5
                          · skip
                            have HEQ := hide (decide_eq_true (show ((op = 3 ∨ op = 4 ∨ op = 8 ∨ op = 9) ∧ (var < 0 ∨ var ≥ 5)) ∨ (op = 4 ∧ (oth < 0 ∨ oth ≥ 5)) by omega) : decide (((op = 3 ∨ op = 4 ∨ op = 8 ∨ op = 9) ∧ (var < 0 ∨ var ≥ 5)) ∨ (op = 4 ∧ (oth < 0 ∨ oth ≥ 5))) = true)
                            clear dv
                            go_wp2_with (go_at_call 23; refine HSO.out.mono ?_; rintro e w' ⟨rfl, hw'⟩; rw [hw']; clear hw' w')
                            go_meet
                            case rel => exact ⟨by rw [HEbV.out], by rw [HEQ.out] <;> first | (congr 1; exact decide_eq_true (by omega)) | (congr 1; exact decide_eq_false (by omega)) | (congr 1; simp; omega), rfl⟩
                          · skip
                            by_cases h4 : op = 4
                            · have eh4 : (op == 4) = true := by simp [h4]
                              have nh4 : (op != 4) = false := by simp [h4]
                              by_cases q3 : oth < 0
                              · skip
                                have HEQ := hide (decide_eq_true (show ((op = 3 ∨ op = 4 ∨ op = 8 ∨ op = 9) ∧ (var < 0 ∨ var ≥ 5)) ∨ (op = 4 ∧ (oth < 0 ∨ oth ≥ 5)) by omega) : decide (((op = 3 ∨ op = 4 ∨ op = 8 ∨ op = 9) ∧ (var < 0 ∨ var ≥ 5)) ∨ (op = 4 ∧ (oth < 0 ∨ oth ≥ 5))) = true)
                                clear dv h4
                                go_wp2_with (go_at_call 23; refine HSO.out.mono ?_; rintro e w' ⟨rfl, hw'⟩; rw [hw']; clear hw' w')
                                go_meet
                                case rel => exact ⟨by rw [HEbV.out], by rw [HEQ.out] <;> first | (congr 1; exact decide_eq_true (by omega)) | (congr 1; exact decide_eq_false (by omega)) | (congr 1; simp; omega), rfl⟩
                              · skip
                                by_cases q4 : oth ≥ 5
                                · skip
                                  have HEQ := hide (decide_eq_true (show ((op = 3 ∨ op = 4 ∨ op = 8 ∨ op = 9) ∧ (var < 0 ∨ var ≥ 5)) ∨ (op = 4 ∧ (oth < 0 ∨ oth ≥ 5)) by omega) : decide (((op = 3 ∨ op = 4 ∨ op = 8 ∨ op = 9) ∧ (var < 0 ∨ var ≥ 5)) ∨ (op = 4 ∧ (oth < 0 ∨ oth ≥ 5))) = true)
                                  clear dv h4
                                  go_wp2_with (go_at_call 23; refine HSO.out.mono ?_; rintro e w' ⟨rfl, hw'⟩; rw [hw']; clear hw' w')
                                  go_meet
                                  case rel => exact ⟨by rw [HEbV.out], by rw [HEQ.out] <;> first | (congr 1; exact decide_eq_true (by omega)) | (congr 1; exact decide_eq_false (by omega)) | (congr 1; simp; omega), rfl⟩
                                · skip
                                  have HEQ := hide (decide_eq_false (show ¬ (((op = 3 ∨ op = 4 ∨ op = 8 ∨ op = 9) ∧ (var < 0 ∨ var ≥ 5)) ∨ (op = 4 ∧ (oth < 0 ∨ oth ≥ 5))) by omega) : decide (((op = 3 ∨ op = 4 ∨ op = 8 ∨ op = 9) ∧ (var < 0 ∨ var ≥ 5)) ∨ (op = 4 ∧ (oth < 0 ∨ oth ≥ 5))) = false)
                                  clear dv h4
                                  go_wp2_with (go_at_call 23; refine HSO.out.mono ?_; rintro e w' ⟨rfl, hw'⟩; rw [hw']; clear hw' w')
                                  go_meet
                                  case rel => exact ⟨by rw [HEbV.out], by rw [HEQ.out] <;> first | (congr 1; exact decide_eq_true (by omega)) | (congr 1; exact decide_eq_false (by omega)) | (congr 1; simp; omega), rfl⟩
                            · have eh4 : (op == 4) = false := by simp [h4]
                              have nh4 : (op != 4) = true := by simp [h4]
                              have HEQ := hide (decide_eq_false (show ¬ (((op = 3 ∨ op = 4 ∨ op = 8 ∨ op = 9) ∧ (var < 0 ∨ var ≥ 5)) ∨ (op = 4 ∧ (oth < 0 ∨ oth ≥ 5))) by omega) : decide (((op = 3 ∨ op = 4 ∨ op = 8 ∨ op = 9) ∧ (var < 0 ∨ var ≥ 5)) ∨ (op = 4 ∧ (oth < 0 ∨ oth ≥ 5))) = false)
                              clear dv h4
                              go_wp2_with (go_at_call 23; refine HSO.out.mono ?_; rintro e w' ⟨rfl, hw'⟩; rw [hw']; clear hw' w')
                              go_meet
                              case rel => exact ⟨by rw [HEbV.out], by rw [HEQ.out] <;> first | (congr 1; exact decide_eq_true (by omega)) | (congr 1; exact decide_eq_false (by omega)) | (congr 1; simp; omega), rfl⟩
                      · have EbV : bV = false := by rw [← HbV.out]; exact decide_eq_false (show ¬ (op = 3 ∨ op = 4 ∨ op = 8 ∨ op = 9) by omega)
                        rw [EbV]
                        have HEbV := hide EbV
                        clear EbV
                        have h4 : ¬ op = 4 := by omega
                        have eh4 : (op == 4) = false := by simp [h4]
                        have HEQ := hide (decide_eq_false (show ¬ (((op = 3 ∨ op = 4 ∨ op = 8 ∨ op = 9) ∧ (var < 0 ∨ var ≥ 5)) ∨ (op = 4 ∧ (oth < 0 ∨ oth ≥ 5))) by omega) : decide (((op = 3 ∨ op = 4 ∨ op = 8 ∨ op = 9) ∧ (var < 0 ∨ var ≥ 5)) ∨ (op = 4 ∧ (oth < 0 ∨ oth ≥ 5))) = false)
                        clear dv
                        go_wp2_with (go_at_call 23; refine HSO.out.mono ?_; rintro e w' ⟨rfl, hw'⟩; rw [hw']; clear hw' w')
                        go_meet
                        case rel => exact ⟨by rw [HEbV.out], by rw [HEQ.out] <;> first | (congr 1; exact decide_eq_true (by omega)) | (congr 1; exact decide_eq_false (by omega)) | (congr 1; simp; omega), rfl⟩
                  case rest =>
                    obtain ⟨rfl, rfl, rfl⟩ := hcut
                    by_cases g : ((op = 3 ∨ op = 4 ∨ op = 8 ∨ op = 9) ∧ (var < 0 ∨ var ≥ 5)) ∨ (op = 4 ∧ (oth < 0 ∨ oth ≥ 5))
                    · rw [decide_eq_true g]
                      as_aux_lemma =>
                        have kG4 := G4.out
                        have hsz := HSZ.out.1
                        have HFF := hide (H1.out (by unfold ndRp; omega))
                        clear g hsz H1 H2 H0 kG4
                        go_wp2
                        go_ret
                        exact ⟨by rw [HFF.out]; rfl, HB.out⟩
                    rw [decide_eq_false g]
                    have G6 := hide g
                    clear g
                    as_aux_lemma =>
                      go_upto_region 8 with fail
                      go_cut [5, 99] (fun v5 s wx => v5 = .bool bW ∧ s = .bool (decide (((op = 3 ∨ op = 4) ∧ (wd < 0 ∨ wd ≥ 3)) ∨ (op = 4 ∧ (wd2 < 0 ∨ wd2 ≥ 3)))) ∧ W1 = wx)
                      case first =>
                        clear H1 H2 H0
                        as_aux_lemma =>
                          by_cases dv : op = 3 ∨ op = 4
                          · have EbW : bW = true := by rw [← HbW.out]; exact decide_eq_true (show op = 3 ∨ op = 4 by omega)
                            rw [EbW]
                            have HEbW := hide EbW
                            clear EbW
                            by_cases q1 : wd < 0
                            · skip
                              have HEQ := hide (decide_eq_true (show ((op = 3 ∨ op = 4) ∧ (wd < 0 ∨ wd ≥ 3)) ∨ (op = 4 ∧ (wd2 < 0 ∨ wd2 ≥ 3)) by omega) : decide (((op = 3 ∨ op = 4) ∧ (wd < 0 ∨ wd ≥ 3)) ∨ (op = 4 ∧ (wd2 < 0 ∨ wd2 ≥ 3))) = true)
                              clear dv
                              go_wp2_with (go_at_call 23; refine HSO.out.mono ?_; rintro e w' ⟨rfl, hw'⟩; rw [hw']; clear hw' w')
                              go_meet
                              case rel => exact ⟨by rw [HEbW.out], by rw [HEQ.out] <;> first | (congr 1; exact decide_eq_true (by omega)) | (congr 1; exact decide_eq_false (by omega)) | (congr 1; simp; omega), rfl⟩
                            · skip
                              by_cases q2 : wd ≥ 3
                              · skip
                                have HEQ := hide (decide_eq_true (show ((op = 3 ∨ op = 4) ∧ (wd < 0 ∨ wd ≥ 3)) ∨ (op = 4 ∧ (wd2 < 0 ∨ wd2 ≥ 3)) by omega) : decide (((op = 3 ∨ op = 4) ∧ (wd < 0 ∨ wd ≥ 3)) ∨ (op = 4 ∧ (wd2 < 0 ∨ wd2 ≥ 3))) = true)
                                clear dv
                                go_wp2_with (go_at_call 23; refine HSO.out.mono ?_; rintro e w' ⟨rfl, hw'⟩; rw [hw']; clear hw' w')
                                go_meet
                                case rel => exact ⟨by rw [HEbW.out], by rw [HEQ.out] <;> first | (congr 1; exact decide_eq_true (by omega)) | (congr 1; exact decide_eq_false (by omega)) | (congr 1; simp; omega), rfl⟩
                              · skip
                                by_cases h4 : op = 4
                                · have eh4 : (op == 4) = true := by simp [h4]
                                  have nh4 : (op != 4) = false := by simp [h4]
                                  by_cases q3 : wd2 < 0
                                  · skip
                                    have HEQ := hide (decide_eq_true (show ((op = 3 ∨ op = 4) ∧ (wd < 0 ∨ wd ≥ 3)) ∨ (op = 4 ∧ (wd2 < 0 ∨ wd2 ≥ 3)) by omega) : decide (((op = 3 ∨ op = 4) ∧ (wd < 0 ∨ wd ≥ 3)) ∨ (op = 4 ∧ (wd2 < 0 ∨ wd2 ≥ 3))) = true)
                                    clear dv h4
                                    go_wp2_with (go_at_call 23; refine HSO.out.mono ?_; rintro e w' ⟨rfl, hw'⟩; rw [hw']; clear hw' w')
                                    go_meet
                                    case rel => exact ⟨by rw [HEbW.out], by rw [HEQ.out] <;> first | (congr 1; exact decide_eq_true (by omega)) | (congr 1; exact decide_eq_false (by omega)) | (congr 1; simp; omega), rfl⟩
                                  · skip
                                    by_cases q4 : wd2 ≥ 3
                                    · skip
                                      have HEQ := hide (decide_eq_true (show ((op = 3 ∨ op = 4) ∧ (wd < 0 ∨ wd ≥ 3)) ∨ (op = 4 ∧ (wd2 < 0 ∨ wd2 ≥ 3)) by omega) : decide (((op = 3 ∨ op = 4) ∧ (wd < 0 ∨ wd ≥ 3)) ∨ (op = 4 ∧ (wd2 < 0 ∨ wd2 ≥ 3))) = true)
                                      clear dv h4
                                      go_wp2_with (go_at_call 23; refine HSO.out.mono ?_; rintro e w' ⟨rfl, hw'⟩; rw [hw']; clear hw' w')
                                      go_meet
                                      case rel => exact ⟨by rw [HEbW.out], by rw [HEQ.out] <;> first | (congr 1; exact decide_eq_true (by omega)) | (congr 1; exact decide_eq_false (by omega)) | (congr 1; simp; omega), rfl⟩
                                    · skip
                                      have HEQ := hide (decide_eq_false (show ¬ (((op = 3 ∨ op = 4) ∧ (wd < 0 ∨ wd ≥ 3)) ∨ (op = 4 ∧ (wd2 < 0 ∨ wd2 ≥ 3))) by omega) : decide (((op = 3 ∨ op = 4) ∧ (wd < 0 ∨ wd ≥ 3)) ∨ (op = 4 ∧ (wd2 < 0 ∨ wd2 ≥ 3))) = false)
                                      clear dv h4
                                      go_wp2_with (go_at_call 23; refine HSO.out.mono ?_; rintro e w' ⟨rfl, hw'⟩; rw [hw']; clear hw' w')
                                      go_meet
                                      case rel => exact ⟨by rw [HEbW.out], by rw [HEQ.out] <;> first | (congr 1; exact decide_eq_true (by omega)) | (congr 1; exact decide_eq_false (by omega)) | (congr 1; simp; omega), rfl⟩
                                · have eh4 : (op == 4) = false := by simp [h4]
                                  have nh4 : (op != 4) = true := by simp [h4]
                                  have HEQ := hide (decide_eq_false (show ¬ (((op = 3 ∨ op = 4) ∧ (wd < 0 ∨ wd ≥ 3)) ∨ (op = 4 ∧ (wd2 < 0 ∨ wd2 ≥ 3))) by omega) : decide (((op = 3 ∨ op = 4) ∧ (wd < 0 ∨ wd ≥ 3)) ∨ (op = 4 ∧ (wd2 < 0 ∨ wd2 ≥ 3))) = false)
                                  clear dv h4
                                  go_wp2_with (go_at_call 23; refine HSO.out.mono ?_; rintro e w' ⟨rfl, hw'⟩; rw [hw']; clear hw' w')
                                  go_meet
                                  case rel => exact ⟨by rw [HEbW.out], by rw [HEQ.out] <;> first | (congr 1; exact decide_eq_true (by omega)) | (congr 1; exact decide_eq_false (by omega)) | (congr 1; simp; omega), rfl⟩
                          · have EbW : bW = false := by rw [← HbW.out]; exact decide_eq_false (show ¬ (op = 3 ∨ op = 4) by omega)
                            rw [EbW]
                            have HEbW := hide EbW
                            clear EbW
                            have h4 : ¬ op = 4 := by omega
                            have eh4 : (op == 4) = false := by simp [h4]
                            have HEQ := hide (decide_eq_false (show ¬ (((op = 3 ∨ op = 4) ∧ (wd < 0 ∨ wd ≥ 3)) ∨ (op = 4 ∧ (wd2 < 0 ∨ wd2 ≥ 3))) by omega) : decide (((op = 3 ∨ op = 4) ∧ (wd < 0 ∨ wd ≥ 3)) ∨ (op = 4 ∧ (wd2 < 0 ∨ wd2 ≥ 3))) = false)
                            clear dv
                            go_wp2_with (go_at_call 23; refine HSO.out.mono ?_; rintro e w' ⟨rfl, hw'⟩; rw [hw']; clear hw' w')
                            go_meet
                            case rel => exact ⟨by rw [HEbW.out], by rw [HEQ.out] <;> first | (congr 1; exact decide_eq_true (by omega)) | (congr 1; exact decide_eq_false (by omega)) | (congr 1; simp; omega), rfl⟩
                      case rest =>
                        obtain ⟨rfl, rfl, rfl⟩ := hcut
                        by_cases g : ((op = 3 ∨ op = 4) ∧ (wd < 0 ∨ wd ≥ 3)) ∨ (op = 4 ∧ (wd2 < 0 ∨ wd2 ≥ 3))
                        · rw [decide_eq_true g]
                          as_aux_lemma =>
                            have kG4 := G4.out
                            have kG6 := G6.out
                            have hsz := HSZ.out.1
                            have HFF := hide (H1.out (by unfold ndRp; omega))
                            clear g hsz H1 H2 H0 kG4 kG6
                            go_wp2
                            go_ret
                            exact ⟨by rw [HFF.out]; rfl, HB.out⟩
                        rw [decide_eq_false g]
                        have G8 := hide g
                        clear g
                        as_aux_lemma =>
                          go_upto_region 10 with fail
                          go_cut [112] (fun s wx => s = .bool (decide (op = 3 ∧ (num < 0 ∨ num > 9))) ∧ W1 = wx)
                          case first =>
                            clear H1 H2 H0
                            as_aux_lemma =>
                              by_cases h3 : op = 3
                              · have eh3 : (op == 3) = true := by simp [h3]
                                have nh3 : (op != 3) = false := by simp [h3]
                                by_cases q1 : num < 0
                                · skip
                                  have HEQ := hide (decide_eq_true (show op = 3 ∧ (num < 0 ∨ num > 9) by omega) : decide (op = 3 ∧ (num < 0 ∨ num > 9)) = true)
                                  clear h3
                                  go_wp2_with (go_at_call 23; refine HSO.out.mono ?_; rintro e w' ⟨rfl, hw'⟩; rw [hw']; clear hw' w')
                                  go_meet
                                  case rel => exact ⟨by rw [HEQ.out] <;> first | (congr 1; exact decide_eq_true (by omega)) | (congr 1; exact decide_eq_false (by omega)) | (congr 1; simp; omega), rfl⟩
                                · skip
                                  by_cases q2 : num > 9
                                  · skip
                                    have HEQ := hide (decide_eq_true (show op = 3 ∧ (num < 0 ∨ num > 9) by omega) : decide (op = 3 ∧ (num < 0 ∨ num > 9)) = true)
                                    clear h3
                                    go_wp2_with (go_at_call 23; refine HSO.out.mono ?_; rintro e w' ⟨rfl, hw'⟩; rw [hw']; clear hw' w')
                                    go_meet
                                    case rel => exact ⟨by rw [HEQ.out] <;> first | (congr 1; exact decide_eq_true (by omega)) | (congr 1; exact decide_eq_false (by omega)) | (congr 1; simp; omega), rfl⟩
                                  · skip
                                    have HEQ := hide (decide_eq_false (show ¬ (op = 3 ∧ (num < 0 ∨ num > 9)) by omega) : decide (op = 3 ∧ (num < 0 ∨ num > 9)) = false)
                                    clear h3
                                    go_wp2_with (go_at_call 23; refine HSO.out.mono ?_; rintro e w' ⟨rfl, hw'⟩; rw [hw']; clear hw' w')
                                    go_meet
                                    case rel => exact ⟨by rw [HEQ.out] <;> first | (congr 1; exact decide_eq_true (by omega)) | (congr 1; exact decide_eq_false (by omega)) | (congr 1; simp; omega), rfl⟩
                              · have eh3 : (op == 3) = false := by simp [h3]
                                have nh3 : (op != 3) = true := by simp [h3]
                                have HEQ := hide (decide_eq_false (show ¬ (op = 3 ∧ (num < 0 ∨ num > 9)) by omega) : decide (op = 3 ∧ (num < 0 ∨ num > 9)) = false)
                                clear h3
                                go_wp2_with (go_at_call 23; refine HSO.out.mono ?_; rintro e w' ⟨rfl, hw'⟩; rw [hw']; clear hw' w')
                                go_meet
                                case rel => exact ⟨by rw [HEQ.out] <;> first | (congr 1; exact decide_eq_true (by omega)) | (congr 1; exact decide_eq_false (by omega)) | (congr 1; simp; omega), rfl⟩
                          case rest =>
                            obtain ⟨rfl, rfl⟩ := hcut
                            by_cases g : op = 3 ∧ (num < 0 ∨ num > 9)
                            · rw [decide_eq_true g]
                              as_aux_lemma =>
                                have kG4 := G4.out
                                have kG6 := G6.out
                                have kG8 := G8.out
                                have hsz := HSZ.out.1
                                have HFF := hide (H1.out (by unfold ndRp; omega))
                                clear g hsz H1 H2 H0 kG4 kG6 kG8
                                go_wp2
                                go_ret
                                exact ⟨by rw [HFF.out]; rfl, HB.out⟩
                            rw [decide_eq_false g]
                            have G10 := hide g
                            clear g
                            as_aux_lemma =>
                              go_upto_region 12 with fail
                              go_cut [3, 135] (fun v3 s wx => v3 = .bool bL ∧ s = .bool (decide ((op = 1 ∨ op = 2) ∧ ((cf.length : Int) > 5 ∨ si > 12 ∨ num < -60 ∨ num > 60))) ∧ W1 = wx)
                              case first =>
                                clear H1 H2 H0
                                as_aux_lemma =>
                                  by_cases dv : op = 1 ∨ op = 2
                                  · have EbL : bL = true := by rw [← HbL.out]; exact decide_eq_true (show op = 1 ∨ op = 2 by omega)
                                    rw [EbL]
                                    have HEbL := hide EbL
                                    clear EbL
                                    by_cases q1 : (cf.length : Int) > 5
                                    · skip
                                      have HEQ := hide (decide_eq_true (show (op = 1 ∨ op = 2) ∧ ((cf.length : Int) > 5 ∨ si > 12 ∨ num < -60 ∨ num > 60) by omega) : decide ((op = 1 ∨ op = 2) ∧ ((cf.length : Int) > 5 ∨ si > 12 ∨ num < -60 ∨ num > 60)) = true)
                                      clear dv
                                      go_wp2_with (go_at_call 23; refine HSO.out.mono ?_; rintro e w' ⟨rfl, hw'⟩; rw [hw']; clear hw' w')
                                      go_meet
                                      case rel => exact ⟨by rw [HEbL.out], by rw [HEQ.out] <;> first | (congr 1; exact decide_eq_true (by omega)) | (congr 1; exact decide_eq_false (by omega)) | (congr 1; simp; omega), rfl⟩
                                    · skip
                                      by_cases q2 : si > 12
                                      · skip
                                        have HEQ := hide (decide_eq_true (show (op = 1 ∨ op = 2) ∧ ((cf.length : Int) > 5 ∨ si > 12 ∨ num < -60 ∨ num > 60) by omega) : decide ((op = 1 ∨ op = 2) ∧ ((cf.length : Int) > 5 ∨ si > 12 ∨ num < -60 ∨ num > 60)) = true)
                                        clear dv
                                        go_wp2_with (go_at_call 23; refine HSO.out.mono ?_; rintro e w' ⟨rfl, hw'⟩; rw [hw']; clear hw' w')
                                        go_meet
                                        case rel => exact ⟨by rw [HEbL.out], by rw [HEQ.out] <;> first | (congr 1; exact decide_eq_true (by omega)) | (congr 1; exact decide_eq_false (by omega)) | (congr 1; simp; omega), rfl⟩
                                      · skip
                                        by_cases q3 : num < -60
                                        · skip
                                          have HEQ := hide (decide_eq_true (show (op = 1 ∨ op = 2) ∧ ((cf.length : Int) > 5 ∨ si > 12 ∨ num < -60 ∨ num > 60) by omega) : decide ((op = 1 ∨ op = 2) ∧ ((cf.length : Int) > 5 ∨ si > 12 ∨ num < -60 ∨ num > 60)) = true)
                                          clear dv
                                          go_wp2_with (go_at_call 23; refine HSO.out.mono ?_; rintro e w' ⟨rfl, hw'⟩; rw [hw']; clear hw' w')
                                          go_meet
                                          case rel => exact ⟨by rw [HEbL.out], by rw [HEQ.out] <;> first | (congr 1; exact decide_eq_true (by omega)) | (congr 1; exact decide_eq_false (by omega)) | (congr 1; simp; omega), rfl⟩
                                        · skip
                                          by_cases q4 : num > 60
                                          · skip
                                            have HEQ := hide (decide_eq_true (show (op = 1 ∨ op = 2) ∧ ((cf.length : Int) > 5 ∨ si > 12 ∨ num < -60 ∨ num > 60) by omega) : decide ((op = 1 ∨ op = 2) ∧ ((cf.length : Int) > 5 ∨ si > 12 ∨ num < -60 ∨ num > 60)) = true)
                                            clear dv
                                            go_wp2_with (go_at_call 23; refine HSO.out.mono ?_; rintro e w' ⟨rfl, hw'⟩; rw [hw']; clear hw' w')
                                            go_meet
                                            case rel => exact ⟨by rw [HEbL.out], by rw [HEQ.out] <;> first | (congr 1; exact decide_eq_true (by omega)) | (congr 1; exact decide_eq_false (by omega)) | (congr 1; simp; omega), rfl⟩
                                          · skip
                                            have HEQ := hide (decide_eq_false (show ¬ ((op = 1 ∨ op = 2) ∧ ((cf.length : Int) > 5 ∨ si > 12 ∨ num < -60 ∨ num > 60)) by omega) : decide ((op = 1 ∨ op = 2) ∧ ((cf.length : Int) > 5 ∨ si > 12 ∨ num < -60 ∨ num > 60)) = false)
                                            clear dv
                                            go_wp2_with (go_at_call 23; refine HSO.out.mono ?_; rintro e w' ⟨rfl, hw'⟩; rw [hw']; clear hw' w')
                                            go_meet
                                            case rel => exact ⟨by rw [HEbL.out], by rw [HEQ.out] <;> first | (congr 1; exact decide_eq_true (by omega)) | (congr 1; exact decide_eq_false (by omega)) | (congr 1; simp; omega), rfl⟩
                                  · have EbL : bL = false := by rw [← HbL.out]; exact decide_eq_false (show ¬ (op = 1 ∨ op = 2) by omega)
                                    rw [EbL]
                                    have HEbL := hide EbL
                                    clear EbL
                                    have HEQ := hide (decide_eq_false (show ¬ ((op = 1 ∨ op = 2) ∧ ((cf.length : Int) > 5 ∨ si > 12 ∨ num < -60 ∨ num > 60)) by omega) : decide ((op = 1 ∨ op = 2) ∧ ((cf.length : Int) > 5 ∨ si > 12 ∨ num < -60 ∨ num > 60)) = false)
                                    clear dv
                                    go_wp2_with (go_at_call 23; refine HSO.out.mono ?_; rintro e w' ⟨rfl, hw'⟩; rw [hw']; clear hw' w')
                                    go_meet
                                    case rel => exact ⟨by rw [HEbL.out], by rw [HEQ.out] <;> first | (congr 1; exact decide_eq_true (by omega)) | (congr 1; exact decide_eq_false (by omega)) | (congr 1; simp; omega), rfl⟩
                              case rest =>
                                obtain ⟨rfl, rfl, rfl⟩ := hcut
                                by_cases g : (op = 1 ∨ op = 2) ∧ ((cf.length : Int) > 5 ∨ si > 12 ∨ num < -60 ∨ num > 60)
                                · rw [decide_eq_true g]
                                  as_aux_lemma =>
                                    have kG4 := G4.out
                                    have kG6 := G6.out
                                    have kG8 := G8.out
                                    have kG10 := G10.out
                                    have hsz := HSZ.out.1
                                    have HFF := hide (H1.out (by unfold ndRp; omega))
                                    clear g hsz H1 H2 H0 kG4 kG6 kG8 kG10
                                    go_wp2
                                    go_ret
                                    exact ⟨by rw [HFF.out]; rfl, HB.out⟩
                                rw [decide_eq_false g]
                                have G12 := hide g
                                clear g
                                as_aux_lemma =>
                                  go_upto_region 14 with fail
                                  go_cut [3, 4, 5, 190] (fun v3 v4 v5 s wx => v3 = .bool bL ∧ v4 = .bool bV ∧ v5 = .bool bW ∧ s = .bool (decide (((¬ (op = 3 ∨ op = 4 ∨ op = 8 ∨ op = 9)) ∧ var ≠ 0) ∨ (op ≠ 4 ∧ (oth ≠ 0 ∨ wd2 ≠ 0)) ∨ ((¬ (op = 3 ∨ op = 4)) ∧ wd ≠ 0) ∨ ((¬ (op = 1 ∨ op = 2)) ∧ op ≠ 3 ∧ num ≠ 0) ∨ ((¬ (op = 1 ∨ op = 2)) ∧ (cf.length : Int) > 0))) ∧ W1 = wx)
                                  case first =>
                                    clear H1 H2 H0
                                    skip
                                    by_cases hq : op = 1 ∨ op = 2
                                    · skip
                                      as_aux_lemma =>
                                        have EbV : bV = false := by rw [← HbV.out]; exact decide_eq_false (show ¬ (op = 3 ∨ op = 4 ∨ op = 8 ∨ op = 9) by omega)
                                        rw [EbV]
                                        have HEbV := hide EbV
                                        clear EbV
                                        have EbW : bW = false := by rw [← HbW.out]; exact decide_eq_false (show ¬ (op = 3 ∨ op = 4) by omega)
                                        rw [EbW]
                                        have HEbW := hide EbW
                                        clear EbW
                                        have EbL : bL = true := by rw [← HbL.out]; exact decide_eq_true (show op = 1 ∨ op = 2 by omega)
                                        rw [EbL]
                                        have HEbL := hide EbL
                                        clear EbL
                                        have e4 : (op == 4) = false := by simp; omega
                                        have n4 : (op != 4) = true := by simp; omega
                                        have e3 : (op == 3) = false := by simp; omega
                                        have n3 : (op != 3) = true := by simp; omega
                                        by_cases zvar : var = 0
                                        · have ezvar : (var == 0) = true := by simp [zvar]
                                          have nzvar : (var != 0) = false := by simp [zvar]
                                          by_cases zoth : oth = 0
                                          · have ezoth : (oth == 0) = true := by simp [zoth]
                                            have nzoth : (oth != 0) = false := by simp [zoth]
                                            by_cases zwd2 : wd2 = 0
                                            · have ezwd2 : (wd2 == 0) = true := by simp [zwd2]
                                              have nzwd2 : (wd2 != 0) = false := by simp [zwd2]
                                              by_cases zwd : wd = 0
                                              · have ezwd : (wd == 0) = true := by simp [zwd]
                                                have nzwd : (wd != 0) = false := by simp [zwd]
                                                have HEQ := hide (decide_eq_false (show ¬ (((¬ (op = 3 ∨ op = 4 ∨ op = 8 ∨ op = 9)) ∧ var ≠ 0) ∨ (op ≠ 4 ∧ (oth ≠ 0 ∨ wd2 ≠ 0)) ∨ ((¬ (op = 3 ∨ op = 4)) ∧ wd ≠ 0) ∨ ((¬ (op = 1 ∨ op = 2)) ∧ op ≠ 3 ∧ num ≠ 0) ∨ ((¬ (op = 1 ∨ op = 2)) ∧ (cf.length : Int) > 0)) by omega) : decide (((¬ (op = 3 ∨ op = 4 ∨ op = 8 ∨ op = 9)) ∧ var ≠ 0) ∨ (op ≠ 4 ∧ (oth ≠ 0 ∨ wd2 ≠ 0)) ∨ ((¬ (op = 3 ∨ op = 4)) ∧ wd ≠ 0) ∨ ((¬ (op = 1 ∨ op = 2)) ∧ op ≠ 3 ∧ num ≠ 0) ∨ ((¬ (op = 1 ∨ op = 2)) ∧ (cf.length : Int) > 0)) = false)
                                                clear zvar zoth zwd2 zwd
                                                go_wp2_with (go_at_call 23; refine HSO.out.mono ?_; rintro e w' ⟨rfl, hw'⟩; rw [hw']; clear hw' w')
                                                go_meet
                                                case rel => exact ⟨by rw [HEbL.out], by rw [HEbV.out], by rw [HEbW.out], by rw [HEQ.out] <;> first | (congr 1; exact decide_eq_true (by omega)) | (congr 1; exact decide_eq_false (by omega)) | (congr 1; simp; omega), rfl⟩
                                              · have ezwd : (wd == 0) = false := by simp [zwd]
                                                have nzwd : (wd != 0) = true := by simp [zwd]
                                                have HEQ := hide (decide_eq_true (show ((¬ (op = 3 ∨ op = 4 ∨ op = 8 ∨ op = 9)) ∧ var ≠ 0) ∨ (op ≠ 4 ∧ (oth ≠ 0 ∨ wd2 ≠ 0)) ∨ ((¬ (op = 3 ∨ op = 4)) ∧ wd ≠ 0) ∨ ((¬ (op = 1 ∨ op = 2)) ∧ op ≠ 3 ∧ num ≠ 0) ∨ ((¬ (op = 1 ∨ op = 2)) ∧ (cf.length : Int) > 0) by omega) : decide (((¬ (op = 3 ∨ op = 4 ∨ op = 8 ∨ op = 9)) ∧ var ≠ 0) ∨ (op ≠ 4 ∧ (oth ≠ 0 ∨ wd2 ≠ 0)) ∨ ((¬ (op = 3 ∨ op = 4)) ∧ wd ≠ 0) ∨ ((¬ (op = 1 ∨ op = 2)) ∧ op ≠ 3 ∧ num ≠ 0) ∨ ((¬ (op = 1 ∨ op = 2)) ∧ (cf.length : Int) > 0)) = true)
                                                clear zvar zoth zwd2 zwd
                                                go_wp2_with (go_at_call 23; refine HSO.out.mono ?_; rintro e w' ⟨rfl, hw'⟩; rw [hw']; clear hw' w')
                                                go_meet
                                                case rel => exact ⟨by rw [HEbL.out], by rw [HEbV.out], by rw [HEbW.out], by rw [HEQ.out] <;> first | (congr 1; exact decide_eq_true (by omega)) | (congr 1; exact decide_eq_false (by omega)) | (congr 1; simp; omega), rfl⟩
                                            · have ezwd2 : (wd2 == 0) = false := by simp [zwd2]
                                              have nzwd2 : (wd2 != 0) = true := by simp [zwd2]
                                              have HEQ := hide (decide_eq_true (show ((¬ (op = 3 ∨ op = 4 ∨ op = 8 ∨ op = 9)) ∧ var ≠ 0) ∨ (op ≠ 4 ∧ (oth ≠ 0 ∨ wd2 ≠ 0)) ∨ ((¬ (op = 3 ∨ op = 4)) ∧ wd ≠ 0) ∨ ((¬ (op = 1 ∨ op = 2)) ∧ op ≠ 3 ∧ num ≠ 0) ∨ ((¬ (op = 1 ∨ op = 2)) ∧ (cf.length : Int) > 0) by omega) : decide (((¬ (op = 3 ∨ op = 4 ∨ op = 8 ∨ op = 9)) ∧ var ≠ 0) ∨ (op ≠ 4 ∧ (oth ≠ 0 ∨ wd2 ≠ 0)) ∨ ((¬ (op = 3 ∨ op = 4)) ∧ wd ≠ 0) ∨ ((¬ (op = 1 ∨ op = 2)) ∧ op ≠ 3 ∧ num ≠ 0) ∨ ((¬ (op = 1 ∨ op = 2)) ∧ (cf.length : Int) > 0)) = true)
                                              clear zvar zoth zwd2
                                              go_wp2_with (go_at_call 23; refine HSO.out.mono ?_; rintro e w' ⟨rfl, hw'⟩; rw [hw']; clear hw' w')
                                              go_meet
                                              case rel => exact ⟨by rw [HEbL.out], by rw [HEbV.out], by rw [HEbW.out], by rw [HEQ.out] <;> first | (congr 1; exact decide_eq_true (by omega)) | (congr 1; exact decide_eq_false (by omega)) | (congr 1; simp; omega), rfl⟩
                                          · have ezoth : (oth == 0) = false := by simp [zoth]
                                            have nzoth : (oth != 0) = true := by simp [zoth]
                                            have HEQ := hide (decide_eq_true (show ((¬ (op = 3 ∨ op = 4 ∨ op = 8 ∨ op = 9)) ∧ var ≠ 0) ∨ (op ≠ 4 ∧ (oth ≠ 0 ∨ wd2 ≠ 0)) ∨ ((¬ (op = 3 ∨ op = 4)) ∧ wd ≠ 0) ∨ ((¬ (op = 1 ∨ op = 2)) ∧ op ≠ 3 ∧ num ≠ 0) ∨ ((¬ (op = 1 ∨ op = 2)) ∧ (cf.length : Int) > 0) by omega) : decide (((¬ (op = 3 ∨ op = 4 ∨ op = 8 ∨ op = 9)) ∧ var ≠ 0) ∨ (op ≠ 4 ∧ (oth ≠ 0 ∨ wd2 ≠ 0)) ∨ ((¬ (op = 3 ∨ op = 4)) ∧ wd ≠ 0) ∨ ((¬ (op = 1 ∨ op = 2)) ∧ op ≠ 3 ∧ num ≠ 0) ∨ ((¬ (op = 1 ∨ op = 2)) ∧ (cf.length : Int) > 0)) = true)
                                            clear zvar zoth
                                            go_wp2_with (go_at_call 23; refine HSO.out.mono ?_; rintro e w' ⟨rfl, hw'⟩; rw [hw']; clear hw' w')
                                            go_meet
                                            case rel => exact ⟨by rw [HEbL.out], by rw [HEbV.out], by rw [HEbW.out], by rw [HEQ.out] <;> first | (congr 1; exact decide_eq_true (by omega)) | (congr 1; exact decide_eq_false (by omega)) | (congr 1; simp; omega), rfl⟩
                                        · have ezvar : (var == 0) = false := by simp [zvar]
                                          have nzvar : (var != 0) = true := by simp [zvar]
                                          have HEQ := hide (decide_eq_true (show ((¬ (op = 3 ∨ op = 4 ∨ op = 8 ∨ op = 9)) ∧ var ≠ 0) ∨ (op ≠ 4 ∧ (oth ≠ 0 ∨ wd2 ≠ 0)) ∨ ((¬ (op = 3 ∨ op = 4)) ∧ wd ≠ 0) ∨ ((¬ (op = 1 ∨ op = 2)) ∧ op ≠ 3 ∧ num ≠ 0) ∨ ((¬ (op = 1 ∨ op = 2)) ∧ (cf.length : Int) > 0) by omega) : decide (((¬ (op = 3 ∨ op = 4 ∨ op = 8 ∨ op = 9)) ∧ var ≠ 0) ∨ (op ≠ 4 ∧ (oth ≠ 0 ∨ wd2 ≠ 0)) ∨ ((¬ (op = 3 ∨ op = 4)) ∧ wd ≠ 0) ∨ ((¬ (op = 1 ∨ op = 2)) ∧ op ≠ 3 ∧ num ≠ 0) ∨ ((¬ (op = 1 ∨ op = 2)) ∧ (cf.length : Int) > 0)) = true)
                                          clear zvar
                                          go_wp2_with (go_at_call 23; refine HSO.out.mono ?_; rintro e w' ⟨rfl, hw'⟩; rw [hw']; clear hw' w')
                                          go_meet
                                          case rel => exact ⟨by rw [HEbL.out], by rw [HEbV.out], by rw [HEbW.out], by rw [HEQ.out] <;> first | (congr 1; exact decide_eq_true (by omega)) | (congr 1; exact decide_eq_false (by omega)) | (congr 1; simp; omega), rfl⟩
                                    · skip
                                      by_cases hq : op = 3
                                      · skip
                                        as_aux_lemma =>
                                          have EbV : bV = true := by rw [← HbV.out]; exact decide_eq_true (show op = 3 ∨ op = 4 ∨ op = 8 ∨ op = 9 by omega)
                                          rw [EbV]
                                          have HEbV := hide EbV
                                          clear EbV
                                          have EbW : bW = true := by rw [← HbW.out]; exact decide_eq_true (show op = 3 ∨ op = 4 by omega)
                                          rw [EbW]
                                          have HEbW := hide EbW
                                          clear EbW
                                          have EbL : bL = false := by rw [← HbL.out]; exact decide_eq_false (show ¬ (op = 1 ∨ op = 2) by omega)
                                          rw [EbL]
                                          have HEbL := hide EbL
                                          clear EbL
                                          have e4 : (op == 4) = false := by simp [hq]
                                          have n4 : (op != 4) = true := by simp [hq]
                                          have e3 : (op == 3) = true := by simp [hq]
                                          have n3 : (op != 3) = false := by simp [hq]
                                          by_cases zoth : oth = 0
                                          · have ezoth : (oth == 0) = true := by simp [zoth]
                                            have nzoth : (oth != 0) = false := by simp [zoth]
                                            by_cases zwd2 : wd2 = 0
                                            · have ezwd2 : (wd2 == 0) = true := by simp [zwd2]
                                              have nzwd2 : (wd2 != 0) = false := by simp [zwd2]
                                              by_cases ql : (cf.length : Int) > 0
                                              · skip
                                                have HEQ := hide (decide_eq_true (show ((¬ (op = 3 ∨ op = 4 ∨ op = 8 ∨ op = 9)) ∧ var ≠ 0) ∨ (op ≠ 4 ∧ (oth ≠ 0 ∨ wd2 ≠ 0)) ∨ ((¬ (op = 3 ∨ op = 4)) ∧ wd ≠ 0) ∨ ((¬ (op = 1 ∨ op = 2)) ∧ op ≠ 3 ∧ num ≠ 0) ∨ ((¬ (op = 1 ∨ op = 2)) ∧ (cf.length : Int) > 0) by omega) : decide (((¬ (op = 3 ∨ op = 4 ∨ op = 8 ∨ op = 9)) ∧ var ≠ 0) ∨ (op ≠ 4 ∧ (oth ≠ 0 ∨ wd2 ≠ 0)) ∨ ((¬ (op = 3 ∨ op = 4)) ∧ wd ≠ 0) ∨ ((¬ (op = 1 ∨ op = 2)) ∧ op ≠ 3 ∧ num ≠ 0) ∨ ((¬ (op = 1 ∨ op = 2)) ∧ (cf.length : Int) > 0)) = true)
                                                clear hq zoth zwd2
                                                go_wp2_with (go_at_call 23; refine HSO.out.mono ?_; rintro e w' ⟨rfl, hw'⟩; rw [hw']; clear hw' w')
                                                go_meet
                                                case rel => exact ⟨by rw [HEbL.out], by rw [HEbV.out], by rw [HEbW.out], by rw [HEQ.out] <;> first | (congr 1; exact decide_eq_true (by omega)) | (congr 1; exact decide_eq_false (by omega)) | (congr 1; simp; omega), rfl⟩
                                              · skip
                                                have HEQ := hide (decide_eq_false (show ¬ (((¬ (op = 3 ∨ op = 4 ∨ op = 8 ∨ op = 9)) ∧ var ≠ 0) ∨ (op ≠ 4 ∧ (oth ≠ 0 ∨ wd2 ≠ 0)) ∨ ((¬ (op = 3 ∨ op = 4)) ∧ wd ≠ 0) ∨ ((¬ (op = 1 ∨ op = 2)) ∧ op ≠ 3 ∧ num ≠ 0) ∨ ((¬ (op = 1 ∨ op = 2)) ∧ (cf.length : Int) > 0)) by omega) : decide (((¬ (op = 3 ∨ op = 4 ∨ op = 8 ∨ op = 9)) ∧ var ≠ 0) ∨ (op ≠ 4 ∧ (oth ≠ 0 ∨ wd2 ≠ 0)) ∨ ((¬ (op = 3 ∨ op = 4)) ∧ wd ≠ 0) ∨ ((¬ (op = 1 ∨ op = 2)) ∧ op ≠ 3 ∧ num ≠ 0) ∨ ((¬ (op = 1 ∨ op = 2)) ∧ (cf.length : Int) > 0)) = false)
                                                clear hq zoth zwd2
                                                go_wp2_with (go_at_call 23; refine HSO.out.mono ?_; rintro e w' ⟨rfl, hw'⟩; rw [hw']; clear hw' w')
                                                go_meet
                                                case rel => exact ⟨by rw [HEbL.out], by rw [HEbV.out], by rw [HEbW.out], by rw [HEQ.out] <;> first | (congr 1; exact decide_eq_true (by omega)) | (congr 1; exact decide_eq_false (by omega)) | (congr 1; simp; omega), rfl⟩
                                            · have ezwd2 : (wd2 == 0) = false := by simp [zwd2]
                                              have nzwd2 : (wd2 != 0) = true := by simp [zwd2]
                                              have HEQ := hide (decide_eq_true (show ((¬ (op = 3 ∨ op = 4 ∨ op = 8 ∨ op = 9)) ∧ var ≠ 0) ∨ (op ≠ 4 ∧ (oth ≠ 0 ∨ wd2 ≠ 0)) ∨ ((¬ (op = 3 ∨ op = 4)) ∧ wd ≠ 0) ∨ ((¬ (op = 1 ∨ op = 2)) ∧ op ≠ 3 ∧ num ≠ 0) ∨ ((¬ (op = 1 ∨ op = 2)) ∧ (cf.length : Int) > 0) by omega) : decide (((¬ (op = 3 ∨ op = 4 ∨ op = 8 ∨ op = 9)) ∧ var ≠ 0) ∨ (op ≠ 4 ∧ (oth ≠ 0 ∨ wd2 ≠ 0)) ∨ ((¬ (op = 3 ∨ op = 4)) ∧ wd ≠ 0) ∨ ((¬ (op = 1 ∨ op = 2)) ∧ op ≠ 3 ∧ num ≠ 0) ∨ ((¬ (op = 1 ∨ op = 2)) ∧ (cf.length : Int) > 0)) = true)
                                              clear hq zoth zwd2
                                              go_wp2_with (go_at_call 23; refine HSO.out.mono ?_; rintro e w' ⟨rfl, hw'⟩; rw [hw']; clear hw' w')
                                              go_meet
                                              case rel => exact ⟨by rw [HEbL.out], by rw [HEbV.out], by rw [HEbW.out], by rw [HEQ.out] <;> first | (congr 1; exact decide_eq_true (by omega)) | (congr 1; exact decide_eq_false (by omega)) | (congr 1; simp; omega), rfl⟩
                                          · have ezoth : (oth == 0) = false := by simp [zoth]
                                            have nzoth : (oth != 0) = true := by simp [zoth]
                                            have HEQ := hide (decide_eq_true (show ((¬ (op = 3 ∨ op = 4 ∨ op = 8 ∨ op = 9)) ∧ var ≠ 0) ∨ (op ≠ 4 ∧ (oth ≠ 0 ∨ wd2 ≠ 0)) ∨ ((¬ (op = 3 ∨ op = 4)) ∧ wd ≠ 0) ∨ ((¬ (op = 1 ∨ op = 2)) ∧ op ≠ 3 ∧ num ≠ 0) ∨ ((¬ (op = 1 ∨ op = 2)) ∧ (cf.length : Int) > 0) by omega) : decide (((¬ (op = 3 ∨ op = 4 ∨ op = 8 ∨ op = 9)) ∧ var ≠ 0) ∨ (op ≠ 4 ∧ (oth ≠ 0 ∨ wd2 ≠ 0)) ∨ ((¬ (op = 3 ∨ op = 4)) ∧ wd ≠ 0) ∨ ((¬ (op = 1 ∨ op = 2)) ∧ op ≠ 3 ∧ num ≠ 0) ∨ ((¬ (op = 1 ∨ op = 2)) ∧ (cf.length : Int) > 0)) = true)
                                            clear hq zoth
                                            go_wp2_with (go_at_call 23; refine HSO.out.mono ?_; rintro e w' ⟨rfl, hw'⟩; rw [hw']; clear hw' w')
                                            go_meet
                                            case rel => exact ⟨by rw [HEbL.out], by rw [HEbV.out], by rw [HEbW.out], by rw [HEQ.out] <;> first | (congr 1; exact decide_eq_true (by omega)) | (congr 1; exact decide_eq_false (by omega)) | (congr 1; simp; omega), rfl⟩
                                      · skip
                                        by_cases hq2 : op = 4
                                        · skip
                                          as_aux_lemma =>
                                            have EbV : bV = true := by rw [← HbV.out]; exact decide_eq_true (show op = 3 ∨ op = 4 ∨ op = 8 ∨ op = 9 by omega)
                                            rw [EbV]
                                            have HEbV := hide EbV
                                            clear EbV
                                            have EbW : bW = true := by rw [← HbW.out]; exact decide_eq_true (show op = 3 ∨ op = 4 by omega)
                                            rw [EbW]
                                            have HEbW := hide EbW
                                            clear EbW
                                            have EbL : bL = false := by rw [← HbL.out]; exact decide_eq_false (show ¬ (op = 1 ∨ op = 2) by omega)
                                            rw [EbL]
                                            have HEbL := hide EbL
                                            clear EbL
                                            have e4 : (op == 4) = true := by simp [hq2]
                                            have n4 : (op != 4) = false := by simp [hq2]
                                            have e3 : (op == 3) = false := by simp [hq2]
                                            have n3 : (op != 3) = true := by simp [hq2]
                                            by_cases znum : num = 0
                                            · have eznum : (num == 0) = true := by simp [znum]
                                              have nznum : (num != 0) = false := by simp [znum]
                                              by_cases ql : (cf.length : Int) > 0
                                              · skip
                                                have HEQ := hide (decide_eq_true (show ((¬ (op = 3 ∨ op = 4 ∨ op = 8 ∨ op = 9)) ∧ var ≠ 0) ∨ (op ≠ 4 ∧ (oth ≠ 0 ∨ wd2 ≠ 0)) ∨ ((¬ (op = 3 ∨ op = 4)) ∧ wd ≠ 0) ∨ ((¬ (op = 1 ∨ op = 2)) ∧ op ≠ 3 ∧ num ≠ 0) ∨ ((¬ (op = 1 ∨ op = 2)) ∧ (cf.length : Int) > 0) by omega) : decide (((¬ (op = 3 ∨ op = 4 ∨ op = 8 ∨ op = 9)) ∧ var ≠ 0) ∨ (op ≠ 4 ∧ (oth ≠ 0 ∨ wd2 ≠ 0)) ∨ ((¬ (op = 3 ∨ op = 4)) ∧ wd ≠ 0) ∨ ((¬ (op = 1 ∨ op = 2)) ∧ op ≠ 3 ∧ num ≠ 0) ∨ ((¬ (op = 1 ∨ op = 2)) ∧ (cf.length : Int) > 0)) = true)
                                                clear hq hq2 znum
                                                go_wp2_with (go_at_call 23; refine HSO.out.mono ?_; rintro e w' ⟨rfl, hw'⟩; rw [hw']; clear hw' w')
                                                go_meet
                                                case rel => exact ⟨by rw [HEbL.out], by rw [HEbV.out], by rw [HEbW.out], by rw [HEQ.out] <;> first | (congr 1; exact decide_eq_true (by omega)) | (congr 1; exact decide_eq_false (by omega)) | (congr 1; simp; omega), rfl⟩
                                              · skip
                                                have HEQ := hide (decide_eq_false (show ¬ (((¬ (op = 3 ∨ op = 4 ∨ op = 8 ∨ op = 9)) ∧ var ≠ 0) ∨ (op ≠ 4 ∧ (oth ≠ 0 ∨ wd2 ≠ 0)) ∨ ((¬ (op = 3 ∨ op = 4)) ∧ wd ≠ 0) ∨ ((¬ (op = 1 ∨ op = 2)) ∧ op ≠ 3 ∧ num ≠ 0) ∨ ((¬ (op = 1 ∨ op = 2)) ∧ (cf.length : Int) > 0)) by omega) : decide (((¬ (op = 3 ∨ op = 4 ∨ op = 8 ∨ op = 9)) ∧ var ≠ 0) ∨ (op ≠ 4 ∧ (oth ≠ 0 ∨ wd2 ≠ 0)) ∨ ((¬ (op = 3 ∨ op = 4)) ∧ wd ≠ 0) ∨ ((¬ (op = 1 ∨ op = 2)) ∧ op ≠ 3 ∧ num ≠ 0) ∨ ((¬ (op = 1 ∨ op = 2)) ∧ (cf.length : Int) > 0)) = false)
                                                clear hq hq2 znum
                                                go_wp2_with (go_at_call 23; refine HSO.out.mono ?_; rintro e w' ⟨rfl, hw'⟩; rw [hw']; clear hw' w')
                                                go_meet
                                                case rel => exact ⟨by rw [HEbL.out], by rw [HEbV.out], by rw [HEbW.out], by rw [HEQ.out] <;> first | (congr 1; exact decide_eq_true (by omega)) | (congr 1; exact decide_eq_false (by omega)) | (congr 1; simp; omega), rfl⟩
                                            · have eznum : (num == 0) = false := by simp [znum]
                                              have nznum : (num != 0) = true := by simp [znum]
                                              have HEQ := hide (decide_eq_true (show ((¬ (op = 3 ∨ op = 4 ∨ op = 8 ∨ op = 9)) ∧ var ≠ 0) ∨ (op ≠ 4 ∧ (oth ≠ 0 ∨ wd2 ≠ 0)) ∨ ((¬ (op = 3 ∨ op = 4)) ∧ wd ≠ 0) ∨ ((¬ (op = 1 ∨ op = 2)) ∧ op ≠ 3 ∧ num ≠ 0) ∨ ((¬ (op = 1 ∨ op = 2)) ∧ (cf.length : Int) > 0) by omega) : decide (((¬ (op = 3 ∨ op = 4 ∨ op = 8 ∨ op = 9)) ∧ var ≠ 0) ∨ (op ≠ 4 ∧ (oth ≠ 0 ∨ wd2 ≠ 0)) ∨ ((¬ (op = 3 ∨ op = 4)) ∧ wd ≠ 0) ∨ ((¬ (op = 1 ∨ op = 2)) ∧ op ≠ 3 ∧ num ≠ 0) ∨ ((¬ (op = 1 ∨ op = 2)) ∧ (cf.length : Int) > 0)) = true)
                                              clear hq hq2 znum
                                              go_wp2_with (go_at_call 23; refine HSO.out.mono ?_; rintro e w' ⟨rfl, hw'⟩; rw [hw']; clear hw' w')
                                              go_meet
                                              case rel => exact ⟨by rw [HEbL.out], by rw [HEbV.out], by rw [HEbW.out], by rw [HEQ.out] <;> first | (congr 1; exact decide_eq_true (by omega)) | (congr 1; exact decide_eq_false (by omega)) | (congr 1; simp; omega), rfl⟩
                                        · skip
                                          by_cases hq3 : op = 8 ∨ op = 9
                                          · skip
                                            as_aux_lemma =>
                                              have EbV : bV = true := by rw [← HbV.out]; exact decide_eq_true (show op = 3 ∨ op = 4 ∨ op = 8 ∨ op = 9 by omega)
                                              rw [EbV]
                                              have HEbV := hide EbV
                                              clear EbV
                                              have EbW : bW = false := by rw [← HbW.out]; exact decide_eq_false (show ¬ (op = 3 ∨ op = 4) by omega)
                                              rw [EbW]
                                              have HEbW := hide EbW
                                              clear EbW
                                              have EbL : bL = false := by rw [← HbL.out]; exact decide_eq_false (show ¬ (op = 1 ∨ op = 2) by omega)
                                              rw [EbL]
                                              have HEbL := hide EbL
                                              clear EbL
                                              have e4 : (op == 4) = false := by simp; omega
                                              have n4 : (op != 4) = true := by simp; omega
                                              have e3 : (op == 3) = false := by simp; omega
                                              have n3 : (op != 3) = true := by simp; omega
                                              by_cases zoth : oth = 0
                                              · have ezoth : (oth == 0) = true := by simp [zoth]
                                                have nzoth : (oth != 0) = false := by simp [zoth]
                                                by_cases zwd2 : wd2 = 0
                                                · have ezwd2 : (wd2 == 0) = true := by simp [zwd2]
                                                  have nzwd2 : (wd2 != 0) = false := by simp [zwd2]
                                                  by_cases zwd : wd = 0
                                                  · have ezwd : (wd == 0) = true := by simp [zwd]
                                                    have nzwd : (wd != 0) = false := by simp [zwd]
                                                    by_cases znum : num = 0
                                                    · have eznum : (num == 0) = true := by simp [znum]
                                                      have nznum : (num != 0) = false := by simp [znum]
                                                      by_cases ql : (cf.length : Int) > 0
                                                      · skip
                                                        have HEQ := hide (decide_eq_true (show ((¬ (op = 3 ∨ op = 4 ∨ op = 8 ∨ op = 9)) ∧ var ≠ 0) ∨ (op ≠ 4 ∧ (oth ≠ 0 ∨ wd2 ≠ 0)) ∨ ((¬ (op = 3 ∨ op = 4)) ∧ wd ≠ 0) ∨ ((¬ (op = 1 ∨ op = 2)) ∧ op ≠ 3 ∧ num ≠ 0) ∨ ((¬ (op = 1 ∨ op = 2)) ∧ (cf.length : Int) > 0) by omega) : decide (((¬ (op = 3 ∨ op = 4 ∨ op = 8 ∨ op = 9)) ∧ var ≠ 0) ∨ (op ≠ 4 ∧ (oth ≠ 0 ∨ wd2 ≠ 0)) ∨ ((¬ (op = 3 ∨ op = 4)) ∧ wd ≠ 0) ∨ ((¬ (op = 1 ∨ op = 2)) ∧ op ≠ 3 ∧ num ≠ 0) ∨ ((¬ (op = 1 ∨ op = 2)) ∧ (cf.length : Int) > 0)) = true)
                                                        clear hq hq2 zoth zwd2 zwd znum
                                                        go_wp2_with (go_at_call 23; refine HSO.out.mono ?_; rintro e w' ⟨rfl, hw'⟩; rw [hw']; clear hw' w')
                                                        go_meet
                                                        case rel => exact ⟨by rw [HEbL.out], by rw [HEbV.out], by rw [HEbW.out], by rw [HEQ.out] <;> first | (congr 1; exact decide_eq_true (by omega)) | (congr 1; exact decide_eq_false (by omega)) | (congr 1; simp; omega), rfl⟩
                                                      · skip
                                                        have HEQ := hide (decide_eq_false (show ¬ (((¬ (op = 3 ∨ op = 4 ∨ op = 8 ∨ op = 9)) ∧ var ≠ 0) ∨ (op ≠ 4 ∧ (oth ≠ 0 ∨ wd2 ≠ 0)) ∨ ((¬ (op = 3 ∨ op = 4)) ∧ wd ≠ 0) ∨ ((¬ (op = 1 ∨ op = 2)) ∧ op ≠ 3 ∧ num ≠ 0) ∨ ((¬ (op = 1 ∨ op = 2)) ∧ (cf.length : Int) > 0)) by omega) : decide (((¬ (op = 3 ∨ op = 4 ∨ op = 8 ∨ op = 9)) ∧ var ≠ 0) ∨ (op ≠ 4 ∧ (oth ≠ 0 ∨ wd2 ≠ 0)) ∨ ((¬ (op = 3 ∨ op = 4)) ∧ wd ≠ 0) ∨ ((¬ (op = 1 ∨ op = 2)) ∧ op ≠ 3 ∧ num ≠ 0) ∨ ((¬ (op = 1 ∨ op = 2)) ∧ (cf.length : Int) > 0)) = false)
                                                        clear hq hq2 zoth zwd2 zwd znum
                                                        go_wp2_with (go_at_call 23; refine HSO.out.mono ?_; rintro e w' ⟨rfl, hw'⟩; rw [hw']; clear hw' w')
                                                        go_meet
                                                        case rel => exact ⟨by rw [HEbL.out], by rw [HEbV.out], by rw [HEbW.out], by rw [HEQ.out] <;> first | (congr 1; exact decide_eq_true (by omega)) | (congr 1; exact decide_eq_false (by omega)) | (congr 1; simp; omega), rfl⟩
                                                    · have eznum : (num == 0) = false := by simp [znum]
                                                      have nznum : (num != 0) = true := by simp [znum]
                                                      have HEQ := hide (decide_eq_true (show ((¬ (op = 3 ∨ op = 4 ∨ op = 8 ∨ op = 9)) ∧ var ≠ 0) ∨ (op ≠ 4 ∧ (oth ≠ 0 ∨ wd2 ≠ 0)) ∨ ((¬ (op = 3 ∨ op = 4)) ∧ wd ≠ 0) ∨ ((¬ (op = 1 ∨ op = 2)) ∧ op ≠ 3 ∧ num ≠ 0) ∨ ((¬ (op = 1 ∨ op = 2)) ∧ (cf.length : Int) > 0) by omega) : decide (((¬ (op = 3 ∨ op = 4 ∨ op = 8 ∨ op = 9)) ∧ var ≠ 0) ∨ (op ≠ 4 ∧ (oth ≠ 0 ∨ wd2 ≠ 0)) ∨ ((¬ (op = 3 ∨ op = 4)) ∧ wd ≠ 0) ∨ ((¬ (op = 1 ∨ op = 2)) ∧ op ≠ 3 ∧ num ≠ 0) ∨ ((¬ (op = 1 ∨ op = 2)) ∧ (cf.length : Int) > 0)) = true)
                                                      clear hq hq2 zoth zwd2 zwd znum
                                                      go_wp2_with (go_at_call 23; refine HSO.out.mono ?_; rintro e w' ⟨rfl, hw'⟩; rw [hw']; clear hw' w')
                                                      go_meet
                                                      case rel => exact ⟨by rw [HEbL.out], by rw [HEbV.out], by rw [HEbW.out], by rw [HEQ.out] <;> first | (congr 1; exact decide_eq_true (by omega)) | (congr 1; exact decide_eq_false (by omega)) | (congr 1; simp; omega), rfl⟩
                                                  · have ezwd : (wd == 0) = false := by simp [zwd]
                                                    have nzwd : (wd != 0) = true := by simp [zwd]
                                                    have HEQ := hide (decide_eq_true (show ((¬ (op = 3 ∨ op = 4 ∨ op = 8 ∨ op = 9)) ∧ var ≠ 0) ∨ (op ≠ 4 ∧ (oth ≠ 0 ∨ wd2 ≠ 0)) ∨ ((¬ (op = 3 ∨ op = 4)) ∧ wd ≠ 0) ∨ ((¬ (op = 1 ∨ op = 2)) ∧ op ≠ 3 ∧ num ≠ 0) ∨ ((¬ (op = 1 ∨ op = 2)) ∧ (cf.length : Int) > 0) by omega) : decide (((¬ (op = 3 ∨ op = 4 ∨ op = 8 ∨ op = 9)) ∧ var ≠ 0) ∨ (op ≠ 4 ∧ (oth ≠ 0 ∨ wd2 ≠ 0)) ∨ ((¬ (op = 3 ∨ op = 4)) ∧ wd ≠ 0) ∨ ((¬ (op = 1 ∨ op = 2)) ∧ op ≠ 3 ∧ num ≠ 0) ∨ ((¬ (op = 1 ∨ op = 2)) ∧ (cf.length : Int) > 0)) = true)
                                                    clear hq hq2 zoth zwd2 zwd
                                                    go_wp2_with (go_at_call 23; refine HSO.out.mono ?_; rintro e w' ⟨rfl, hw'⟩; rw [hw']; clear hw' w')
                                                    go_meet
                                                    case rel => exact ⟨by rw [HEbL.out], by rw [HEbV.out], by rw [HEbW.out], by rw [HEQ.out] <;> first | (congr 1; exact decide_eq_true (by omega)) | (congr 1; exact decide_eq_false (by omega)) | (congr 1; simp; omega), rfl⟩
                                                · have ezwd2 : (wd2 == 0) = false := by simp [zwd2]
                                                  have nzwd2 : (wd2 != 0) = true := by simp [zwd2]
                                                  have HEQ := hide (decide_eq_true (show ((¬ (op = 3 ∨ op = 4 ∨ op = 8 ∨ op = 9)) ∧ var ≠ 0) ∨ (op ≠ 4 ∧ (oth ≠ 0 ∨ wd2 ≠ 0)) ∨ ((¬ (op = 3 ∨ op = 4)) ∧ wd ≠ 0) ∨ ((¬ (op = 1 ∨ op = 2)) ∧ op ≠ 3 ∧ num ≠ 0) ∨ ((¬ (op = 1 ∨ op = 2)) ∧ (cf.length : Int) > 0) by omega) : decide (((¬ (op = 3 ∨ op = 4 ∨ op = 8 ∨ op = 9)) ∧ var ≠ 0) ∨ (op ≠ 4 ∧ (oth ≠ 0 ∨ wd2 ≠ 0)) ∨ ((¬ (op = 3 ∨ op = 4)) ∧ wd ≠ 0) ∨ ((¬ (op = 1 ∨ op = 2)) ∧ op ≠ 3 ∧ num ≠ 0) ∨ ((¬ (op = 1 ∨ op = 2)) ∧ (cf.length : Int) > 0)) = true)
                                                  clear hq hq2 zoth zwd2
                                                  go_wp2_with (go_at_call 23; refine HSO.out.mono ?_; rintro e w' ⟨rfl, hw'⟩; rw [hw']; clear hw' w')
                                                  go_meet
                                                  case rel => exact ⟨by rw [HEbL.out], by rw [HEbV.out], by rw [HEbW.out], by rw [HEQ.out] <;> first | (congr 1; exact decide_eq_true (by omega)) | (congr 1; exact decide_eq_false (by omega)) | (congr 1; simp; omega), rfl⟩
                                              · have ezoth : (oth == 0) = false := by simp [zoth]
                                                have nzoth : (oth != 0) = true := by simp [zoth]
                                                have HEQ := hide (decide_eq_true (show ((¬ (op = 3 ∨ op = 4 ∨ op = 8 ∨ op = 9)) ∧ var ≠ 0) ∨ (op ≠ 4 ∧ (oth ≠ 0 ∨ wd2 ≠ 0)) ∨ ((¬ (op = 3 ∨ op = 4)) ∧ wd ≠ 0) ∨ ((¬ (op = 1 ∨ op = 2)) ∧ op ≠ 3 ∧ num ≠ 0) ∨ ((¬ (op = 1 ∨ op = 2)) ∧ (cf.length : Int) > 0) by omega) : decide (((¬ (op = 3 ∨ op = 4 ∨ op = 8 ∨ op = 9)) ∧ var ≠ 0) ∨ (op ≠ 4 ∧ (oth ≠ 0 ∨ wd2 ≠ 0)) ∨ ((¬ (op = 3 ∨ op = 4)) ∧ wd ≠ 0) ∨ ((¬ (op = 1 ∨ op = 2)) ∧ op ≠ 3 ∧ num ≠ 0) ∨ ((¬ (op = 1 ∨ op = 2)) ∧ (cf.length : Int) > 0)) = true)
                                                clear hq hq2 zoth
                                                go_wp2_with (go_at_call 23; refine HSO.out.mono ?_; rintro e w' ⟨rfl, hw'⟩; rw [hw']; clear hw' w')
                                                go_meet
                                                case rel => exact ⟨by rw [HEbL.out], by rw [HEbV.out], by rw [HEbW.out], by rw [HEQ.out] <;> first | (congr 1; exact decide_eq_true (by omega)) | (congr 1; exact decide_eq_false (by omega)) | (congr 1; simp; omega), rfl⟩
                                          · skip
                                            as_aux_lemma =>
                                              have EbV : bV = false := by rw [← HbV.out]; exact decide_eq_false (show ¬ (op = 3 ∨ op = 4 ∨ op = 8 ∨ op = 9) by omega)
                                              rw [EbV]
                                              have HEbV := hide EbV
                                              clear EbV
                                              have EbW : bW = false := by rw [← HbW.out]; exact decide_eq_false (show ¬ (op = 3 ∨ op = 4) by omega)
                                              rw [EbW]
                                              have HEbW := hide EbW
                                              clear EbW
                                              have EbL : bL = false := by rw [← HbL.out]; exact decide_eq_false (show ¬ (op = 1 ∨ op = 2) by omega)
                                              rw [EbL]
                                              have HEbL := hide EbL
                                              clear EbL
                                              have e4 : (op == 4) = false := by simp; omega
                                              have n4 : (op != 4) = true := by simp; omega
                                              have e3 : (op == 3) = false := by simp; omega
                                              have n3 : (op != 3) = true := by simp; omega
                                              by_cases zvar : var = 0
                                              · have ezvar : (var == 0) = true := by simp [zvar]
                                                have nzvar : (var != 0) = false := by simp [zvar]
                                                by_cases zoth : oth = 0
                                                · have ezoth : (oth == 0) = true := by simp [zoth]
                                                  have nzoth : (oth != 0) = false := by simp [zoth]
                                                  by_cases zwd2 : wd2 = 0
                                                  · have ezwd2 : (wd2 == 0) = true := by simp [zwd2]
                                                    have nzwd2 : (wd2 != 0) = false := by simp [zwd2]
                                                    by_cases zwd : wd = 0
                                                    · have ezwd : (wd == 0) = true := by simp [zwd]
                                                      have nzwd : (wd != 0) = false := by simp [zwd]
                                                      by_cases znum : num = 0
                                                      · have eznum : (num == 0) = true := by simp [znum]
                                                        have nznum : (num != 0) = false := by simp [znum]
                                                        by_cases ql : (cf.length : Int) > 0
                                                        · skip
                                                          have HEQ := hide (decide_eq_true (show ((¬ (op = 3 ∨ op = 4 ∨ op = 8 ∨ op = 9)) ∧ var ≠ 0) ∨ (op ≠ 4 ∧ (oth ≠ 0 ∨ wd2 ≠ 0)) ∨ ((¬ (op = 3 ∨ op = 4)) ∧ wd ≠ 0) ∨ ((¬ (op = 1 ∨ op = 2)) ∧ op ≠ 3 ∧ num ≠ 0) ∨ ((¬ (op = 1 ∨ op = 2)) ∧ (cf.length : Int) > 0) by omega) : decide (((¬ (op = 3 ∨ op = 4 ∨ op = 8 ∨ op = 9)) ∧ var ≠ 0) ∨ (op ≠ 4 ∧ (oth ≠ 0 ∨ wd2 ≠ 0)) ∨ ((¬ (op = 3 ∨ op = 4)) ∧ wd ≠ 0) ∨ ((¬ (op = 1 ∨ op = 2)) ∧ op ≠ 3 ∧ num ≠ 0) ∨ ((¬ (op = 1 ∨ op = 2)) ∧ (cf.length : Int) > 0)) = true)
                                                          clear hq hq2 zvar zoth zwd2 zwd znum
                                                          go_wp2_with (go_at_call 23; refine HSO.out.mono ?_; rintro e w' ⟨rfl, hw'⟩; rw [hw']; clear hw' w')
                                                          go_meet
                                                          case rel => exact ⟨by rw [HEbL.out], by rw [HEbV.out], by rw [HEbW.out], by rw [HEQ.out] <;> first | (congr 1; exact decide_eq_true (by omega)) | (congr 1; exact decide_eq_false (by omega)) | (congr 1; simp; omega), rfl⟩
                                                        · skip
                                                          have HEQ := hide (decide_eq_false (show ¬ (((¬ (op = 3 ∨ op = 4 ∨ op = 8 ∨ op = 9)) ∧ var ≠ 0) ∨ (op ≠ 4 ∧ (oth ≠ 0 ∨ wd2 ≠ 0)) ∨ ((¬ (op = 3 ∨ op = 4)) ∧ wd ≠ 0) ∨ ((¬ (op = 1 ∨ op = 2)) ∧ op ≠ 3 ∧ num ≠ 0) ∨ ((¬ (op = 1 ∨ op = 2)) ∧ (cf.length : Int) > 0)) by omega) : decide (((¬ (op = 3 ∨ op = 4 ∨ op = 8 ∨ op = 9)) ∧ var ≠ 0) ∨ (op ≠ 4 ∧ (oth ≠ 0 ∨ wd2 ≠ 0)) ∨ ((¬ (op = 3 ∨ op = 4)) ∧ wd ≠ 0) ∨ ((¬ (op = 1 ∨ op = 2)) ∧ op ≠ 3 ∧ num ≠ 0) ∨ ((¬ (op = 1 ∨ op = 2)) ∧ (cf.length : Int) > 0)) = false)
                                                          clear hq hq2 zvar zoth zwd2 zwd znum
                                                          go_wp2_with (go_at_call 23; refine HSO.out.mono ?_; rintro e w' ⟨rfl, hw'⟩; rw [hw']; clear hw' w')
                                                          go_meet
                                                          case rel => exact ⟨by rw [HEbL.out], by rw [HEbV.out], by rw [HEbW.out], by rw [HEQ.out] <;> first | (congr 1; exact decide_eq_true (by omega)) | (congr 1; exact decide_eq_false (by omega)) | (congr 1; simp; omega), rfl⟩
                                                      · have eznum : (num == 0) = false := by simp [znum]
                                                        have nznum : (num != 0) = true := by simp [znum]
                                                        have HEQ := hide (decide_eq_true (show ((¬ (op = 3 ∨ op = 4 ∨ op = 8 ∨ op = 9)) ∧ var ≠ 0) ∨ (op ≠ 4 ∧ (oth ≠ 0 ∨ wd2 ≠ 0)) ∨ ((¬ (op = 3 ∨ op = 4)) ∧ wd ≠ 0) ∨ ((¬ (op = 1 ∨ op = 2)) ∧ op ≠ 3 ∧ num ≠ 0) ∨ ((¬ (op = 1 ∨ op = 2)) ∧ (cf.length : Int) > 0) by omega) : decide (((¬ (op = 3 ∨ op = 4 ∨ op = 8 ∨ op = 9)) ∧ var ≠ 0) ∨ (op ≠ 4 ∧ (oth ≠ 0 ∨ wd2 ≠ 0)) ∨ ((¬ (op = 3 ∨ op = 4)) ∧ wd ≠ 0) ∨ ((¬ (op = 1 ∨ op = 2)) ∧ op ≠ 3 ∧ num ≠ 0) ∨ ((¬ (op = 1 ∨ op = 2)) ∧ (cf.length : Int) > 0)) = true)
                                                        clear hq hq2 zvar zoth zwd2 zwd znum
                                                        go_wp2_with (go_at_call 23; refine HSO.out.mono ?_; rintro e w' ⟨rfl, hw'⟩; rw [hw']; clear hw' w')
                                                        go_meet
                                                        case rel => exact ⟨by rw [HEbL.out], by rw [HEbV.out], by rw [HEbW.out], by rw [HEQ.out] <;> first | (congr 1; exact decide_eq_true (by omega)) | (congr 1; exact decide_eq_false (by omega)) | (congr 1; simp; omega), rfl⟩
                                                    · have ezwd : (wd == 0) = false := by simp [zwd]
                                                      have nzwd : (wd != 0) = true := by simp [zwd]
                                                      have HEQ := hide (decide_eq_true (show ((¬ (op = 3 ∨ op = 4 ∨ op = 8 ∨ op = 9)) ∧ var ≠ 0) ∨ (op ≠ 4 ∧ (oth ≠ 0 ∨ wd2 ≠ 0)) ∨ ((¬ (op = 3 ∨ op = 4)) ∧ wd ≠ 0) ∨ ((¬ (op = 1 ∨ op = 2)) ∧ op ≠ 3 ∧ num ≠ 0) ∨ ((¬ (op = 1 ∨ op = 2)) ∧ (cf.length : Int) > 0) by omega) : decide (((¬ (op = 3 ∨ op = 4 ∨ op = 8 ∨ op = 9)) ∧ var ≠ 0) ∨ (op ≠ 4 ∧ (oth ≠ 0 ∨ wd2 ≠ 0)) ∨ ((¬ (op = 3 ∨ op = 4)) ∧ wd ≠ 0) ∨ ((¬ (op = 1 ∨ op = 2)) ∧ op ≠ 3 ∧ num ≠ 0) ∨ ((¬ (op = 1 ∨ op = 2)) ∧ (cf.length : Int) > 0)) = true)
                                                      clear hq hq2 zvar zoth zwd2 zwd
                                                      go_wp2_with (go_at_call 23; refine HSO.out.mono ?_; rintro e w' ⟨rfl, hw'⟩; rw [hw']; clear hw' w')
                                                      go_meet
                                                      case rel => exact ⟨by rw [HEbL.out], by rw [HEbV.out], by rw [HEbW.out], by rw [HEQ.out] <;> first | (congr 1; exact decide_eq_true (by omega)) | (congr 1; exact decide_eq_false (by omega)) | (congr 1; simp; omega), rfl⟩
                                                  · have ezwd2 : (wd2 == 0) = false := by simp [zwd2]
                                                    have nzwd2 : (wd2 != 0) = true := by simp [zwd2]
                                                    have HEQ := hide (decide_eq_true (show ((¬ (op = 3 ∨ op = 4 ∨ op = 8 ∨ op = 9)) ∧ var ≠ 0) ∨ (op ≠ 4 ∧ (oth ≠ 0 ∨ wd2 ≠ 0)) ∨ ((¬ (op = 3 ∨ op = 4)) ∧ wd ≠ 0) ∨ ((¬ (op = 1 ∨ op = 2)) ∧ op ≠ 3 ∧ num ≠ 0) ∨ ((¬ (op = 1 ∨ op = 2)) ∧ (cf.length : Int) > 0) by omega) : decide (((¬ (op = 3 ∨ op = 4 ∨ op = 8 ∨ op = 9)) ∧ var ≠ 0) ∨ (op ≠ 4 ∧ (oth ≠ 0 ∨ wd2 ≠ 0)) ∨ ((¬ (op = 3 ∨ op = 4)) ∧ wd ≠ 0) ∨ ((¬ (op = 1 ∨ op = 2)) ∧ op ≠ 3 ∧ num ≠ 0) ∨ ((¬ (op = 1 ∨ op = 2)) ∧ (cf.length : Int) > 0)) = true)
                                                    clear hq hq2 zvar zoth zwd2
                                                    go_wp2_with (go_at_call 23; refine HSO.out.mono ?_; rintro e w' ⟨rfl, hw'⟩; rw [hw']; clear hw' w')
                                                    go_meet
                                                    case rel => exact ⟨by rw [HEbL.out], by rw [HEbV.out], by rw [HEbW.out], by rw [HEQ.out] <;> first | (congr 1; exact decide_eq_true (by omega)) | (congr 1; exact decide_eq_false (by omega)) | (congr 1; simp; omega), rfl⟩
                                                · have ezoth : (oth == 0) = false := by simp [zoth]
                                                  have nzoth : (oth != 0) = true := by simp [zoth]
                                                  have HEQ := hide (decide_eq_true (show ((¬ (op = 3 ∨ op = 4 ∨ op = 8 ∨ op = 9)) ∧ var ≠ 0) ∨ (op ≠ 4 ∧ (oth ≠ 0 ∨ wd2 ≠ 0)) ∨ ((¬ (op = 3 ∨ op = 4)) ∧ wd ≠ 0) ∨ ((¬ (op = 1 ∨ op = 2)) ∧ op ≠ 3 ∧ num ≠ 0) ∨ ((¬ (op = 1 ∨ op = 2)) ∧ (cf.length : Int) > 0) by omega) : decide (((¬ (op = 3 ∨ op = 4 ∨ op = 8 ∨ op = 9)) ∧ var ≠ 0) ∨ (op ≠ 4 ∧ (oth ≠ 0 ∨ wd2 ≠ 0)) ∨ ((¬ (op = 3 ∨ op = 4)) ∧ wd ≠ 0) ∨ ((¬ (op = 1 ∨ op = 2)) ∧ op ≠ 3 ∧ num ≠ 0) ∨ ((¬ (op = 1 ∨ op = 2)) ∧ (cf.length : Int) > 0)) = true)
                                                  clear hq hq2 zvar zoth
                                                  go_wp2_with (go_at_call 23; refine HSO.out.mono ?_; rintro e w' ⟨rfl, hw'⟩; rw [hw']; clear hw' w')
                                                  go_meet
                                                  case rel => exact ⟨by rw [HEbL.out], by rw [HEbV.out], by rw [HEbW.out], by rw [HEQ.out] <;> first | (congr 1; exact decide_eq_true (by omega)) | (congr 1; exact decide_eq_false (by omega)) | (congr 1; simp; omega), rfl⟩
                                              · have ezvar : (var == 0) = false := by simp [zvar]
                                                have nzvar : (var != 0) = true := by simp [zvar]
                                                have HEQ := hide (decide_eq_true (show ((¬ (op = 3 ∨ op = 4 ∨ op = 8 ∨ op = 9)) ∧ var ≠ 0) ∨ (op ≠ 4 ∧ (oth ≠ 0 ∨ wd2 ≠ 0)) ∨ ((¬ (op = 3 ∨ op = 4)) ∧ wd ≠ 0) ∨ ((¬ (op = 1 ∨ op = 2)) ∧ op ≠ 3 ∧ num ≠ 0) ∨ ((¬ (op = 1 ∨ op = 2)) ∧ (cf.length : Int) > 0) by omega) : decide (((¬ (op = 3 ∨ op = 4 ∨ op = 8 ∨ op = 9)) ∧ var ≠ 0) ∨ (op ≠ 4 ∧ (oth ≠ 0 ∨ wd2 ≠ 0)) ∨ ((¬ (op = 3 ∨ op = 4)) ∧ wd ≠ 0) ∨ ((¬ (op = 1 ∨ op = 2)) ∧ op ≠ 3 ∧ num ≠ 0) ∨ ((¬ (op = 1 ∨ op = 2)) ∧ (cf.length : Int) > 0)) = true)
                                                clear hq hq2 zvar
                                                go_wp2_with (go_at_call 23; refine HSO.out.mono ?_; rintro e w' ⟨rfl, hw'⟩; rw [hw']; clear hw' w')
                                                go_meet
                                                case rel => exact ⟨by rw [HEbL.out], by rw [HEbV.out], by rw [HEbW.out], by rw [HEQ.out] <;> first | (congr 1; exact decide_eq_true (by omega)) | (congr 1; exact decide_eq_false (by omega)) | (congr 1; simp; omega), rfl⟩
                                  case rest =>
                                    obtain ⟨rfl, rfl, rfl, rfl, rfl⟩ := hcut
                                    by_cases g : ((¬ (op = 3 ∨ op = 4 ∨ op = 8 ∨ op = 9)) ∧ var ≠ 0) ∨ (op ≠ 4 ∧ (oth ≠ 0 ∨ wd2 ≠ 0)) ∨ ((¬ (op = 3 ∨ op = 4)) ∧ wd ≠ 0) ∨ ((¬ (op = 1 ∨ op = 2)) ∧ op ≠ 3 ∧ num ≠ 0) ∨ ((¬ (op = 1 ∨ op = 2)) ∧ (cf.length : Int) > 0)
                                    · rw [decide_eq_true g]
                                      as_aux_lemma =>
                                        have kG4 := G4.out
                                        have kG6 := G6.out
                                        have kG8 := G8.out
                                        have kG10 := G10.out
                                        have kG12 := G12.out
                                        have hsz := HSZ.out.1
                                        have HFF := hide (H2.out (by unfold ndRp; omega) (by unfold ndSp; omega))
                                        clear g hsz H1 H2 H0 kG4 kG6 kG8 kG10 kG12
                                        go_wp2
                                        go_ret
                                        exact ⟨by rw [HFF.out]; rfl, HB.out⟩
                                    rw [decide_eq_false g]
                                    have G14 := hide g
                                    clear g
                                    as_aux_lemma =>
                                      go_upto_region 16 with fail
                                      by_cases ql : (cf.length : Int) > 0
                                      · obtain ⟨b1, o1, rfl, hc⟩ := HLC.out (cf.length - 1) (by omega)
                                        generalize cf.getD (cf.length - 1) 0 = z at hc H1 H2 H0
                                        by_cases qz : z = 0
                                        · have eqz : (z == 0) = true := by simp [qz]
                                          have kG4 := G4.out
                                          have kG6 := G6.out
                                          have kG8 := G8.out
                                          have kG10 := G10.out
                                          have kG12 := G12.out
                                          have kG14 := G14.out
                                          have hsz := HSZ.out.1
                                          have HFF := hide (H2.out (by unfold ndRp; omega) (by unfold ndSp; omega))
                                          clear hsz H1 H2 H0 kG4 kG6 kG8 kG10 kG12 kG14
                                          go_wp2
                                          go_ret
                                          exact ⟨by rw [HFF.out]; rfl, HB.out⟩
                                        · have eqz : (z == 0) = false := by simp [qz]
                                          have kG4 := G4.out
                                          have kG6 := G6.out
                                          have kG8 := G8.out
                                          have kG10 := G10.out
                                          have kG12 := G12.out
                                          have kG14 := G14.out
                                          have hsz := HSZ.out.1
                                          have HFF := hide (H0.out (by unfold ndRp; omega) (by unfold ndSp; omega))
                                          clear hsz H1 H2 H0 kG4 kG6 kG8 kG10 kG12 kG14
                                          go_wp2
                                          go_ret
                                          exact ⟨by rw [HFF.out]; rfl, HB.out⟩
                                      · skip
                                        have kG4 := G4.out
                                        have kG6 := G6.out
                                        have kG8 := G8.out
                                        have kG10 := G10.out
                                        have kG12 := G12.out
                                        have kG14 := G14.out
                                        have hsz := HSZ.out.1
                                        have HFF := hide (H0.out (by unfold ndRp; omega) (by unfold ndSp; omega))
                                        clear hsz H1 H2 H0 kG4 kG6 kG8 kG10 kG12 kG14
                                        go_wp2
                                        go_ret
                                        exact ⟨by rw [HFF.out]; rfl, HB.out⟩
end Go.Proofs.YtafbggbdlcfbdaaGreatDoor
