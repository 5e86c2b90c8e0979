/- 2 texts in one. -/
import Derived.Maps.AppendAt
import Derived.Test.YtleebojibobgaaaGreatDoorZEg
import Derived.Test.YtleebojibobgaaaGreatDoorZLp
import Derived.Test.YtleebojibobgaaaGreatDoorBp
import Derived.Test.YtleebojibobgaaaGreatDoorDb
/- The reference's Grown, forward: contract. -/
namespace Go.Proofs.YtleebojibobgaaaGreatDoor
open Go.RowKit

def GrownR (w : World) (d : Nat → Nat → Nat) (m : Nat) (L : List Nat) (e : Ending) (w' : World) : Prop :=
  (L.length ≤ 2000 → ∃ bs cs an cn, e = .returned (.tuple #[.slice (some ⟨bs, 0, none⟩) L.length cs, .slice an L.length cn, .bool true]) ∧ QueG w' bs L.length cs L ∧ Sl2 w' an L.length (gN d m L) ∧ Below w.heap.size w w') ∧
  (2000 < L.length → e = .returned (.tuple #[.slice none 0 0, .slice none 0 0, .bool false]) ∧ Below w.heap.size w w')
theorem pre_idx {a b : List Nat} (h : a <+: b) {x : Nat} (hx : x ∈ a) : b.idxOf x = a.idxOf x := by
  obtain ⟨t, rfl⟩ := h
  rw [List.idxOf_append, if_pos hx]
theorem idx_new {a : List Nat} {x : Nat} (hx : ¬ x ∈ a) : (a ++ [x]).idxOf x = a.length := by
  rw [List.idxOf_append, if_neg hx]
  simp
/-- The row of the i-th set. -/
def rowI (d : Nat → Nat → Nat) (m : Nat) (L : List Nat) (i : Nat) : List Int := (List.range m).map fun l => ((L.idxOf (d (L.getD i 0) l) : Nat) : Int)
theorem rowI_len (d : Nat → Nat → Nat) (m : Nat) (L : List Nat) (i : Nat) : (rowI d m L i).length = m := by simp [rowI]
theorem rowI_take {d : Nat → Nat → Nat} {m : Nat} {L : List Nat} {i l : Nat} (hl : l < m) : (rowI d m L i).take (l + 1) = (rowI d m L i).take l ++ [((L.idxOf (d (L.getD i 0) l) : Nat) : Int)] := by
  rw [List.take_succ_eq_append_getElem (by rw [rowI_len]; exact hl)]
  simp [rowI]
theorem outG_succ {d : Nat → Nat → Nat} {m f i : Nat} (h : i < (outG d m f i).length) : outG d m f (i + 1) = rowG d (outG d m f i) ((outG d m f i).getD i 0) m := by
  conv => lhs; unfold outG
  rw [if_pos h]
theorem rowG_le {d : Nat → Nat → Nat} {m f i l : Nat} (h : i < (outG d m f i).length) (hi : i < 2000) (hl : l ≤ m) : rowG d (outG d m f i) ((outG d m f i).getD i 0) l <+: outG d m f 2000 := by
  refine List.IsPrefix.trans ?_ (outG_le (show i + 1 ≤ 2000 by omega))
  rw [outG_succ h]
  have := rowG_pre d (outG d m f i) ((outG d m f i).getD i 0) l (m - l)
  rwa [Nat.add_sub_cancel' hl] at this
theorem rowI_wf {d : Nat → Nat → Nat} {m : Nat} {L : List Nat} {i : Nat} (hL : L.length ≤ 100000000) : ∀ x ∈ rowI d m L i, (Lit.int .i64 x).wf = true := by
  intro x hx
  obtain ⟨l, _, rfl⟩ := List.mem_map.1 hx
  have := List.idxOf_le_length (a := d (L.getD i 0) l) (l := L)
  exact WalkArith.wf_i64 (by omega)

theorem rowG_len (d : Nat → Nat → Nat) (L : List Nat) (x l : Nat) : (rowG d L x l).length ≤ L.length + l := by
  induction l with
  | zero => exact Nat.le_refl _
  | succ l ih =>
    have := addG_len (rowG d L x l) (d x l)
    show (addG (rowG d L x l) (d x l)).length ≤ _
    omega
theorem outG_len (d : Nat → Nat → Nat) (m f i : Nat) : (outG d m f i).length ≤ 1 + i * m := by
  induction i with
  | zero => simp [outG]
  | succ i ih =>
    have := rowG_len d (outG d m f i) ((outG d m f i).getD i 0) m
    have e : (i + 1) * m = i * m + m := Nat.succ_mul i m
    conv => lhs; unfold outG
    split <;> omega

set_option maxHeartbeats 32000000 in
set_option maxRecDepth 8000 in
theorem grown_any (b t : Int) (a : Option Addr) (n cap : Nat) (a' : Option Addr) (k' cap' : Nat) (m : Nat) (N : List (List Int)) (F : Nat) (ar : Option Addr) (lr cr : Nat) (read : List (List Int)) (w : World) (hs : Sl2 w a n N) (hG : GoodN m n N) (hn : n ≤ 80) (hr : Sl2 w ar lr read) (hro : ∀ l, l < lr → ∀ x ∈ read.getD l [], 0 ≤ x ∧ x < (m : Int)) (hrl : ∀ l, l < lr → (read.getD l []).length ≤ 1000) (hF : F < 2 ^ n) (h1 : 1 ≤ lr) (h36 : lr ≤ 36) :
    Calls Tryz.prog 13 #[.agg #[.int .i64 b, .int .i64 t, .slice a n cap, .slice a' k' cap'], .agg #[.int .i64 (loS F), .int .i64 (hiS F)], .slice ar lr cr, .bool false] w (GrownR w (dM N n read) lr (outG (dM N n read) lr F 2000)) := by
  have hB0 := below_two w (.cells #[.int .i64 b, .int .i64 t, .slice a n cap, .slice a' k' cap'] 25) (.cells #[.int .i64 (loS F), .int .i64 (hiS F)] 48)
  have HX1 := hide (heap_alloc2_fst w (.cells #[.int .i64 b, .int .i64 t, .slice a n cap, .slice a' k' cap'] 25) (.cells #[.int .i64 (loS F), .int .i64 (hiS F)] 48))
  have HX2 := hide (heap_alloc2_snd w (.cells #[.int .i64 b, .int .i64 t, .slice a n cap, .slice a' k' cap'] 25) (.cells #[.int .i64 (loS F), .int .i64 (hiS F)] 48))
  have HS := hide (sl2_below hs hB0)
  have HR := hide (sl2_below hr hB0)
  have HPUT := hide (fun M s W h1 h2 => put_any M s W h1 h2)
  have HIN := hide (fun M s W h1 h2 => in_any M s W h1 h2)
  unfold GivesSet at HPUT
  have H80 : Hid (∀ M, M < 2 ^ n → M < 2 ^ 80) := fun M h => Nat.lt_of_lt_of_le h (Nat.pow_le_pow_right (by decide) hn)
  have HOLT : Hid (∀ i, ∀ x ∈ outG (dM N n read) lr F i, x < 2 ^ n) := fun i x hx => by
    obtain ⟨u, _, rfl⟩ := outG_reach hx
    induction u using list_snoc_ind with
    | h0 => exact hF
    | h1 u y _ => rw [runG_snoc]; exact stepM_lt _ _ _ _
  have HG := hide hG
  have HRO := hide hro
  have HRL := hide hrl
  obtain ⟨K, hK⟩ : ∃ K, K = 2 ^ 80 := ⟨_, rfl⟩
  rw [← hK] at H80 HPUT HIN
  clear hK
  have HRLEN := hide hr.1
  have HD0 : Hid (∀ M l, dM N n read M l = stepM N n (read.getD l []) M) := fun _ _ => rfl
  have HOP := hide (outG_pos (dM N n read) lr F)
  have HOS := hide (fun i h => @outG_succ (dM N n read) lr F i h)
  have HRP := hide (fun i l h1 h2 h3 => @rowG_le (dM N n read) lr F i l h1 h2 h3)
  have HOT := hide (fun i j h => @outG_stay (dM N n read) lr F i h j)
  have HO0 : Hid (outG (dM N n read) lr F 0 = [F]) := rfl
  have HOLN := hide (outG_len (dM N n read) lr F)
  have HOLE := hide (fun i k (h : i ≤ k) => @outG_le (dM N n read) lr F i k h)
  generalize hO : outG (dM N n read) lr F = O at HOLT HOP HOS HRP HOT HO0 HOLE HOLN ⊢
  clear hO
  obtain ⟨LF, hLF⟩ : ∃ LF, LF = O 2000 := ⟨_, rfl⟩
  rw [← hLF] at HRP ⊢
  have HLF := hide hLF
  have HLFB : Hid (LF.length ≤ 100000000) := by
    have h1 := HOLN.out 2000
    have h2 : 2000 * lr ≤ 2000 * 36 := Nat.mul_le_mul_left _ h36
    rw [← hLF] at h1
    show LF.length ≤ 100000000
    omega
  have HDT : Hid (∀ i l, i < (O i).length → i < 2000 → l < lr → LF.getD i 0 = (O i).getD i 0) := fun i l h1 h2 _ => by
    rw [HLF.out]
    exact pre_getN (HOLE.out i 2000 (by omega)) h1
  generalize dM N n read = d at HD0 HOS HRP ⊢
  generalize hW0 : (w.alloc (.cells #[.int .i64 b, .int .i64 t, .slice a n cap, .slice a' k' cap'] 25)).alloc (.cells #[.int .i64 (loS F), .int .i64 (hiS F)] 48) = wb at hB0 HX1 HX2 HS HR
  have HB0 := hide hB0
  have HSZ0 : Hid (wb.heap.size = w.heap.size + 2) := by show _ = _; rw [← hW0]; simp
  have HQ0 : Hid (QueG (wb.alloc (.cells #[.int .i64 (loS F), .int .i64 (hiS F)] 48)) wb.heap.size 1 1 [F]) := ⟨rfl, by decide, by decide, #[.int .i64 (loS F), .int .i64 (hiS F)], heap_alloc_last _ _, by simp, fun q hq => by
    rcases (show q = 0 ∨ q = 1 by omega) with rfl | rfl
    · simp [setC]
    · simp [setC]⟩
  have HB3 := hide ((Below.refl wb.heap.size wb).alloc (Nat.le_refl _) (.cells #[.int .i64 (loS F), .int .i64 (hiS F)] 48))
  obtain ⟨⟨p0, p1⟩, -⟩ := box2_cells HX2.out
  obtain ⟨i0, hi0, hz0, hz1, hz2⟩ := info_parts info3
  obtain ⟨j0, hj0, hy0, hy1, hy2⟩ := info_parts infoS2
  clear hs hr hro hrl hG hB0 hF hLF
  go_enter Tryz.func13, Tryz.ntmps13
  go_wp2
  clear hW0 p0 p1
  generalize wb.alloc (.cells #[.int .i64 (loS F), .int .i64 (hiS F)] 48) = wA at HQ0 HB3 ⊢
  go_loopw [11, 12, 13] (fun v v' iv wx => ∃ i bq cq : Nat, iv = .int .i64 i ∧ i ≤ (O i).length ∧ (O i).length ≤ 2000 ∧ v = .slice (some ⟨bq, 0, none⟩) (O i).length cq ∧ QueG wx bq (O i).length cq (O i) ∧ RwX wb (rowI d lr LF) i v' [bq] wx) (fun _ _ iv _ => 2001 - (intOf iv).toNat)
  case atStart => exact ⟨0, wb.heap.size, 1, rfl, Nat.zero_le _, by rw [HO0.out]; simp, by rw [HO0.out]; rfl, by rw [HO0.out]; exact HQ0.out, rwX_nil _ _ _ _ HB3.out (by simp)⟩
  case round =>
    obtain ⟨i, bq, cq, rfl, hil, hi2, rfl, hqu, hrw⟩ := hrel
    have HQU := hide hqu
    have HRW := hide hrw
    clear hqu hrw
    by_cases hlt : i < (O i).length
    · have hlti : (i : Int) < ((O i).length : Int) := by omega
      have hi3 : i < 2000 := by omega
      have HSU := hide (HOS.out i hlt)
      have HRPi := hide (fun l h => HRP.out i l hlt hi3 h)
      have HSI : Hid ((O i).getD i 0 < 2 ^ n) := HOLT.out i _ (getN_mem hlt)
      have HGI : Hid (GrI wb wr bq (O i) [] (.slice (some ⟨bq, 0, none⟩) (O i).length cq) (.slice none 0 0) wr bq cq) := ⟨rfl, HQU.out, .inl rfl, World.ownsRow_nil _ _ _ _, by simp [Value.ownBlock], fun _ _ _ => rfl, HRW.out.2.1, Nat.le_refl _, ⟨HRW.out.2.2 bq (by simp), HRW.out.2.1.size⟩⟩
      have HLFi := hide (HDT.out i)
      have HRI : Hid (∀ l, l < lr → (rowI d lr LF i).take (l + 1) = (rowI d lr LF i).take l ++ [((LF.idxOf (d ((O i).getD i 0) l) : Nat) : Int)]) := fun l hl => by
        rw [rowI_take hl, HLFi.out l hlt hi3 hl]
      obtain ⟨S, hS⟩ : ∃ S, S = (O i).getD i 0 := ⟨_, rfl⟩
      rw [← hS] at HSU HRPi HSI HRI
      have HS0 := hide hS
      clear hS
      go_wp2
      obtain ⟨wq, hwq⟩ : ∃ wq : World, wq = wr := ⟨_, rfl⟩
      rw [← hwq] at HQU HRW HGI ⊢
      clear hwq wr
      go_loopw [11, 14, 15] (fun v v' lv wx => ∃ l b' cp : Nat, l ≤ lr ∧ lv = .int .i64 l ∧ GrI wb wq bq (rowG d (O i) S l) ((rowI d lr LF i).take l) v v' wx b' cp ∧ (rowG d (O i) S l).length ≤ 2000) (fun _ _ lv _ => lr - (intOf lv).toNat)
      case atStart => exact ⟨0, bq, cq, by omega, rfl, HGI.out, hi2⟩
      case round =>
        obtain ⟨l, b', cp, hll, rfl, hgi, hg2⟩ := hrel
        have HGL := hide hgi
        obtain rfl := hgi.val
        clear hgi
        by_cases hlr : l < lr
        · have hlri : (l : Int) < (lr : Int) := by omega
          have HDS := hide (HD0.out S l)
          have HROl := hide (HRO.out l hlr)
          have HRLl := hide (HRL.out l hlr)
          obtain ⟨ls, hls⟩ : ∃ ls, ls = read.getD l [] := ⟨_, rfl⟩
          have HLSd := hide hls
          rw [← hls] at HDS HROl HRLl
          clear hls
          have hll2 := HRLl.out
          have HZ0 : Hid ((wr.alloc (.cells #[.int .i64 0, .int .i64 0] 48)).heap[wr.heap.size]? = some (.cells #[.int .i64 (loS (stM N n ls S 0 0)), .int .i64 (hiS (stM N n ls S 0 0))] 48 (0, 0))) := by rw [stM_zero]; exact heap_alloc_last _ _
          have HBZ := hide ((Below.refl wr.heap.size wr).alloc (Nat.le_refl _) (.cells #[.int .i64 0, .int .i64 0] 48))
          go_wp2
          generalize wr.alloc (.cells #[.int .i64 0, .int .i64 0] 48) = wZ at HZ0 HBZ ⊢
          obtain ⟨wz, hwz⟩ : ∃ wz : World, wz = wr := ⟨_, rfl⟩
          rw [← hwz] at HGL HZ0 HBZ ⊢
          clear hwz wr
          have HBz := hide HGL.out.below
          have HQz := hide HGL.out.que
          have HQPRE : Hid (O i <+: rowG d (O i) S l) := rowG_from _ _ _ _
          go_loopw [17] (fun sv wx => ∃ s : Nat, s ≤ n ∧ sv = .int .i64 s ∧ wx.heap[wz.heap.size]? = some (.cells #[.int .i64 (loS (stM N n ls S s 0)), .int .i64 (hiS (stM N n ls S s 0))] 48 (0, 0)) ∧ Below wz.heap.size wz wx) (fun sv _ => n - (intOf sv).toNat)
          case atStart => exact ⟨0, by omega, rfl, HZ0.out, HBZ.out⟩
          case round =>
            obtain ⟨s, hsn, rfl, hox, hbx⟩ := hrel
            have HOX := hide hox
            have HBX := hide hbx
            have HBB := hide (below_step HBz.out hbx)
            obtain ⟨⟨p0, p1, p2, p3⟩, -⟩ := box_cells ((HBB.out.block _ (Array.getElem?_eq_some_iff.1 HX1.out).1).trans HX1.out)
            clear hox hbx
            by_cases hlt2 : s < n
            · have hlti2 : (s : Int) < (n : Int) := by omega
              go_wp2
              clear p0 p1 p2 p3
              go_loopw [18] (fun kv wx => ∃ k : Nat, k ≤ ls.length ∧ kv = .int .i64 k ∧ wx.heap[wz.heap.size]? = some (.cells #[.int .i64 (loS (stM N n ls S s k)), .int .i64 (hiS (stM N n ls S s k))] 48 (0, 0)) ∧ Below wz.heap.size wz wx) (fun kv _ => ls.length - (intOf kv).toNat)
              case atStart => exact ⟨0, by omega, rfl, HOX.out, HBX.out⟩
              case round =>
                obtain ⟨k, hkl, rfl, hox, hbx⟩ := hrel
                have HOX2 := hide hox
                have HBX2 := hide hbx
                have HBB2 := hide (below_step HBz.out hbx)
                obtain ⟨br, or, al, cl, rfl, hcr, hsr⟩ := sl2_cell (sl2_below HR.out HBB2.out) l hlr
                rw [← HLSd.out] at hcr hsr
                have HSR := hide hsr
                clear hox hbx hsr
                by_cases hkl2 : k < ls.length
                · have hkli : (k : Int) < (ls.length : Int) := by omega
                  obtain ⟨⟨p0, p1, p2, p3⟩, -⟩ := box_cells ((HBB2.out.block _ (Array.getElem?_eq_some_iff.1 HX1.out).1).trans HX1.out)
                  obtain ⟨⟨o0, o1⟩, of⟩ := box2_cells HOX2.out
                  obtain ⟨bn, on, an, cn, rfl, hcn, hsn2⟩ := sl2_cell (sl2_below HS.out HBB2.out) s hlt2
                  rw [(HG.out.2.2.2.2.2 s hlt2).1] at hcn hsn2
                  obtain ⟨bl, ol, rfl, hcl⟩ := sl_cell HSR.out k hkl2
                  have hx := HROl.out (ls.getD k 0) (by rw [getD_at _ k hkl2]; exact List.getElem_mem _)
                  have HPT := hide (fun h1 h2 => @stM_put N n ls S s k hkl2 h1 h2)
                  have hst : stepL N s (ls.getD k 0) = nxt N s (ls.getD k 0).toNat := rfl
                  rw [hst] at HPT
                  obtain ⟨x, hxe⟩ : ∃ x : Nat, ls.getD k 0 = (x : Int) := ⟨(ls.getD k 0).toNat, by omega⟩
                  rw [hxe] at hcl hx HPT
                  rw [Int.toNat_natCast] at HPT
                  have hxm : x < m := by omega
                  have hxi : (x : Int) < (m : Int) := by omega
                  obtain ⟨b1, o1', rfl, hcx⟩ := sl_cell hsn2 x hxm
                  obtain ⟨hy1, hy2⟩ := nxt_cell HG.out hlt2 hxm
                  rw [hy2] at hcx
                  have HQC := hide (queG_at (queG_kept HQz.out (HBX2.out.block _ (queG_lt HQz.out))) i (Nat.lt_of_lt_of_le hlt HQPRE.out.length_le))
                  rw [pre_getN HQPRE.out hlt, ← HS0.out] at HQC
                  obtain ⟨c0, c1⟩ := HQC.out
                  have HIC := hide (fun W => HIN.out S s W (H80.out S HSI.out) (by omega))
                  have HPC := hide (fun W => HPUT.out (stM N n ls S s k) (nxt N s x) W (H80.out _ (stM_lt _ _ _ _ _ _)) (by omega))
                  have hilr : (i : Int) < ((rowG d (O i) S l).length : Int) := by have := HQPRE.out.length_le; omega
                  generalize nxt N s x = y at hcx hy1 HPC HPT
                  clear hsn2 hst hxe hx hy2 HQC
                  go_wp2
                  go_quiet (fail)
                  have HBD := hide (below_drewN (Below.refl wr.heap.size wr) nq)
                  have d0 : (wr.drewN nq).cell? ⟨b', i * 2, none⟩ = some (.int .i64 (loS S)) := c0
                  have d1 : (wr.drewN nq).cell? ⟨b', i * 2 + 1, none⟩ = some (.int .i64 (hiS S)) := c1
                  have HOX3 : Hid ((wr.drewN nq).heap[wz.heap.size]? = some (.cells #[.int .i64 (loS (stM N n ls S s k)), .int .i64 (hiS (stM N n ls S s k))] 48 (0, 0))) := HOX2.out
                  have HBX3 := hide (below_step HBX2.out HBD.out)
                  clear c0 c1 o0 o1 of p0 p1 p2 p3 hcn hcl hcx hcr HBX2 HOX2 HBB2 HBD HSR
                  generalize wr.drewN nq = wd at d0 d1 HOX3 HBX3 ⊢
                  cases hm : S.testBit s with
                  | false =>
                    rw [hm] at HIC
                    have HEQ := hide (@stM_skip N n ls S s hm k (k + 1))
                    clear hm
                    go_wp2_with (go_at_call 24; refine (HIC.out _).mono ?_; rintro e w2 ⟨rfl, hb2⟩; have HB2 := hide hb2; clear hb2)
                    go_roundw
                    case rel => exact ⟨k + 1, by omega, by go_num, by rw [← HEQ.out]; exact (HB2.out.block _ (Array.getElem?_eq_some_iff.1 HOX3.out).1).trans HOX3.out, below_step HBX3.out HB2.out⟩
                    case measure => simp [intOf]; omega
                  | true =>
                    rw [hm] at HIC
                    have HEQ := hide (HPT.out hm hy1)
                    clear hm
                    go_wp2_with (first
                      | (go_at_call 24; refine (HIC.out _).mono ?_; rintro e w2 ⟨rfl, hb2⟩; have HB2 := hide hb2; have hox4 := (hb2.block _ (Array.getElem?_eq_some_iff.1 HOX3.out).1).trans HOX3.out; have HOX4 := hide hox4; obtain ⟨⟨e0, e1⟩, ef⟩ := box2_cells hox4; clear hb2 hox4)
                      | (go_at_call 25; refine (HPC.out _).mono ?_; rintro e w4 ⟨rfl, hb4⟩; have HB4 := hide hb4; have hox5 := (hb4.block _ (Array.getElem?_eq_some_iff.1 HOX4.out).1).trans HOX4.out; have HOX5 := hide hox5; obtain ⟨⟨f0, f1⟩, ff⟩ := box2_cells hox5; clear hb4 hox5))
                    obtain ⟨⟨hset, -, -⟩, hbel⟩ := box2_set (v0 := .int .i64 (loS (putM (stM N n ls S s k) y))) (v1 := .int .i64 (hiS (putM (stM N n ls S s k) y))) HOX5.out rfl
                    rw [HEQ.out] at hset hbel ⊢
                    have HSET := hide hset
                    have HBX6 := hide (hbel _ _ (below_step (below_step HBX3.out HB2.out) HB4.out) (Nat.le_refl _))
                    clear hset hbel
                    go_roundw
                    case rel => exact ⟨k + 1, by omega, by go_num, HSET.out, HBX6.out⟩
                    case measure => simp [intOf]; omega
                · have hkli : ¬ (k : Int) < (ls.length : Int) := by omega
                  obtain rfl : k = ls.length := by omega
                  have HOX3 := hide HOX2.out
                  rw [stM_row] at HOX3
                  go_wp2
                  go_roundw
                  case rel => exact ⟨s + 1, by omega, by go_num, HOX3.out, HBX2.out⟩
                  case measure => simp [intOf]; omega
            · have hlti2 : ¬ (s : Int) < (n : Int) := by omega
              obtain rfl : n = s := by omega
              have HOXe := hide HOX.out
              rw [stM_end, ← HDS.out] at HOXe
              obtain ⟨⟨o0, o1⟩, -⟩ := box2_cells HOXe.out
              have HGW := hide (grI_below HGL.out HBX.out)
              have HFI := hide (find_any b' (rowG d (O i) S l).length cp (rowG d (O i) S l) (d S l) wr HGW.out.que (by omega))
              have HRT := hide (HRI.out l hlr)
              have HPL := hide (HRPi.out l (by omega))
              have HPS := hide (HRPi.out (l + 1) (by omega))
              have hsuc : rowG d (O i) S (l + 1) = addG (rowG d (O i) S l) (d S l) := rfl
              rw [hsuc] at HPS
              have HSUC := hide hsuc
              have HTL : Hid (((rowI d lr LF i).take l).length = l) := by show _ = _; rw [List.length_take, rowI_len]; omega
              clear hsuc
              by_cases hmem : d S l ∈ rowG d (O i) S l
              · have hfi : findI (rowG d (O i) S l) (d S l) = (((rowG d (O i) S l).idxOf (d S l) : Nat) : Int) := by unfold findI; rw [if_pos hmem]
                have HIX := hide (pre_idx HPL.out hmem)
                rw [hfi, ← HIX.out] at HFI
                have HOLD := hide (addG_old hmem)
                clear hfi hmem HIX
                generalize LF.idxOf (d S l) = ix at HFI HRT
                have hixn : ¬ ((ix : Int) < 0) := by omega
                have hixd : decide ((ix : Int) < 0) = false := by simp
                go_wp2_with (first
                  | (go_at_call 26; refine HFI.out.mono ?_; rintro e w5 ⟨rfl, hb5⟩; have HG5 := hide (grI_below HGW.out hb5); have HOWN := hide HG5.out.row_; rw [HTL.out] at HOWN; have HSZ := hide HG5.out.size; clear hb5)
                  | (at_builtin; refine wpList_append_own_at _ rfl _ _ 42 rfl wq.heap.size 3 i0 (.int .i64 0) 1 8 Tryz.underlying42 hi0 hz0 hz1 hz2 rfl (by decide) _ l (((rowI d lr LF i).take l).map (Value.int .i64)) rfl (HOWN.out.alloc _) ⟨w5.heap.size, 0, none⟩ 1 1 [.int .i64 (ix : Int)] rfl rfl (one_new _ _ _) (fun u hu => by simp at hu; subst hu; rfl) (by unfold maxLen; omega) (by omega) (by have := HSZ.out; simp; omega) ?_; intro v6 w6 hown6 hgrow6 _ hat6; have HG6 := hide (grI_row HG5.out (by rw [HTL.out]; exact hown6) hgrow6 hat6); clear hown6 hgrow6 hat6))
                rw [← HRT.out] at HG6
                have HG7 : Hid (GrI wb wq bq (rowG d (O i) S (l + 1)) ((rowI d lr LF i).take (l + 1)) (.slice (some ⟨b', 0, none⟩) (rowG d (O i) S l).length cp) v6 w6 b' cp ∧ (rowG d (O i) S (l + 1)).length ≤ 2000) := by
                  have e : rowG d (O i) S (l + 1) = rowG d (O i) S l := by rw [HSUC.out, HOLD.out]
                  rw [e]
                  exact ⟨HG6.out, hg2⟩
                go_roundw
                case rel => exact ⟨l + 1, b', cp, by omega, by go_num, HG7.out⟩
                case measure => simp [intOf]; omega
              · have hfi : findI (rowG d (O i) S l) (d S l) = -1 := by unfold findI; rw [if_neg hmem]
                rw [hfi] at HFI
                have HNEW := hide (addG_new hmem)
                rw [HNEW.out] at HPS
                have HIX := hide (pre_idx HPS.out (x := d S l) (by simp))
                rw [idx_new hmem] at HIX
                rw [HIX.out] at HRT
                clear hfi hmem
                by_cases h20 : (rowG d (O i) S l).length = 2000
                · have h20i : (((rowG d (O i) S l).length : Int) == 2000) = true := by simp [h20]
                  have HBIG : Hid (2000 < LF.length) := by
                    have := HPS.out.length_le
                    rw [List.length_append, h20] at this
                    simp at this
                    show 2000 < LF.length
                    omega
                  clear h20
                  go_wp2_with (go_at_call 26; refine HFI.out.mono ?_; rintro e w5 ⟨rfl, hb5⟩; have HBE := hide (below_step HB0.out (grI_below HGW.out hb5).below); clear hb5)
                  exact bodyPost_ret (v := .tuple #[.slice none 0 0, .slice none 0 0, .bool false]) (by simp [results, Tryz.results13, go_sem]) rfl ⟨fun h => by have := HBIG.out; omega, fun _ => ⟨rfl, HBE.out⟩⟩
                · have h20i : (((rowG d (O i) S l).length : Int) == 2000) = false := by simp; omega
                  have HG3 : Hid ((rowG d (O i) S l).length < 2000) := by show _ < _; omega
                  clear h20
                  go_wp2_with (first
                    | (go_at_call 26; refine HFI.out.mono ?_; rintro e w5 ⟨rfl, hb5⟩; have HG5 := hide (grI_below HGW.out hb5); have hox5 := (hb5.block _ (Array.getElem?_eq_some_iff.1 HOXe.out).1).trans HOXe.out; obtain ⟨⟨e0, e1⟩, -⟩ := box2_cells hox5; clear hb5 hox5)
                    | (at_builtin; have hown0 := HOWN; clear hown0; refine wpList_append_own_at _ rfl _ _ 42 rfl wq.heap.size 3 i0 (.int .i64 0) 1 8 Tryz.underlying42 hi0 hz0 hz1 hz2 rfl (by decide) _ l (((rowI d lr LF i).take l).map (Value.int .i64)) rfl (HOWN.out.alloc _) ⟨w6.heap.size, 0, none⟩ 1 1 [.int .i64 ((rowG d (O i) S l).length : Int)] rfl rfl (one_new _ _ _) (fun u hu => by simp at hu; subst hu; rfl) (by unfold maxLen; omega) (by omega) (by have := HSZ.out; simp; omega) ?_; intro v7 w7 hown7 hgrow7 _ hat7; have HG7 := hide (grI_row HG6.out (by rw [HTL.out]; exact hown7) hgrow7 hat7); clear hown7 hgrow7 hat7)
                    | (at_builtin; refine wpList_append_queG _ rfl _ _ rfl b' (rowG d (O i) S l).length cp (rowG d (O i) S l) rfl (queG_kept HG5.out.que (Below.heap_alloc _ _ _ (queG_lt HG5.out.que))) ⟨w5.heap.size, 0, none⟩ (d S l) (loS (d S l)) (hiS (d S l)) rfl rfl rfl (two_new _ _ _ _) (by omega) ?_; intro b6 cap6 w6 hq6 hg6 hb6; have HG6 := hide (grI_set HG5.out hq6 hg6 hb6); have HOWN := hide HG6.out.row_; rw [HTL.out] at HOWN; have HSZ := hide HG6.out.size; clear hq6 hg6 hb6))
                  rw [← HRT.out] at HG7
                  have HG8 : Hid (GrI wb wq bq (rowG d (O i) S (l + 1)) ((rowI d lr LF i).take (l + 1)) (.slice (some ⟨b6, 0, none⟩) ((rowG d (O i) S l).length + 1) cap6) v7 w7 b6 cap6 ∧ (rowG d (O i) S (l + 1)).length ≤ 2000) := by
                    have e : rowG d (O i) S (l + 1) = rowG d (O i) S l ++ [d S l] := by rw [HSUC.out, HNEW.out]
                    rw [e]
                    exact ⟨HG7.out, by rw [List.length_append, List.length_singleton]; have := HG3.out; omega⟩
                  go_roundw
                  case rel => exact ⟨l + 1, b6, cap6, by omega, by go_num, HG8.out⟩
                  case measure => simp [intOf]; omega
        · have hlri : ¬ (l : Int) < (lr : Int) := by omega
          obtain rfl : lr = l := by omega
          have HFULL : Hid ((rowI d lr LF i).take lr = rowI d lr LF i) := List.take_of_length_le (by rw [rowI_len]; exact Nat.le_refl _)
          rw [HFULL.out, ← HSU.out] at HGL
          rw [← HSU.out] at hg2 ⊢
          have HB4 : Hid (b' < wr.heap.size ∧ bq < wq.heap.size) := ⟨queG_lt HGL.out.que, queG_lt HQU.out⟩
          have hown := HGL.out.row_
          rw [rowI_len] at hown
          obtain ⟨hw0, hw1⟩ := hown
          rcases hw1 with ⟨rfl, hn0⟩ | ⟨g, cg, cur, rfl, hg, hh, hc, hcm, hcs, ht⟩
          · omega
          have hsg := sl_of_owns (rowI_len d lr LF i) (by unfold maxLen; omega) (rowI_wf HLFB.out) (by have := HGL.out.row_; rwa [rowI_len] at this)
          obtain ⟨ag, cg2, eg, hsg, -⟩ := hsg
          cases eg
          have hat := HGL.out.at_
          have hfar := HGL.out.far
          have hgb : g ≠ b' := fun e => hfar (by simp [Value.ownBlock, e])
          have hbb : wb.heap.size ≤ b' := by
            have h1 := HRW.out.2.2 bq (by simp)
            have h2 := HRW.out.2.1.size
            omega
          have HRW2 : Hid (RwX wb (rowI d lr LF) i u12 [bq, b'] wq) := rwX_turn HRW.out (fun _ _ _ => rfl) (fun x hx => by
            simp at hx
            rcases hx with rfl | rfl
            · exact .inl (by simp)
            · rcases hat with rfl | h
              · exact .inl (by simp)
              · exact .inr h) HRW.out.2.1 (fun x hx => by
            simp at hx
            rcases hx with rfl | rfl
            · exact HRW.out.2.2 _ (by simp)
            · exact hbb)
          have HPU := hide (@rwX_push wb (rowI d lr LF) i u12 [bq, b'] wq wr g cg HRW2.out (fun x hx hne => HGL.out.keep x hx (fun e => hne (by simp [e]))) HGL.out.size HGL.out.below (by rw [rowI_len]; exact hsg) hg (by
            have h1 := HB4.out
            simp
            omega) (fun x hx => by
            have h1 := HB4.out
            have h2 := HGL.out.size
            simp at hx
            omega))
          rw [rowI_len] at HPU
          obtain ⟨vals, c1, c2, c3⟩ := HPU.out
          have HOWN := hide c1
          have HNX := hide c3
          have HLE2 := hide (HOLE.out i (i + 1) (by omega)).length_le
          have HQW := hide HGL.out.que
          have HSZ := hide HGL.out.below.size
          have HBB := hide hbb
          clear c1 c2 c3 HPU hw0 hh hc hcm hcs ht hsg hat hfar hgb hbb
          go_wp2_with (at_builtin; refine wpList_append_lies _ rfl _ _ 22 rfl wb.heap.size 42 j0 (.slice none 0 0) 1 24 Tryz.underlying22 hj0 hy0 hy1 hy2 rfl (by decide) u12 i vals rfl (HOWN.out.alloc _) ⟨wr.heap.size, 0, none⟩ 1 1 [.slice (some ⟨g, 0, none⟩) lr cg] rfl rfl (one_new _ _ _) (fun u hu => by simp at hu; subst hu; rfl) (by omega) (by unfold maxLen; omega) (by omega) (by have := HSZ.out; simp; omega) (wr.heap.size + 1) (by simp) ?_; intro g' cg' w3 hown3 hgrow3 hat3 hlt3; have HN3 := hide (HNX.out w3 _ g' cg' hown3 hgrow3 hat3); clear hown3 hgrow3 hat3)
          have HRE : Hid (RwX wb (rowI d lr LF) (i + 1) (.slice (some ⟨g', 0, none⟩) (i + 1) cg') [b'] w3) := rwX_turn HN3.out.1 (fun _ _ _ => rfl) (fun x hx => by simp at hx; subst hx; exact .inl (by simp)) HN3.out.1.2.1 (fun x hx => by simp at hx; subst hx; exact HBB.out)
          have HQE := hide (queG_kept HQW.out (HN3.out.2 b' (by simp)))
          clear hlt3
          go_roundw
          case rel => exact ⟨i + 1, b', cp, by go_num, by have := HLE2.out; omega, hg2, rfl, HQE.out, HRE.out⟩
          case measure => simp [intOf]; omega
    · have hlti : ¬ (i : Int) < ((O i).length : Int) := by omega
      obtain ⟨hie, hle⟩ : (O i).length = i ∧ LF = O i := by
        have h1 : (O i).length = i := by omega
        refine ⟨h1, ?_⟩
        have := HOT.out i (2000 - i) (by omega)
        rw [Nat.add_sub_cancel' (by omega)] at this
        rw [HLF.out, this]
      have HEND := hide (rwX_end HRW.out (by unfold maxLen; omega) (gN d lr LF) (by rw [gN_len, hle, hie]) (fun j hj => by rw [gN_row (by rw [hle, hie]; exact hj)]; rfl))
      obtain ⟨an, cn, rfl, hsn⟩ := HEND.out
      have HBE := hide (below_step HB0.out HRW.out.2.1)
      have HSN := hide hsn
      have HQE := hide HQU.out
      rw [← hle] at HQE ⊢
      have hlf : LF.length = i := by rw [hle]; exact hie
      rw [← hlf] at HSN
      clear hsn HEND hie hle HOT HLF
      go_wp2
      rw [← hlf]
      exact bodyPost_ret (v := .tuple #[.slice (some ⟨bq, 0, none⟩) LF.length cq, .slice an LF.length cn, .bool true]) (by simp [results, Tryz.results13, go_sem]) rfl ⟨fun _ => ⟨bq, cq, an, cn, rfl, HQE.out, HSN.out, HBE.out⟩, fun h => by omega⟩
end Go.Proofs.YtleebojibobgaaaGreatDoor

/- The reference's SomeOf: contract. -/
namespace Go.Proofs.YtleebojibobgaaaGreatDoor
open Go.RowKit

def SomeR (w : World) (cnt c1 b t : Int) (N : List (List Int)) (E : List Bool) (c2 : Int) (e : Ending) (w' : World) : Prop :=
  ∃ a ca a' ca', e = .returned (.tuple #[.int .i64 cnt, .int .i64 c1, .agg #[.int .i64 b, .int .i64 t, .slice a N.length ca, .slice a' N.length ca'], .int .i64 c2]) ∧ AutoNew w a N.length N a' E w' ∧ Below w.heap.size w w'
/-- A row of bools that is appended to. -/
def GrowB (w : World) (bs : List Bool) (v : Value) (W : World) : Prop := W.ownsRow w.heap.size 4 1 v bs.length (bs.map Value.bool) ∧ Below w.heap.size w W
theorem growB_nil (w : World) : GrowB w [] (.slice none 0 0) w := ⟨World.ownsRow_nil _ _ _ _, Below.refl _ _⟩
theorem growB_push {w : World} {bs : List Bool} {v v2 : Value} {W w3 : World} {o : Obj} {x : Bool} (h : GrowB w bs v W) (hown : w3.ownsRow w.heap.size 4 1 v2 (bs.length + 1) (bs.map Value.bool ++ [.bool x])) (hg : (W.alloc o).grownBy w3 v.ownBlock) : GrowB w (bs ++ [x]) v2 w3 :=
  ⟨by rw [List.length_append, List.map_append]; exact hown, Below.grown (h.2.alloc h.2.size o) hg (by have := h.2.size; simp; omega) (fun k hk => (h.1.lt k hk).1)⟩
theorem growB_below {w : World} {bs : List Bool} {v : Value} {W W2 : World} (h : GrowB w bs v W) (hb : Below W.heap.size W W2) : GrowB w bs v W2 := ⟨ownsRow_of_block h.1 (fun x hx => hb.block _ (h.1.lt x hx).2), below_step h.2 hb⟩
theorem growB_end {w : World} {bs : List Bool} {v : Value} {W : World} (h : GrowB w bs v W) (hm : bs.length ≤ maxLen) : ∃ a cap, v = .slice a bs.length cap ∧ SlB W a bs.length bs := by
  obtain ⟨⟨h0, h1⟩, -⟩ := h
  rcases h1 with ⟨rfl, hn⟩ | ⟨g, cap, cur, rfl, hg, hh, hc, hcm, hcs, ht⟩
  · exact ⟨none, 0, by rw [hn], rfl, hm, Or.inl hn⟩
  · refine ⟨_, cap, rfl, rfl, hm, Or.inr ⟨g, 0, rfl, fun i hi => ?_⟩⟩
    rw [cell_of_row W g (0 + i) cur 4 (0, 0) hh, Nat.zero_add]
    have h3 : (cur.toList.take (bs.length * 1))[i]? = (bs.map Value.bool)[i]? := by rw [ht]
    rw [List.getElem?_take, if_pos (by omega), Array.getElem?_toList] at h3
    rw [h3]
    simp [List.getD, hi]

set_option maxHeartbeats 4000000 in
set_option maxRecDepth 8000 in
theorem someOf_bad (b t : Int) (a : Option Addr) (n cap : Nat) (a' : Option Addr) (k cap' : Nat) (N : List (List Int)) (tk : Int) (w : World) (hs : Sl2 w a n N) (hk : k ≤ maxLen) (hC : smF b t N k tk ≠ 0) :
    Calls Tryz.prog 4 #[.agg #[.int .i64 b, .int .i64 t, .slice a n cap, .slice a' k cap'], .int .i64 tk] w (SomeR w 0 (smF b t N k tk) 0 0 [] [] (smF b t N k tk)) := by
  have hB0 := below_two w (.cells #[.int .i64 b, .int .i64 t, .slice a n cap, .slice a' k cap'] 25) (.cells #[.int .i64 0, .int .i64 0, .slice none 0 0, .slice none 0 0] 25)
  have HB0 := hide hB0
  have HF := hide (afault_u b t a a' n cap k cap' N _ (sl2_below hs hB0) hk)
  have HBX := hide (fun W (h : Below _ _ W) => (@two_boxes w W (.int .i64 b) (.int .i64 t) (.slice a n cap) (.slice a' k cap') (.int .i64 0) (.int .i64 0) (.slice none 0 0) (.slice none 0 0) 25 h).1)
  have HRX := hide (heap_alloc2_snd w (.cells #[.int .i64 b, .int .i64 t, .slice a n cap, .slice a' k cap'] 25) (.cells #[.int .i64 0, .int .i64 0, .slice none 0 0, .slice none 0 0] 25))
  have HC : Hid (smF b t N k tk = if autoC b t N k = 0 then (if 0 ≤ tk ∧ tk < t then 0 else 1) else autoC b t N k) := by show _ = _; rfl
  generalize hW0 : (w.alloc (.cells #[.int .i64 b, .int .i64 t, .slice a n cap, .slice a' k cap'] 25)).alloc (.cells #[.int .i64 0, .int .i64 0, .slice none 0 0, .slice none 0 0] 25) = wb at HB0 HF HBX HRX
  clear hs hk hB0
  generalize smF b t N k tk = c at HC hC ⊢
  generalize autoC b t N k = cx at HC HF
  obtain ⟨p0, p1, p2, p3⟩ := HBX.out wb (Below.refl _ _)
  go_enter Tryz.func4, Tryz.ntmps4
  go_wp2_with fail
  clear hW0 p0 p1 p2 p3
  refine HF.out.mono ?_
  rintro e w1 ⟨rfl, hb1⟩
  have HB1 := hide hb1
  have HR1 := hide ((hb1.block _ (Array.getElem?_eq_some_iff.1 HRX.out).1).trans HRX.out)
  obtain ⟨p0, p1, p2, p3⟩ := HBX.out w1 hb1
  obtain ⟨⟨r0, r1, r2, r3⟩, rf⟩ := box_cells HR1.out
  clear hb1 HF
  by_cases hx : cx = 0
  · rw [if_pos hx] at HC
    subst hx
    have hno : ¬ (0 ≤ tk ∧ tk < t) := fun h => hC (by rw [HC.out, if_pos h])
    rw [if_neg hno] at HC
    have hce : c = 1 := HC.out
    subst hce
    have hway : decide (tk < 0) = true ∨ (decide (tk < 0) = false ∧ decide (t ≤ tk) = true ∧ t ≤ tk) := by
      by_cases h0 : tk < 0
      · exact .inl (by simpa using h0)
      · exact .inr ⟨by simpa using h0, by simp; omega, by omega⟩
    clear hno HC hC
    rcases hway with hw1 | ⟨hw1, hw2, hw3⟩
    all_goals
      go_wp2
      obtain ⟨⟨hset, -, -⟩, hbel⟩ := box_set0 HR1.out rfl
      obtain ⟨⟨z0, z1, z2, z3⟩, -⟩ := box_cells hset
      exact bodyPost_ret (v := .tuple #[.int .i64 0, .int .i64 1, .agg #[.int .i64 0, .int .i64 0, .slice none 0 0, .slice none 0 0], .int .i64 1]) (by simp [results, Tryz.results4, go_sem, z0, z1, z2, z3]) rfl ⟨none, 0, none, 0, rfl, autoNew_nil _ _, hbel _ _ (below_step HB0.out HB1.out) (by omega)⟩
  · rw [if_neg hx] at HC
    have hce : c = cx := HC.out
    subst hce
    have hxi : (c != 0) = true := by simpa using hx
    have hxe : (c == 0) = false := by simpa using hx
    clear HC hC hx
    go_wp2
    obtain ⟨⟨hset, -, -⟩, hbel⟩ := box_set0 HR1.out rfl
    obtain ⟨⟨z0, z1, z2, z3⟩, -⟩ := box_cells hset
    exact bodyPost_ret (v := .tuple #[.int .i64 0, .int .i64 c, .agg #[.int .i64 0, .int .i64 0, .slice none 0 0, .slice none 0 0], .int .i64 c]) (by simp [results, Tryz.results4, go_sem, z0, z1, z2, z3]) rfl ⟨none, 0, none, 0, rfl, autoNew_nil _ _, hbel _ _ (below_step HB0.out HB1.out) (by omega)⟩

set_option maxHeartbeats 32000000 in
set_option maxRecDepth 8000 in
theorem someOf_ok (b : Int) (tr : Nat) (a : Option Addr) (n cap : Nat) (a' : Option Addr) (cap' : Nat) (N : List (List Int)) (E : List Bool) (tk m mu : Nat) (w : World) (hs : Sl2 w a n N) (he : SlB w a' n E) (hA : autoC b ((tr : Int) + 1) N n = 0) (H : SmWell b tr tk N E m mu) :
    Calls Tryz.prog 4 #[.agg #[.int .i64 b, .int .i64 ((tr : Int) + 1), .slice a n cap, .slice a' n cap'], .int .i64 (tk : Int)] w (SomeR w (smM b ((tr : Int) + 1) N E n (tk : Int)) (smS b ((tr : Int) + 1) N E n (tk : Int)) (okI (smC b ((tr : Int) + 1) N E n (tk : Int)) b) (okI (smC b ((tr : Int) + 1) N E n (tk : Int)) (tr : Int)) (smN b ((tr : Int) + 1) N E n (tk : Int)) (smE b ((tr : Int) + 1) N E n (tk : Int)) (smC b ((tr : Int) + 1) N E n (tk : Int))) := by
  have hn : N.length = n := hs.1
  have hG := H.good
  have hn80 := H.n80
  rw [hn] at hG hn80
  obtain ⟨htr4, htk⟩ := H.tracks
  obtain ⟨hmu1, hmu36⟩ := H.few36
  obtain ⟨hb1, hb2⟩ := H.base
  have hK80 := leastK_80 hG E hn80
  have hLG := least_good hG E
  have hF : smF b ((tr : Int) + 1) N n (tk : Int) = 0 := by unfold smF; rw [if_pos hA, if_pos ⟨by omega, by omega⟩]
  have hz : (readS b tr tk mu).getD 0 [] = withL b tr tk 0 := readS_get (by omega)
  -- what the sets are
  have hL : smL b ((tr : Int) + 1) (tk : Int) N E = outG (dM (leastN N E m) (leastK N E m) (readS b tr tk mu)) mu (cloM (leastN N E m) (leastK N E m) (withL b tr tk 0)) 2000 := by
    unfold smL setsS
    rw [smR_eq H.fU, readS_len, hz, H.mU]
  have hGN : smGN b ((tr : Int) + 1) (tk : Int) N E = gN (dM (leastN N E m) (leastK N E m) (readS b tr tk mu)) mu (smL b ((tr : Int) + 1) (tk : Int) N E) := by
    rw [hL]
    unfold smGN setN setsS
    rw [smR_eq H.fU, readS_len, hz, H.mU]
  have hGE : smGE b ((tr : Int) + 1) (tk : Int) N E = gE (endM (leastK N E m) (leastE N E m)) (smL b ((tr : Int) + 1) (tk : Int) N E) := by
    rw [hL]
    unfold smGE setE setsS
    rw [smR_eq H.fU, readS_len, hz, H.mU]
  have hmuZ : manyU b (((tr : Int) + 1) - 1) = (mu : Int) := by rw [show (tr : Int) + 1 - 1 = (tr : Int) by omega]; exact H.fU
  have HSS : Hid (smS b ((tr : Int) + 1) N E n (tk : Int) = if 2000 < (smL b ((tr : Int) + 1) (tk : Int) N E).length then 3 else 0) := by show _ = _; unfold smS; rw [if_pos hF]
  have HCC : Hid (smC b ((tr : Int) + 1) N E n (tk : Int) = if smS b ((tr : Int) + 1) N E n (tk : Int) = 0 then (if 80 < leastK (smGN b ((tr : Int) + 1) (tk : Int) N E) (smGE b ((tr : Int) + 1) (tk : Int) N E) mu then 3 else 0) else smS b ((tr : Int) + 1) N E n (tk : Int)) := by show _ = _; unfold smC; rw [hmuZ, Int.toNat_natCast]
  have HMM : Hid (smM b ((tr : Int) + 1) N E n (tk : Int) = if smS b ((tr : Int) + 1) N E n (tk : Int) = 0 then ((smL b ((tr : Int) + 1) (tk : Int) N E).length : Int) else 0) := by show _ = _; rfl
  have HNN : Hid (smN b ((tr : Int) + 1) N E n (tk : Int) = if smC b ((tr : Int) + 1) N E n (tk : Int) = 0 then leastN (smGN b ((tr : Int) + 1) (tk : Int) N E) (smGE b ((tr : Int) + 1) (tk : Int) N E) mu else []) := by show _ = _; unfold smN; rw [hmuZ, Int.toNat_natCast]
  have HEE : Hid (smE b ((tr : Int) + 1) N E n (tk : Int) = if smC b ((tr : Int) + 1) N E n (tk : Int) = 0 then leastE (smGN b ((tr : Int) + 1) (tk : Int) N E) (smGE b ((tr : Int) + 1) (tk : Int) N E) mu else []) := by show _ = _; unfold smE; rw [hmuZ, Int.toNat_natCast]
  have HSG := hide (fun h => sm_good H h)
  rw [hGN] at HSG
  have HSHR := hide (fun an cn an' cn' W k1 k2 k3 => shrunk_u b (tr : Int) an (smL b ((tr : Int) + 1) (tk : Int) N E).length cn mu (smGN b ((tr : Int) + 1) (tk : Int) N E) an' cn' (smGE b ((tr : Int) + 1) (tk : Int) N E) W k1 k2 k3)
  unfold ShrR ShrU at HSHR
  rw [hGN, hGE] at HSHR HCC HNN HEE
  have hlok := withL_ok hb2 htk H.many 0
  have hrok := readS_ok (mu := mu) hb2 htk H.many
  have hwl : ∀ l, (withL b tr tk l).length ≤ 6 := fun l => by rw [withL_len]; have := kinds_bd2 b hb2; omega
  have HB0' := below_two w (.cells #[.int .i64 b, .int .i64 ((tr : Int) + 1), .slice a n cap, .slice a' n cap'] 25) (.cells #[.int .i64 0, .int .i64 0, .slice none 0 0, .slice none 0 0] 25)
  have HB0 := hide HB0'
  have HF := hide (afault_u b ((tr : Int) + 1) a a' n cap n cap' N _ (sl2_below hs HB0') he.2.1)
  rw [hA] at HF
  have HS := hide (sl2_below hs HB0')
  have HE := hide (slB_below he HB0')
  have HLO := hide (fun W k1 k2 => leastOf_any b ((tr : Int) + 1) a n cap m N a' cap' E W k1 hG k2 hK80)
  unfold GivesAuto at HLO
  have hLNl := leastN_len N E m
  have hLEl := leastE_len N E m
  rw [hLNl] at HLO
  have HLT := hide (fun W => letters_u b (tr : Int) W)
  rw [H.fU, H.code] at HLT
  have HWO := hide (fun l W h1 h2 => withoutOf_any b tr tk l W hb1 hb2 htr4 htk h1 h2)
  unfold GivesRow at HWO
  have HCL := hide (fun an cn an' cn' al ll cl ls W k1 k2 k3 k4 => closed_any b ((tr : Int) + 1) an (leastK N E m) cn an' (leastK N E m) cn' m (leastN N E m) al ll cl ls W k1 hLG hK80 k2 k3 k4)
  unfold GivesSet at HCL
  have HGR := hide (fun an cn an' cn' ar cr W k1 k2 => grown_any b ((tr : Int) + 1) an (leastK N E m) cn an' (leastK N E m) cn' m (leastN N E m) (cloM (leastN N E m) (leastK N E m) (withL b tr tk 0)) ar mu cr (readS b tr tk mu) W k1 hLG hK80 k2 hrok (fun l hl => by rw [readS_get hl]; exact Nat.le_trans (hwl _) (by decide)) (cloM_lt _ _ _) hmu1 hmu36)
  rw [← hL] at HGR
  unfold GrownR at HGR
  have HLB : Hid (∀ x ∈ smL b ((tr : Int) + 1) (tk : Int) N E, x < 2 ^ 80) := fun x hx => by
    rw [hL] at hx
    obtain ⟨u, _, rfl⟩ := outG_reach hx
    refine Nat.lt_of_lt_of_le (m := 2 ^ leastK N E m) ?_ (Nat.pow_le_pow_right (by decide) hK80)
    induction u using list_snoc_ind with
    | h0 => exact cloM_lt _ _ _
    | h1 u y _ => rw [runG_snoc]; exact stepM_lt _ _ _ _
  have HEN := hide (fun an cn an' cn' M W k1 k2 => ended_any b ((tr : Int) + 1) an (leastK N E m) cn an' cn' (leastE N E m) M W k1 k2 hK80)
  have HRD := hide (fun l h => @readS_get b tr tk mu l h)
  have HRLN := hide (readS_len b tr tk mu)
  have HLOK := hide hlok
  have HWL := hide hwl
  have HBX := hide (fun W (h : Below _ _ W) => (@two_boxes w W (.int .i64 b) (.int .i64 ((tr : Int) + 1)) (.slice a n cap) (.slice a' n cap') (.int .i64 0) (.int .i64 0) (.slice none 0 0) (.slice none 0 0) 25 h).1)
  have HRX := hide (heap_alloc2_snd w (.cells #[.int .i64 b, .int .i64 ((tr : Int) + 1), .slice a n cap, .slice a' n cap'] 25) (.cells #[.int .i64 0, .int .i64 0, .slice none 0 0, .slice none 0 0] 25))
  clear hs he hA H hn hG hn80 hLG hF hz hmuZ hL hGN hGE hlok hrok hwl HB0' hLNl hLEl
  generalize smL b ((tr : Int) + 1) (tk : Int) N E = LS at HSS HMM HSG HSHR HCC HNN HEE HGR HLB
  generalize smS b ((tr : Int) + 1) N E n (tk : Int) = c1 at HSS HCC HMM ⊢
  generalize smC b ((tr : Int) + 1) N E n (tk : Int) = c2 at HCC HNN HEE ⊢
  generalize smM b ((tr : Int) + 1) N E n (tk : Int) = cnt at HMM ⊢
  generalize smN b ((tr : Int) + 1) N E n (tk : Int) = ZN at HNN ⊢
  generalize smE b ((tr : Int) + 1) N E n (tk : Int) = ZE at HEE ⊢
  generalize hd : dM (leastN N E m) (leastK N E m) (readS b tr tk mu) = d at HSG HSHR HCC HNN HEE HGR
  generalize hcl : cloM (leastN N E m) (leastK N E m) (withL b tr tk 0) = C0 at HGR
  have HCL0 := hide hcl
  clear hd hcl
  generalize hpE : endM (leastK N E m) (leastE N E m) = pE at HSHR HCC HNN HEE HEN
  clear hpE
  generalize leastN N E m = LN at HLO HCL HGR HEN HCL0
  generalize leastE N E m = LE at HLO HEN
  generalize leastK N E m = LK at HLO HCL HGR HEN HCL0 hK80
  generalize hW0 : (w.alloc (.cells #[.int .i64 b, .int .i64 ((tr : Int) + 1), .slice a n cap, .slice a' n cap'] 25)).alloc (.cells #[.int .i64 0, .int .i64 0, .slice none 0 0, .slice none 0 0] 25) = wb at HB0 HF HS HE HBX HRX
  have HSZ0 : Hid (wb.heap.size = w.heap.size + 2) := by show _ = _; rw [← hW0]; simp
  obtain ⟨j0, hj0, hy0, hy1, hy2⟩ := info_parts infoS2
  obtain ⟨l0, hl0, hv0, hv1, hv2⟩ := info_parts infoBo
  obtain ⟨p0, p1, p2, p3⟩ := HBX.out wb (Below.refl _ _)
  have htn : decide ((tk : Int) < 0) = false := by simp
  have hti : ¬ ((tr : Int) + 1 ≤ (tk : Int)) := by omega
  have hti' : decide ((tr : Int) + 1 ≤ (tk : Int)) = false := by simp; omega
  go_enter Tryz.func4, Tryz.ntmps4
  go_wp2_with fail
  clear hW0 p0 p1 p2 p3
  refine HF.out.mono ?_
  rintro e w1 ⟨rfl, hb1⟩
  have HB1 := hide hb1
  obtain ⟨p0, p1, p2, p3⟩ := HBX.out w1 hb1
  have HC := hide (HLO.out w1 (sl2_below HS.out hb1) (slB_below HE.out hb1))
  clear hb1 HF HLO
  go_wp2_with fail
  clear p0 p1 p2 p3
  refine HC.out.mono ?_
  rintro e w2 ⟨am, cm, am', cm', rfl, hnew, hb2'⟩
  have hbz := (Below.refl w2.heap.size w2).alloc (Nat.le_refl _) (.cells #[.int .i64 b, .int .i64 ((tr : Int) + 1), .slice am LK cm, .slice am' LK cm'] 25)
  have HB3 := hide (below_step HB1.out (below_step hb2' hbz))
  have HMB := hide (heap_alloc_last w2 (.cells #[.int .i64 b, .int .i64 ((tr : Int) + 1), .slice am LK cm, .slice am' LK cm'] 25))
  have HMN := hide (hnew.below hbz).here
  obtain ⟨p0, p1, p2, p3⟩ := HBX.out _ HB3.out
  clear hnew hb2' hbz HC
  go_wp2_with (go_at_call 11; refine (HLT.out _).mono ?_; rintro e w' ⟨rfl, hw'⟩; obtain rfl := hw'.symm)
  clear p0 p1 p2 p3
  generalize w2.alloc (.cells #[.int .i64 b, .int .i64 ((tr : Int) + 1), .slice am LK cm, .slice am' LK cm'] 25) = w3 at HB3 HMB HMN ⊢
  go_loopw [12, 13] (fun v lv wx => ∃ l : Nat, l ≤ mu ∧ lv = .int .i64 l ∧ RwAt w3 (fun l => withL b tr tk (l : Int)) l v wx) (fun _ lv _ => mu - (intOf lv).toNat)
  case atStart => exact ⟨0, by omega, rfl, rwAt_nil _ _⟩
  case round =>
    obtain ⟨l, hl, rfl, hrw⟩ := hrel
    have HRW := hide hrw
    have HBW : Hid (Below w3.heap.size w3 wr) := by obtain ⟨_, _, _, h⟩ := hrw; exact h
    clear hrw
    by_cases hlt : l < mu
    · have hlti : (l : Int) < (mu : Int) := by omega
      have HC := hide (HWO.out (l : Int) wr (by omega) (by omega))
      obtain ⟨p0, p1, p2, p3⟩ := HBX.out wr (below_step HB3.out HBW.out)
      go_wp2_with fail
      clear p0 p1 p2 p3
      refine HC.out.mono ?_
      rintro e w4 ⟨ar, cr, rfl, hsr, hb4⟩
      obtain ⟨vals, hoN, hszN, hnx⟩ := @rwAt_push w3 wr w4 (fun l => withL b tr tk (l : Int)) l u12 ar cr HRW.out hb4 hsr
      have HNX := hide hnx
      have HOWN := hide hoN
      have HSZ := hide hszN
      clear hnx hoN hszN hsr hb4 HC
      go_wp2_with (at_builtin; refine wpList_append_lies _ rfl _ _ 22 rfl w3.heap.size 42 j0 (.slice none 0 0) 1 24 Tryz.underlying22 hj0 hy0 hy1 hy2 rfl (by decide) u12 l vals rfl (HOWN.out.alloc _) ⟨w4.heap.size, 0, none⟩ 1 1 [.slice ar (withL b tr tk (l : Int)).length cr] rfl rfl (one_new _ _ _) (fun u hu => by simp at hu; subst hu; rfl) (by omega) (by unfold maxLen; omega) (by omega) (by have := HSZ.out; simp; omega) _ rfl ?_; intro g' cg w5 hown5 hgrow5 hat5 hlt5; have HN5 := hide (HNX.out w5 _ g' cg hown5 hgrow5 hat5); clear hown5 hgrow5 hat5 hlt5)
      go_roundw
      case rel => exact ⟨l + 1, by omega, by go_num, HN5.out⟩
      case measure => simp [intOf]; omega
    · have hlti : ¬ (l : Int) < (mu : Int) := by omega
      obtain rfl : mu = l := by omega
      obtain ⟨ax, cx, rfl, hsx⟩ := rwAt_end HRW.out (by unfold maxLen; omega) (readS b tr tk mu) HRLN.out (fun j hj => HRD.out j hj)
      have HSX := hide hsx
      obtain ⟨br, or, a0, c0, rfl, hc0, hs0⟩ := sl2_cell hsx 0 (by omega)
      rw [HRD.out 0 (by omega)] at hc0 hs0
      have HMBr := hide ((HBW.out.block _ (Array.getElem?_eq_some_iff.1 HMB.out).1).trans HMB.out)
      obtain ⟨⟨m0, m1, m2, m3⟩, -⟩ := box_cells HMBr.out
      have HMNr : Hid (Sl2 wr am LK LN ∧ SlB wr am' LK LE) := ⟨sl2_below HMN.out.1 HBW.out, slB_below HMN.out.2 HBW.out⟩
      have HCC1 := hide (fun W h1 h2 => HCL.out am cm am' cm' a0 (withL b tr tk 0).length c0 (withL b tr tk 0) W h1 h2 HLOK.out (Nat.le_trans (HWL.out 0) (by decide)))
      have hmui : (0 : Int) < (mu : Int) := by omega
      have HS0 := hide hs0
      have hc0' : wr.cell? ⟨br, or, none⟩ = some (.slice a0 (withL b tr tk 0).length c0) := hc0
      have HC6 : Hid (∀ W, Below wr.heap.size wr W → W.cell? ⟨w2.heap.size, 0, none⟩ = some (.int .i64 b) ∧ W.cell? ⟨w2.heap.size, 1, none⟩ = some (.int .i64 ((tr : Int) + 1)) ∧ W.cell? ⟨w2.heap.size, 2, none⟩ = some (.slice am LK cm) ∧ W.cell? ⟨w2.heap.size, 3, none⟩ = some (.slice am' LK cm') ∧ W.cell? ⟨br, or, none⟩ = some (.slice a0 (withL b tr tk 0).length c0)) := fun W hW => by
        have k := fun (p : Addr) v (h : wr.cell? p = some v) => (hW.cell (p := p) (World.block_lt_of_cell? _ _ h)).trans h
        exact ⟨k _ _ m0, k _ _ m1, k _ _ m2, k _ _ m3, k _ _ hc0'⟩
      have HBR := hide (Below.refl wr.heap.size wr)
      rw [HCL0.out] at HCC1
      clear hsx hs0 HRW HWO hc0
      by_cases h20 : LS.length ≤ 2000
      · have H20 := hide h20
        clear h20
        go_wp2
        go_region_held_law (fun W => W.cell? ⟨w2.heap.size, 0, none⟩ = some (.int .i64 b) ∧ W.cell? ⟨w2.heap.size, 1, none⟩ = some (.int .i64 ((tr : Int) + 1)) ∧ W.cell? ⟨w2.heap.size, 2, none⟩ = some (.slice am LK cm) ∧ W.cell? ⟨w2.heap.size, 3, none⟩ = some (.slice am' LK cm') ∧ W.cell? ⟨br, or, none⟩ = some (.slice a0 (withL b tr tk 0).length c0)) (first | exact HC6.out _ HB6.out | exact HC6.out _ HB5.out | go_keep)
          (first
            | (go_at_call 14; refine (HCC1.out _ (sl2_below HMNr.out.1 HBR.out.drew) (sl_below HS0.out HBR.out.drew)).mono ?_; rintro e w5 ⟨rfl, hb5⟩; have HB5 := hide (below_step HBR.out.drew hb5); clear hb5)
            | (go_at_call 13; refine (HGR.out am cm am' cm' (some ⟨br, or, none⟩) cx w5 (sl2_below HMNr.out.1 HB5.out) (sl2_below HSX.out HB5.out)).mono ?_; rintro e w6 ⟨hyes, -⟩; obtain ⟨bs, cs, an, cn, rfl, hq6, hsn6, hb6⟩ := hyes H20.out; have HQ6 := hide hq6; have HSN6 := hide hsn6; have HB6 := hide (below_step HB5.out hb6); clear hq6 hsn6 hb6))
        all_goals
          have HC1 : Hid (c1 = 0) := by show _ = _; rw [HSS.out, if_neg (by have := H20.out; omega)]
          have HMBx := hide (((HB6.out).block _ (Array.getElem?_eq_some_iff.1 HMBr.out).1).trans HMBr.out)
          have HMNx : Hid (Sl2 w6 am LK LN ∧ SlB w6 am' LK LE) := ⟨sl2_below HMNr.out.1 HB6.out, slB_below HMNr.out.2 HB6.out⟩
          have HB36 := hide (below_step HB3.out (below_step HBW.out HB6.out))
          have HGT := hide (fun i (h : i < LS.length) => @gE_get pE LS i h)
          have HGL := hide (gE_len pE LS)
          have HGTK : Hid (∀ i, i < LS.length → (gE pE LS).take (i + 1) = (gE pE LS).take i ++ [pE (LS.getD i 0)]) := fun i hi => by
            rw [List.take_succ_eq_append_getElem (by rw [gE_len]; exact hi)]
            simp [gE, List.getD, hi]
          generalize gE pE LS = GE at HSHR HCC HNN HEE HGT HGL HGTK
          clear m0 m1 m2 m3 hc0' HC6 HBR HCC1 HGR HCL0 HSX HS0 HMBr HMNr HBW HB5
          go_wp2
          go_loopw [17, 18] (fun v iv wx => ∃ i : Nat, i ≤ LS.length ∧ iv = .int .i64 i ∧ GrowB w6 (GE.take i) v wx) (fun _ iv _ => LS.length - (intOf iv).toNat)
          case atStart => exact ⟨0, by omega, rfl, growB_nil w6⟩
          case round =>
            obtain ⟨i, hi, rfl, hgb⟩ := hrel
            have HGB := hide hgb
            clear hgb
            by_cases hlt : i < LS.length
            · have hlti : (i : Int) < (LS.length : Int) := by omega
              have hi2 := H20.out
              obtain ⟨⟨m0, m1, m2, m3⟩, -⟩ := box_cells ((HGB.out.2.block _ (Array.getElem?_eq_some_iff.1 HMBx.out).1).trans HMBx.out)
              have HQr := hide (queG_kept HQ6.out (HGB.out.2.block _ (queG_lt HQ6.out)))
              obtain ⟨q0, q1⟩ := queG_at HQr.out i hlt
              have HEC := hide (fun W k => HEN.out am cm am' cm' (LS.getD i 0) W k (HLB.out _ (getN_mem hlt)))
              have HTK := hide (HGTK.out i hlt)
              have HTLi : Hid ((GE.take i).length = i) := by show _ = _; rw [List.length_take, HGL.out]; omega
              have HC7 : Hid (∀ W, Below w6.heap.size w6 W → W.cell? ⟨w2.heap.size, 0, none⟩ = some (.int .i64 b) ∧ W.cell? ⟨w2.heap.size, 1, none⟩ = some (.int .i64 ((tr : Int) + 1)) ∧ W.cell? ⟨w2.heap.size, 2, none⟩ = some (.slice am LK cm) ∧ W.cell? ⟨w2.heap.size, 3, none⟩ = some (.slice am' LK cm') ∧ W.cell? ⟨bs, i * 2, none⟩ = some (.int .i64 (loS (LS.getD i 0))) ∧ W.cell? ⟨bs, i * 2 + 1, none⟩ = some (.int .i64 (hiS (LS.getD i 0)))) := fun W hW => by
                obtain ⟨⟨k0, k1, k2, k3⟩, -⟩ := box_cells ((hW.block _ (Array.getElem?_eq_some_iff.1 HMBx.out).1).trans HMBx.out)
                obtain ⟨k4, k5⟩ := queG_at (queG_kept HQ6.out (hW.block _ (queG_lt HQ6.out))) i hlt
                exact ⟨k0, k1, k2, k3, k4, k5⟩
              generalize LS.getD i 0 = Mi at q0 q1 HEC HTK HC7
              generalize pE Mi = ev at HEC HTK
              go_wp2
              go_region_held_law (fun W => W.cell? ⟨w2.heap.size, 0, none⟩ = some (.int .i64 b) ∧ W.cell? ⟨w2.heap.size, 1, none⟩ = some (.int .i64 ((tr : Int) + 1)) ∧ W.cell? ⟨w2.heap.size, 2, none⟩ = some (.slice am LK cm) ∧ W.cell? ⟨w2.heap.size, 3, none⟩ = some (.slice am' LK cm') ∧ W.cell? ⟨bs, i * 2, none⟩ = some (.int .i64 (loS Mi)) ∧ W.cell? ⟨bs, i * 2 + 1, none⟩ = some (.int .i64 (hiS Mi))) (first | exact HC7.out _ HG9.out.2 | exact HC7.out _ (HG7.out.2.alloc HG7.out.2.size _) | exact HC7.out _ HG7.out.2 | go_keep)
                (first
                  | (go_at_call 15; refine (HEC.out _ (slB_below HMNx.out.2 (below_drewN HGB.out.2 1))).mono ?_; rintro e w7 ⟨rfl, hb7⟩; have HG7 := hide (growB_below HGB.out (below_step (Below.refl wr.heap.size wr).drew hb7)); have HOWN := hide HG7.out.1; rw [HTLi.out] at HOWN; have HSZ := hide HG7.out.2.size; clear hb7)
                  | (refine step_append_lies _ rfl (.tmp 86) (.tmp 93) 23 rfl w6.heap.size 4 l0 (.bool false) 1 1 Tryz.underlying23 hl0 hv0 hv1 hv2 rfl (by decide) _ i _ rfl (World.ownsRow.alloc (w := w7) HOWN.out _) ⟨w7.heap.size, 0, none⟩ 1 1 [.bool ev] (by simp [Act.eval]) rfl (one_new w7 _ _) (fun u hu => by simp at hu; subst hu; rfl) (by omega) (by unfold maxLen; omega) (by omega) (by have := HSZ.out; simp; omega) (w7.heap.size + 1) (by simp) ?_; intro g9 cg9 w9 hown9 hgrow9 hat9 hlt9; have HG9 := hide (growB_push HG7.out (by rw [HTLi.out]; exact hown9) hgrow9); clear hown9 hgrow9 hat9 hlt9))
              all_goals
                rw [← HTK.out] at HG9
                go_wp2
                go_roundw
                case rel => exact ⟨i + 1, by omega, by go_num, HG9.out⟩
                case measure => simp [intOf]; omega
            · have hlti : ¬ (i : Int) < (LS.length : Int) := by omega
              obtain ⟨len, hlen⟩ : ∃ len, len = LS.length := ⟨_, rfl⟩
              have hie : i = len := by omega
              subst hie
              have HF1 : Hid (GE.take i = GE) := List.take_of_length_le (by have := HGL.out; omega)
              rw [HF1.out] at HGB
              obtain ⟨ae, ce, rfl, hse⟩ := growB_end HGB.out (by unfold maxLen; have := HGL.out; have := H20.out; omega)
              rw [HGL.out] at hse ⊢
              have HBr := hide (below_step HB36.out HGB.out.2)
              obtain ⟨p0, p1, p2, p3⟩ := HBX.out wr HBr.out
              have HR := hide ((HBr.out.block _ (Array.getElem?_eq_some_iff.1 HRX.out).1).trans HRX.out)
              have HSC := hide (HSHR.out an cn ae ce wr (sl2_below HSN6.out HGB.out.2) (HSG.out H20.out) hse)
              rw [HC1.out, if_pos rfl] at HCC HMM
              clear hse HSHR HGB HF1 HGT HGTK HEN HLB HQ6
              generalize gN d mu LS = GN at HSC HCC HNN HEE
              by_cases hK : leastK GN GE mu ≤ 80
              · have hc2 : c2 = 0 := by rw [HCC.out, if_neg (by omega)]
                have HK := hide hK
                rw [if_pos hc2] at HNN HEE
                have HNN' := hide HNN.out
                have HEE' := hide HEE.out
                subst hc2
                rw [← HNN.out, ← HEE.out] at HSC
                clear hK hlen
                go_wp2_with fail
                clear p0 p1 p2 p3
                refine HSC.out.mono ?_
                rintro e w8 (⟨-, ay, cy, ay', cy', rfl, hnew, hb8⟩ | ⟨hbig, -⟩)
                rotate_left
                · exact absurd HK.out (by omega)
                have hbz := (Below.refl w8.heap.size w8).alloc (Nat.le_refl _) (.cells #[.int .i64 b, .int .i64 (tr : Int), .slice ay ZN.length cy, .slice ay' ZN.length cy'] 25)
                have hbw8 := below_step hb8 hbz
                have hold := (hbw8.block _ (Array.getElem?_eq_some_iff.1 HR.out).1).trans HR.out
                have hmx := heap_alloc_last w8 (.cells #[.int .i64 b, .int .i64 (tr : Int), .slice ay ZN.length cy, .slice ay' ZN.length cy'] 25)
                have HHOLD := hide hold
                have HNEW := hide (hnew.below hbz)
                have HBF := hide (below_step HB0.out (below_step HBr.out hbw8))
                have HSW := hide HBr.out.size
                obtain ⟨⟨o0, o1, o2, o3⟩, of⟩ := box_cells hold
                obtain ⟨⟨r0, r1, r2, r3⟩, -⟩ := box_cells hmx
                clear hnew hb8 hbz hbw8 hold hmx HSC
                go_wp2
                generalize w8.alloc (.cells #[.int .i64 b, .int .i64 (tr : Int), .slice ay ZN.length cy, .slice ay' ZN.length cy'] 25) = w9 at HHOLD HNEW HBF o0 o1 o2 o3 of r0 r1 r2 r3 ⊢
                go_region
                all_goals
                  go_wp2
                  obtain ⟨⟨hset, hsz, hoth⟩, hbel⟩ := box_set (v0 := .int .i64 b) (v1 := .int .i64 (tr : Int)) (v2 := .slice ay ZN.length cy) (v3 := .slice ay' ZN.length cy') HHOLD.out rfl
                  have hb := hbel w w.heap.size HBF.out (by omega)
                  generalize hWZ : (((w9.setCell ⟨w.heap.size + 1, 0, none⟩ (.int .i64 b)).setCell ⟨w.heap.size + 1, 1, none⟩ (.int .i64 (tr : Int))).setCell ⟨w.heap.size + 1, 2, none⟩ (.slice ay ZN.length cy)).setCell ⟨w.heap.size + 1, 3, none⟩ (.slice ay' ZN.length cy') = wZ at hset hsz hoth hb ⊢
                  have hfin : AutoNew w ay ZN.length ZN ay' ZE wZ.drew := fun W' hW' => HNEW.out W' (fun x hx hxl => by
                    have h1 := HSW.out
                    have h2 := HSZ0.out
                    have h3 : x < wZ.drew.heap.size := by show x < wZ.heap.size; omega
                    rw [hW' x (by omega) h3]
                    exact hoth x (by omega))
                  have hsetD : wZ.drew.heap[w.heap.size + 1]? = some (.cells #[.int .i64 b, .int .i64 (tr : Int), .slice ay ZN.length cy, .slice ay' ZN.length cy'] 25 (0, 0)) := hset
                  obtain ⟨⟨z0, z1, z2, z3⟩, -⟩ := box_cells hsetD
                  have hcnt : cnt = (LS.length : Int) := HMM.out
                  rw [hcnt, HC1.out]
                  exact bodyPost_ret (v := .tuple #[.int .i64 (LS.length : Int), .int .i64 0, .agg #[.int .i64 b, .int .i64 (tr : Int), .slice ay ZN.length cy, .slice ay' ZN.length cy'], .int .i64 0]) (by simp [results, Tryz.results4, go_sem, z0, z1, z2, z3]) rfl ⟨ay, cy, ay', cy', rfl, hfin, hb.drew⟩
              · have hc2 : c2 = 3 := by rw [HCC.out, if_pos (by omega)]
                have HK : Hid (80 < leastK GN GE mu) := by show _ < _; omega
                have hne : ¬ (c2 = 0) := by rw [hc2]; decide
                rw [if_neg hne] at HNN HEE
                have hz1 := HNN.out
                have hz2 := HEE.out
                subst hz1 hz2 hc2
                clear hK hne hlen
                go_wp2_with fail
                clear p0 p1 p2 p3
                refine HSC.out.mono ?_
                rintro e w8 (⟨hbig, -⟩ | ⟨-, rfl, hb8⟩)
                · exact absurd HK.out (by omega)
                have hbz := (Below.refl w8.heap.size w8).alloc (Nat.le_refl _) (.cells #[.int .i64 0, .int .i64 0, .slice none 0 0, .slice none 0 0] 25)
                have hbw8 := below_step hb8 hbz
                have hold := (hbw8.block _ (Array.getElem?_eq_some_iff.1 HR.out).1).trans HR.out
                have HHOLD := hide hold
                have HBF := hide (below_step HB0.out (below_step HBr.out hbw8))
                obtain ⟨⟨o0, o1, o2, o3⟩, of⟩ := box_cells hold
                clear hb8 hbz hbw8 hold HSC
                go_wp2
                generalize w8.alloc (.cells #[.int .i64 0, .int .i64 0, .slice none 0 0, .slice none 0 0] 25) = w9 at HHOLD HBF o0 o1 o2 o3 of ⊢
                obtain ⟨⟨hset, -, -⟩, hbel⟩ := box_set0 HHOLD.out rfl
                obtain ⟨⟨z0, z1, z2, z3⟩, -⟩ := box_cells hset
                have hcnt : cnt = (LS.length : Int) := HMM.out
                rw [hcnt, HC1.out]
                exact bodyPost_ret (v := .tuple #[.int .i64 (LS.length : Int), .int .i64 0, .agg #[.int .i64 0, .int .i64 0, .slice none 0 0, .slice none 0 0], .int .i64 3]) (by simp [results, Tryz.results4, go_sem, z0, z1, z2, z3]) rfl ⟨none, 0, none, 0, rfl, autoNew_nil _ _, hbel _ _ HBF.out (by omega)⟩
      · have H20 : Hid (2000 < LS.length) := by show _ < _; omega
        have hc1 : c1 = 3 := by rw [HSS.out, if_pos (by omega)]
        have hne1 : ¬ (c1 = 0) := by rw [hc1]; decide
        rw [if_neg hne1] at HCC HMM
        have hc2 : c2 = 3 := by rw [HCC.out, hc1]
        have hne2 : ¬ (c2 = 0) := by rw [hc2]; decide
        rw [if_neg hne2] at HNN HEE
        have hz1 := HNN.out
        have hz2 := HEE.out
        have hz3 := HMM.out
        have HRw := hide ((HBW.out.block _ (by have := HSZ0.out; have := HB3.out.size; omega)).trans ((HB3.out.block _ (Array.getElem?_eq_some_iff.1 HRX.out).1).trans HRX.out))
        have HBALL := hide (below_step HB3.out HBW.out)
        clear h20 hne1 hne2 HCC HMM HNN HEE HSS HSHR HSG
        subst hz1 hz2 hz3 hc1 hc2
        go_wp2
        go_region_held_law (fun W => W.cell? ⟨w2.heap.size, 0, none⟩ = some (.int .i64 b) ∧ W.cell? ⟨w2.heap.size, 1, none⟩ = some (.int .i64 ((tr : Int) + 1)) ∧ W.cell? ⟨w2.heap.size, 2, none⟩ = some (.slice am LK cm) ∧ W.cell? ⟨w2.heap.size, 3, none⟩ = some (.slice am' LK cm') ∧ W.cell? ⟨br, or, none⟩ = some (.slice a0 (withL b tr tk 0).length c0)) (first | exact HC6.out _ HB6.out | exact HC6.out _ HB5.out | go_keep)
          (first
            | (go_at_call 14; refine (HCC1.out _ (sl2_below HMNr.out.1 HBR.out.drew) (sl_below HS0.out HBR.out.drew)).mono ?_; rintro e w5 ⟨rfl, hb5⟩; have HB5 := hide (below_step HBR.out.drew hb5); clear hb5)
            | (go_at_call 13; refine (HGR.out am cm am' cm' (some ⟨br, or, none⟩) cx w5 (sl2_below HMNr.out.1 HB5.out) (sl2_below HSX.out HB5.out)).mono ?_; rintro e w6 ⟨-, hno⟩; obtain ⟨rfl, hb6⟩ := hno H20.out; have HB6 := hide (below_step HB5.out hb6); clear hb6))
        all_goals
          have hr6 := (HB6.out.block _ (Array.getElem?_eq_some_iff.1 HRw.out).1).trans HRw.out
          have HR6 := hide hr6
          obtain ⟨⟨o0, o1, o2, o3⟩, of⟩ := box_cells hr6
          clear hr6
          go_wp2
          obtain ⟨⟨hset, -, -⟩, hbel⟩ := box_set0 HR6.out rfl
          obtain ⟨⟨z0, z1, z2, z3⟩, -⟩ := box_cells hset
          exact bodyPost_ret (v := .tuple #[.int .i64 0, .int .i64 3, .agg #[.int .i64 0, .int .i64 0, .slice none 0 0, .slice none 0 0], .int .i64 3]) (by simp [results, Tryz.results4, go_sem, z0, z1, z2, z3]) rfl ⟨none, 0, none, 0, rfl, autoNew_nil _ _, hbel _ _ (below_step HB0.out (below_step HBALL.out HB6.out)) (by omega)⟩

theorem someOf_u (b t : Int) (a : Option Addr) (n cap : Nat) (a' : Option Addr) (k cap' : Nat) (N : List (List Int)) (E : List Bool) (tk : Int) (w : World) (hs : Sl2 w a n N) (he : SlB w a' k E) :
    Calls Tryz.prog 4 #[.agg #[.int .i64 b, .int .i64 t, .slice a n cap, .slice a' k cap'], .int .i64 tk] w (SomeR w (smM b t N E k tk) (smS b t N E k tk) (okI (smC b t N E k tk) b) (okI (smC b t N E k tk) (t - 1)) (smN b t N E k tk) (smE b t N E k tk) (smC b t N E k tk)) := by
  by_cases hc : smF b t N k tk = 0
  · obtain ⟨hA, -, -⟩ := smF_zero hc
    obtain rfl : k = n := by rw [(autoC_zero hA).2.1, hs.1]
    obtain ⟨tr, tkn, m, mu, rfl, rfl, -, H⟩ := sm_well E hc
    rw [show (tr : Int) + 1 - 1 = (tr : Int) by omega]
    exact someOf_ok b tr a k cap a' cap' N E tkn m mu w hs he hA H
  · have h1 : smS b t N E k tk = smF b t N k tk := by unfold smS; rw [if_neg hc]
    have h2 : smC b t N E k tk = smF b t N k tk := by unfold smC; rw [h1, if_neg hc]
    unfold smN smE smM okI
    rw [h2, h1, if_neg hc, if_neg hc, if_neg hc, if_neg hc, if_neg hc]
    exact someOf_bad b t a n cap a' k cap' N tk w hs he.2.1 hc
end Go.Proofs.YtleebojibobgaaaGreatDoor
