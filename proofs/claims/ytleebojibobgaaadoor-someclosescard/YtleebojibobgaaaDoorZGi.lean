/- 3 texts in one. -/
import Derived.Maps.AppendAt
import Derived.Test.YtleebojibobgaaaDoorZGb
import Derived.Test.YtleebojibobgaaaDoorZLp
import Derived.Test.YtleebojibobgaaaDoorBp
import Derived.Test.YtleebojibobgaaaDoorZCi
/- The reference's Grown, forward: contract. -/
namespace Go.Proofs.YtleebojibobgaaaDoor
open Go.RowKit

def GrownR (w : World) (d : Nat → Nat → Nat) (m : Nat) (L : List Nat) (e : Ending) (w' : World) : Prop :=
  (L.length ≤ 2000 → ∃ bs cs an cn, e = .returned (.tuple #[.slice (some ⟨bs, 0, none⟩) L.length cs, .slice an L.length cn, .bool true]) ∧ QueG w' bs L.length cs L ∧ Sl2 w' an L.length (gN d m L) ∧ Below w.heap.size w w') ∧
  (2000 < L.length → e = .returned (.tuple #[.slice none 0 0, .slice none 0 0, .bool false]) ∧ Below w.heap.size w w')
theorem pre_idx {a b : List Nat} (h : a <+: b) {x : Nat} (hx : x ∈ a) : b.idxOf x = a.idxOf x := by
  obtain ⟨t, rfl⟩ := h
  rw [List.idxOf_append, if_pos hx]
theorem idx_new {a : List Nat} {x : Nat} (hx : ¬ x ∈ a) : (a ++ [x]).idxOf x = a.length := by
  rw [List.idxOf_append, if_neg hx]
  simp
/-- The row of the i-th set. -/
def rowI (d : Nat → Nat → Nat) (m : Nat) (L : List Nat) (i : Nat) : List Int := (List.range m).map fun l => ((L.idxOf (d (L.getD i 0) l) : Nat) : Int)
theorem rowI_len (d : Nat → Nat → Nat) (m : Nat) (L : List Nat) (i : Nat) : (rowI d m L i).length = m := by simp [rowI]
theorem rowI_take {d : Nat → Nat → Nat} {m : Nat} {L : List Nat} {i l : Nat} (hl : l < m) : (rowI d m L i).take (l + 1) = (rowI d m L i).take l ++ [((L.idxOf (d (L.getD i 0) l) : Nat) : Int)] := by
  rw [List.take_succ_eq_append_getElem (by rw [rowI_len]; exact hl)]
  simp [rowI]
theorem outG_succ {d : Nat → Nat → Nat} {m f i : Nat} (h : i < (outG d m f i).length) : outG d m f (i + 1) = rowG d (outG d m f i) ((outG d m f i).getD i 0) m := by
  conv => lhs; unfold outG
  rw [if_pos h]
theorem rowG_le {d : Nat → Nat → Nat} {m f i l : Nat} (h : i < (outG d m f i).length) (hi : i < 2000) (hl : l ≤ m) : rowG d (outG d m f i) ((outG d m f i).getD i 0) l <+: outG d m f 2000 := by
  refine List.IsPrefix.trans ?_ (outG_le (show i + 1 ≤ 2000 by omega))
  rw [outG_succ h]
  have := rowG_pre d (outG d m f i) ((outG d m f i).getD i 0) l (m - l)
  rwa [Nat.add_sub_cancel' hl] at this
theorem rowI_wf {d : Nat → Nat → Nat} {m : Nat} {L : List Nat} {i : Nat} (hL : L.length ≤ 100000000) : ∀ x ∈ rowI d m L i, (Lit.int .i64 x).wf = true := by
  intro x hx
  obtain ⟨l, _, rfl⟩ := List.mem_map.1 hx
  have := List.idxOf_le_length (a := d (L.getD i 0) l) (l := L)
  exact WalkArith.wf_i64 (by omega)

theorem rowG_len (d : Nat → Nat → Nat) (L : List Nat) (x l : Nat) : (rowG d L x l).length ≤ L.length + l := by
  induction l with
  | zero => exact Nat.le_refl _
  | succ l ih =>
    have := addG_len (rowG d L x l) (d x l)
    show (addG (rowG d L x l) (d x l)).length ≤ _
    omega
theorem outG_len (d : Nat → Nat → Nat) (m f i : Nat) : (outG d m f i).length ≤ 1 + i * m := by
  induction i with
  | zero => simp [outG]
  | succ i ih =>
    have := rowG_len d (outG d m f i) ((outG d m f i).getD i 0) m
    have e : (i + 1) * m = i * m + m := Nat.succ_mul i m
    conv => lhs; unfold outG
    split <;> omega

set_option maxHeartbeats 32000000 in
set_option maxRecDepth 8000 in
theorem grown_any (b t : Int) (a : Option Addr) (n cap : Nat) (a' : Option Addr) (k' cap' : Nat) (m : Nat) (N : List (List Int)) (F : Nat) (ar : Option Addr) (lr cr : Nat) (read : List (List Int)) (w : World) (hs : Sl2 w a n N) (hG : GoodN m n N) (hn : n ≤ 80) (hr : Sl2 w ar lr read) (hro : ∀ l, l < lr → ∀ x ∈ read.getD l [], 0 ≤ x ∧ x < (m : Int)) (hrl : ∀ l, l < lr → (read.getD l []).length ≤ 1000) (hF : F < 2 ^ n) (h1 : 1 ≤ lr) (h36 : lr ≤ 36) :
    Calls Tryd.prog 11 #[.agg #[.int .i64 b, .int .i64 t, .slice a n cap, .slice a' k' cap'], .agg #[.int .i64 (loS F), .int .i64 (hiS F)], .slice ar lr cr, .bool false] w (GrownR w (dM N n read) lr (outG (dM N n read) lr F 2000)) := by
  have hB0 := below_two w (.cells #[.int .i64 b, .int .i64 t, .slice a n cap, .slice a' k' cap'] 25) (.cells #[.int .i64 (loS F), .int .i64 (hiS F)] 45)
  have HX1 := hide (heap_alloc2_fst w (.cells #[.int .i64 b, .int .i64 t, .slice a n cap, .slice a' k' cap'] 25) (.cells #[.int .i64 (loS F), .int .i64 (hiS F)] 45))
  have HX2 := hide (heap_alloc2_snd w (.cells #[.int .i64 b, .int .i64 t, .slice a n cap, .slice a' k' cap'] 25) (.cells #[.int .i64 (loS F), .int .i64 (hiS F)] 45))
  have HS := hide (sl2_below hs hB0)
  have HR := hide (sl2_below hr hB0)
  have HPUT := hide (fun M s W h1 h2 => put_any M s W h1 h2)
  have HIN := hide (fun M s W h1 h2 => in_any M s W h1 h2)
  unfold GivesSet at HPUT
  have H80 : Hid (∀ M, M < 2 ^ n → M < 2 ^ 80) := fun M h => Nat.lt_of_lt_of_le h (Nat.pow_le_pow_right (by decide) hn)
  have HOLT : Hid (∀ i, ∀ x ∈ outG (dM N n read) lr F i, x < 2 ^ n) := fun i x hx => by
    obtain ⟨u, _, rfl⟩ := outG_reach hx
    induction u using list_snoc_ind with
    | h0 => exact hF
    | h1 u y _ => rw [runG_snoc]; exact stepM_lt _ _ _ _
  have HG := hide hG
  have HRO := hide hro
  have HRL := hide hrl
  obtain ⟨K, hK⟩ : ∃ K, K = 2 ^ 80 := ⟨_, rfl⟩
  rw [← hK] at H80 HPUT HIN
  clear hK
  have HRLEN := hide hr.1
  have HD0 : Hid (∀ M l, dM N n read M l = stepM N n (read.getD l []) M) := fun _ _ => rfl
  have HOP := hide (outG_pos (dM N n read) lr F)
  have HOS := hide (fun i h => @outG_succ (dM N n read) lr F i h)
  have HRP := hide (fun i l h1 h2 h3 => @rowG_le (dM N n read) lr F i l h1 h2 h3)
  have HOT := hide (fun i j h => @outG_stay (dM N n read) lr F i h j)
  have HO0 : Hid (outG (dM N n read) lr F 0 = [F]) := rfl
  have HOLN := hide (outG_len (dM N n read) lr F)
  have HOLE := hide (fun i k (h : i ≤ k) => @outG_le (dM N n read) lr F i k h)
  generalize hO : outG (dM N n read) lr F = O at HOLT HOP HOS HRP HOT HO0 HOLE HOLN ⊢
  clear hO
  obtain ⟨LF, hLF⟩ : ∃ LF, LF = O 2000 := ⟨_, rfl⟩
  rw [← hLF] at HRP ⊢
  have HLF := hide hLF
  have HLFB : Hid (LF.length ≤ 100000000) := by
    have h1 := HOLN.out 2000
    have h2 : 2000 * lr ≤ 2000 * 36 := Nat.mul_le_mul_left _ h36
    rw [← hLF] at h1
    show LF.length ≤ 100000000
    omega
  have HDT : Hid (∀ i l, i < (O i).length → i < 2000 → l < lr → LF.getD i 0 = (O i).getD i 0) := fun i l h1 h2 _ => by
    rw [HLF.out]
    exact pre_getN (HOLE.out i 2000 (by omega)) h1
  generalize dM N n read = d at HD0 HOS HRP ⊢
  generalize hW0 : (w.alloc (.cells #[.int .i64 b, .int .i64 t, .slice a n cap, .slice a' k' cap'] 25)).alloc (.cells #[.int .i64 (loS F), .int .i64 (hiS F)] 45) = wb at hB0 HX1 HX2 HS HR
  have HB0 := hide hB0
  have HSZ0 : Hid (wb.heap.size = w.heap.size + 2) := by show _ = _; rw [← hW0]; simp
  have HQ0 : Hid (QueG (wb.alloc (.cells #[.int .i64 (loS F), .int .i64 (hiS F)] 45)) wb.heap.size 1 1 [F]) := ⟨rfl, by decide, by decide, #[.int .i64 (loS F), .int .i64 (hiS F)], heap_alloc_last _ _, by simp, fun q hq => by
    rcases (show q = 0 ∨ q = 1 by omega) with rfl | rfl
    · simp [setC]
    · simp [setC]⟩
  have HB3 := hide ((Below.refl wb.heap.size wb).alloc (Nat.le_refl _) (.cells #[.int .i64 (loS F), .int .i64 (hiS F)] 45))
  obtain ⟨⟨p0, p1⟩, -⟩ := box2_cells HX2.out
  obtain ⟨i0, hi0, hz0, hz1, hz2⟩ := info_parts info3
  obtain ⟨j0, hj0, hy0, hy1, hy2⟩ := info_parts infoS2
  clear hs hr hro hrl hG hB0 hF hLF
  go_enter Tryd.func11, Tryd.ntmps11
  go_wp2
  clear hW0 p0 p1
  generalize wb.alloc (.cells #[.int .i64 (loS F), .int .i64 (hiS F)] 45) = wA at HQ0 HB3 ⊢
  go_loopw [11, 12, 13] (fun v v' iv wx => ∃ i bq cq : Nat, iv = .int .i64 i ∧ i ≤ (O i).length ∧ (O i).length ≤ 2000 ∧ v = .slice (some ⟨bq, 0, none⟩) (O i).length cq ∧ QueG wx bq (O i).length cq (O i) ∧ RwX wb (rowI d lr LF) i v' [bq] wx) (fun _ _ iv _ => 2001 - (intOf iv).toNat)
  case atStart => exact ⟨0, wb.heap.size, 1, rfl, Nat.zero_le _, by rw [HO0.out]; simp, by rw [HO0.out]; rfl, by rw [HO0.out]; exact HQ0.out, rwX_nil _ _ _ _ HB3.out (by simp)⟩
  case round =>
    obtain ⟨i, bq, cq, rfl, hil, hi2, rfl, hqu, hrw⟩ := hrel
    have HQU := hide hqu
    have HRW := hide hrw
    clear hqu hrw
    by_cases hlt : i < (O i).length
    · have hlti : (i : Int) < ((O i).length : Int) := by omega
      have hi3 : i < 2000 := by omega
      have HSU := hide (HOS.out i hlt)
      have HRPi := hide (fun l h => HRP.out i l hlt hi3 h)
      have HSI : Hid ((O i).getD i 0 < 2 ^ n) := HOLT.out i _ (getN_mem hlt)
      have HGI : Hid (GrI wb wr bq (O i) [] (.slice (some ⟨bq, 0, none⟩) (O i).length cq) (.slice none 0 0) wr bq cq) := ⟨rfl, HQU.out, .inl rfl, World.ownsRow_nil _ _ _ _, by simp [Value.ownBlock], fun _ _ _ => rfl, HRW.out.2.1, Nat.le_refl _, ⟨HRW.out.2.2 bq (by simp), HRW.out.2.1.size⟩⟩
      have HLFi := hide (HDT.out i)
      have HRI : Hid (∀ l, l < lr → (rowI d lr LF i).take (l + 1) = (rowI d lr LF i).take l ++ [((LF.idxOf (d ((O i).getD i 0) l) : Nat) : Int)]) := fun l hl => by
        rw [rowI_take hl, HLFi.out l hlt hi3 hl]
      obtain ⟨S, hS⟩ : ∃ S, S = (O i).getD i 0 := ⟨_, rfl⟩
      rw [← hS] at HSU HRPi HSI HRI
      have HS0 := hide hS
      clear hS
      go_wp2
      obtain ⟨wq, hwq⟩ : ∃ wq : World, wq = wr := ⟨_, rfl⟩
      rw [← hwq] at HQU HRW HGI ⊢
      clear hwq wr
      go_loopw [11, 14, 15] (fun v v' lv wx => ∃ l b' cp : Nat, l ≤ lr ∧ lv = .int .i64 l ∧ GrI wb wq bq (rowG d (O i) S l) ((rowI d lr LF i).take l) v v' wx b' cp ∧ (rowG d (O i) S l).length ≤ 2000) (fun _ _ lv _ => lr - (intOf lv).toNat)
      case atStart => exact ⟨0, bq, cq, by omega, rfl, HGI.out, hi2⟩
      case round =>
        obtain ⟨l, b', cp, hll, rfl, hgi, hg2⟩ := hrel
        have HGL := hide hgi
        obtain rfl := hgi.val
        clear hgi
        by_cases hlr : l < lr
        · have hlri : (l : Int) < (lr : Int) := by omega
          have HDS := hide (HD0.out S l)
          have HROl := hide (HRO.out l hlr)
          have HRLl := hide (HRL.out l hlr)
          obtain ⟨ls, hls⟩ : ∃ ls, ls = read.getD l [] := ⟨_, rfl⟩
          have HLSd := hide hls
          rw [← hls] at HDS HROl HRLl
          clear hls
          have hll2 := HRLl.out
          have HZ0 : Hid ((wr.alloc (.cells #[.int .i64 0, .int .i64 0] 45)).heap[wr.heap.size]? = some (.cells #[.int .i64 (loS (stM N n ls S 0 0)), .int .i64 (hiS (stM N n ls S 0 0))] 45 (0, 0))) := by rw [stM_zero]; exact heap_alloc_last _ _
          have HBZ := hide ((Below.refl wr.heap.size wr).alloc (Nat.le_refl _) (.cells #[.int .i64 0, .int .i64 0] 45))
          go_wp2
          generalize wr.alloc (.cells #[.int .i64 0, .int .i64 0] 45) = wZ at HZ0 HBZ ⊢
          obtain ⟨wz, hwz⟩ : ∃ wz : World, wz = wr := ⟨_, rfl⟩
          rw [← hwz] at HGL HZ0 HBZ ⊢
          clear hwz wr
          have HBz := hide HGL.out.below
          have HQz := hide HGL.out.que
          have HQPRE : Hid (O i <+: rowG d (O i) S l) := rowG_from _ _ _ _
          go_loopw [17] (fun sv wx => ∃ s : Nat, s ≤ n ∧ sv = .int .i64 s ∧ wx.heap[wz.heap.size]? = some (.cells #[.int .i64 (loS (stM N n ls S s 0)), .int .i64 (hiS (stM N n ls S s 0))] 45 (0, 0)) ∧ Below wz.heap.size wz wx) (fun sv _ => n - (intOf sv).toNat)
          case atStart => exact ⟨0, by omega, rfl, HZ0.out, HBZ.out⟩
          case round =>
            obtain ⟨s, hsn, rfl, hox, hbx⟩ := hrel
            have HOX := hide hox
            have HBX := hide hbx
            have HBB := hide (below_step HBz.out hbx)
            obtain ⟨⟨p0, p1, p2, p3⟩, -⟩ := box_cells ((HBB.out.block _ (Array.getElem?_eq_some_iff.1 HX1.out).1).trans HX1.out)
            clear hox hbx
            by_cases hlt2 : s < n
            · have hlti2 : (s : Int) < (n : Int) := by omega
              go_wp2
              clear p0 p1 p2 p3
              go_loopw [18] (fun kv wx => ∃ k : Nat, k ≤ ls.length ∧ kv = .int .i64 k ∧ wx.heap[wz.heap.size]? = some (.cells #[.int .i64 (loS (stM N n ls S s k)), .int .i64 (hiS (stM N n ls S s k))] 45 (0, 0)) ∧ Below wz.heap.size wz wx) (fun kv _ => ls.length - (intOf kv).toNat)
              case atStart => exact ⟨0, by omega, rfl, HOX.out, HBX.out⟩
              case round =>
                obtain ⟨k, hkl, rfl, hox, hbx⟩ := hrel
                have HOX2 := hide hox
                have HBX2 := hide hbx
                have HBB2 := hide (below_step HBz.out hbx)
                obtain ⟨br, or, al, cl, rfl, hcr, hsr⟩ := sl2_cell (sl2_below HR.out HBB2.out) l hlr
                rw [← HLSd.out] at hcr hsr
                have HSR := hide hsr
                clear hox hbx hsr
                by_cases hkl2 : k < ls.length
                · have hkli : (k : Int) < (ls.length : Int) := by omega
                  obtain ⟨⟨p0, p1, p2, p3⟩, -⟩ := box_cells ((HBB2.out.block _ (Array.getElem?_eq_some_iff.1 HX1.out).1).trans HX1.out)
                  obtain ⟨⟨o0, o1⟩, of⟩ := box2_cells HOX2.out
                  obtain ⟨bn, on, an, cn, rfl, hcn, hsn2⟩ := sl2_cell (sl2_below HS.out HBB2.out) s hlt2
                  rw [(HG.out.2.2.2.2.2 s hlt2).1] at hcn hsn2
                  obtain ⟨bl, ol, rfl, hcl⟩ := sl_cell HSR.out k hkl2
                  have hx := HROl.out (ls.getD k 0) (by rw [getD_at _ k hkl2]; exact List.getElem_mem _)
                  have HPT := hide (fun h1 h2 => @stM_put N n ls S s k hkl2 h1 h2)
                  have hst : stepL N s (ls.getD k 0) = nxt N s (ls.getD k 0).toNat := rfl
                  rw [hst] at HPT
                  obtain ⟨x, hxe⟩ : ∃ x : Nat, ls.getD k 0 = (x : Int) := ⟨(ls.getD k 0).toNat, by omega⟩
                  rw [hxe] at hcl hx HPT
                  rw [Int.toNat_natCast] at HPT
                  have hxm : x < m := by omega
                  have hxi : (x : Int) < (m : Int) := by omega
                  obtain ⟨b1, o1', rfl, hcx⟩ := sl_cell hsn2 x hxm
                  obtain ⟨hy1, hy2⟩ := nxt_cell HG.out hlt2 hxm
                  rw [hy2] at hcx
                  have HQC := hide (queG_at (queG_kept HQz.out (HBX2.out.block _ (queG_lt HQz.out))) i (Nat.lt_of_lt_of_le hlt HQPRE.out.length_le))
                  rw [pre_getN HQPRE.out hlt, ← HS0.out] at HQC
                  obtain ⟨c0, c1⟩ := HQC.out
                  have HIC := hide (fun W => HIN.out S s W (H80.out S HSI.out) (by omega))
                  have HPC := hide (fun W => HPUT.out (stM N n ls S s k) (nxt N s x) W (H80.out _ (stM_lt _ _ _ _ _ _)) (by omega))
                  have hilr : (i : Int) < ((rowG d (O i) S l).length : Int) := by have := HQPRE.out.length_le; omega
                  generalize nxt N s x = y at hcx hy1 HPC HPT
                  clear hsn2 hst hxe hx hy2 HQC
                  go_wp2
                  go_quiet (fail)
                  have HBD := hide (below_drewN (Below.refl wr.heap.size wr) nq)
                  have d0 : (wr.drewN nq).cell? ⟨b', i * 2, none⟩ = some (.int .i64 (loS S)) := c0
                  have d1 : (wr.drewN nq).cell? ⟨b', i * 2 + 1, none⟩ = some (.int .i64 (hiS S)) := c1
                  have HOX3 : Hid ((wr.drewN nq).heap[wz.heap.size]? = some (.cells #[.int .i64 (loS (stM N n ls S s k)), .int .i64 (hiS (stM N n ls S s k))] 45 (0, 0))) := HOX2.out
                  have HBX3 := hide (below_step HBX2.out HBD.out)
                  clear c0 c1 o0 o1 of p0 p1 p2 p3 hcn hcl hcx hcr HBX2 HOX2 HBB2 HBD HSR
                  generalize wr.drewN nq = wd at d0 d1 HOX3 HBX3 ⊢
                  cases hm : S.testBit s with
                  | false =>
                    rw [hm] at HIC
                    have HEQ := hide (@stM_skip N n ls S s hm k (k + 1))
                    clear hm
                    go_wp2_with (go_at_call 24; refine (HIC.out _).mono ?_; rintro e w2 ⟨rfl, hb2⟩; have HB2 := hide hb2; clear hb2)
                    go_roundw
                    case rel => exact ⟨k + 1, by omega, by go_num, by rw [← HEQ.out]; exact (HB2.out.block _ (Array.getElem?_eq_some_iff.1 HOX3.out).1).trans HOX3.out, below_step HBX3.out HB2.out⟩
                    case measure => simp [intOf]; omega
                  | true =>
                    rw [hm] at HIC
                    have HEQ := hide (HPT.out hm hy1)
                    clear hm
                    go_wp2_with (first
                      | (go_at_call 24; refine (HIC.out _).mono ?_; rintro e w2 ⟨rfl, hb2⟩; have HB2 := hide hb2; have hox4 := (hb2.block _ (Array.getElem?_eq_some_iff.1 HOX3.out).1).trans HOX3.out; have HOX4 := hide hox4; obtain ⟨⟨e0, e1⟩, ef⟩ := box2_cells hox4; clear hb2 hox4)
                      | (go_at_call 25; refine (HPC.out _).mono ?_; rintro e w4 ⟨rfl, hb4⟩; have HB4 := hide hb4; have hox5 := (hb4.block _ (Array.getElem?_eq_some_iff.1 HOX4.out).1).trans HOX4.out; have HOX5 := hide hox5; obtain ⟨⟨f0, f1⟩, ff⟩ := box2_cells hox5; clear hb4 hox5))
                    obtain ⟨⟨hset, -, -⟩, hbel⟩ := box2_set (v0 := .int .i64 (loS (putM (stM N n ls S s k) y))) (v1 := .int .i64 (hiS (putM (stM N n ls S s k) y))) HOX5.out rfl
                    rw [HEQ.out] at hset hbel ⊢
                    have HSET := hide hset
                    have HBX6 := hide (hbel _ _ (below_step (below_step HBX3.out HB2.out) HB4.out) (Nat.le_refl _))
                    clear hset hbel
                    go_roundw
                    case rel => exact ⟨k + 1, by omega, by go_num, HSET.out, HBX6.out⟩
                    case measure => simp [intOf]; omega
                · have hkli : ¬ (k : Int) < (ls.length : Int) := by omega
                  obtain rfl : k = ls.length := by omega
                  have HOX3 := hide HOX2.out
                  rw [stM_row] at HOX3
                  go_wp2
                  go_roundw
                  case rel => exact ⟨s + 1, by omega, by go_num, HOX3.out, HBX2.out⟩
                  case measure => simp [intOf]; omega
            · have hlti2 : ¬ (s : Int) < (n : Int) := by omega
              obtain rfl : n = s := by omega
              have HOXe := hide HOX.out
              rw [stM_end, ← HDS.out] at HOXe
              obtain ⟨⟨o0, o1⟩, -⟩ := box2_cells HOXe.out
              have HGW := hide (grI_below HGL.out HBX.out)
              have HFI := hide (find_any b' (rowG d (O i) S l).length cp (rowG d (O i) S l) (d S l) wr HGW.out.que (by omega))
              have HRT := hide (HRI.out l hlr)
              have HPL := hide (HRPi.out l (by omega))
              have HPS := hide (HRPi.out (l + 1) (by omega))
              have hsuc : rowG d (O i) S (l + 1) = addG (rowG d (O i) S l) (d S l) := rfl
              rw [hsuc] at HPS
              have HSUC := hide hsuc
              have HTL : Hid (((rowI d lr LF i).take l).length = l) := by show _ = _; rw [List.length_take, rowI_len]; omega
              clear hsuc
              by_cases hmem : d S l ∈ rowG d (O i) S l
              · have hfi : findI (rowG d (O i) S l) (d S l) = (((rowG d (O i) S l).idxOf (d S l) : Nat) : Int) := by unfold findI; rw [if_pos hmem]
                have HIX := hide (pre_idx HPL.out hmem)
                rw [hfi, ← HIX.out] at HFI
                have HOLD := hide (addG_old hmem)
                clear hfi hmem HIX
                generalize LF.idxOf (d S l) = ix at HFI HRT
                have hixn : ¬ ((ix : Int) < 0) := by omega
                have hixd : decide ((ix : Int) < 0) = false := by simp
                go_wp2_with (first
                  | (go_at_call 26; refine HFI.out.mono ?_; rintro e w5 ⟨rfl, hb5⟩; have HG5 := hide (grI_below HGW.out hb5); have HOWN := hide HG5.out.row_; rw [HTL.out] at HOWN; have HSZ := hide HG5.out.size; clear hb5)
                  | (at_builtin; refine wpList_append_own_at _ rfl _ _ 37 rfl wq.heap.size 3 i0 (.int .i64 0) 1 8 Tryd.underlying37 hi0 hz0 hz1 hz2 rfl (by decide) _ l (((rowI d lr LF i).take l).map (Value.int .i64)) rfl (HOWN.out.alloc _) ⟨w5.heap.size, 0, none⟩ 1 1 [.int .i64 (ix : Int)] rfl rfl (one_new _ _ _) (fun u hu => by simp at hu; subst hu; rfl) (by unfold maxLen; omega) (by omega) (by have := HSZ.out; simp; omega) ?_; intro v6 w6 hown6 hgrow6 _ hat6; have HG6 := hide (grI_row HG5.out (by rw [HTL.out]; exact hown6) hgrow6 hat6); clear hown6 hgrow6 hat6))
                rw [← HRT.out] at HG6
                have HG7 : Hid (GrI wb wq bq (rowG d (O i) S (l + 1)) ((rowI d lr LF i).take (l + 1)) (.slice (some ⟨b', 0, none⟩) (rowG d (O i) S l).length cp) v6 w6 b' cp ∧ (rowG d (O i) S (l + 1)).length ≤ 2000) := by
                  have e : rowG d (O i) S (l + 1) = rowG d (O i) S l := by rw [HSUC.out, HOLD.out]
                  rw [e]
                  exact ⟨HG6.out, hg2⟩
                go_roundw
                case rel => exact ⟨l + 1, b', cp, by omega, by go_num, HG7.out⟩
                case measure => simp [intOf]; omega
              · have hfi : findI (rowG d (O i) S l) (d S l) = -1 := by unfold findI; rw [if_neg hmem]
                rw [hfi] at HFI
                have HNEW := hide (addG_new hmem)
                rw [HNEW.out] at HPS
                have HIX := hide (pre_idx HPS.out (x := d S l) (by simp))
                rw [idx_new hmem] at HIX
                rw [HIX.out] at HRT
                clear hfi hmem
                by_cases h20 : (rowG d (O i) S l).length = 2000
                · have h20i : (((rowG d (O i) S l).length : Int) == 2000) = true := by simp [h20]
                  have HBIG : Hid (2000 < LF.length) := by
                    have := HPS.out.length_le
                    rw [List.length_append, h20] at this
                    simp at this
                    show 2000 < LF.length
                    omega
                  clear h20
                  go_wp2_with (go_at_call 26; refine HFI.out.mono ?_; rintro e w5 ⟨rfl, hb5⟩; have HBE := hide (below_step HB0.out (grI_below HGW.out hb5).below); clear hb5)
                  exact bodyPost_ret (v := .tuple #[.slice none 0 0, .slice none 0 0, .bool false]) (by simp [results, Tryd.results11, go_sem]) rfl ⟨fun h => by have := HBIG.out; omega, fun _ => ⟨rfl, HBE.out⟩⟩
                · have h20i : (((rowG d (O i) S l).length : Int) == 2000) = false := by simp; omega
                  have HG3 : Hid ((rowG d (O i) S l).length < 2000) := by show _ < _; omega
                  clear h20
                  go_wp2_with (first
                    | (go_at_call 26; refine HFI.out.mono ?_; rintro e w5 ⟨rfl, hb5⟩; have HG5 := hide (grI_below HGW.out hb5); have hox5 := (hb5.block _ (Array.getElem?_eq_some_iff.1 HOXe.out).1).trans HOXe.out; obtain ⟨⟨e0, e1⟩, -⟩ := box2_cells hox5; clear hb5 hox5)
                    | (at_builtin; have hown0 := HOWN; clear hown0; refine wpList_append_own_at _ rfl _ _ 37 rfl wq.heap.size 3 i0 (.int .i64 0) 1 8 Tryd.underlying37 hi0 hz0 hz1 hz2 rfl (by decide) _ l (((rowI d lr LF i).take l).map (Value.int .i64)) rfl (HOWN.out.alloc _) ⟨w6.heap.size, 0, none⟩ 1 1 [.int .i64 ((rowG d (O i) S l).length : Int)] rfl rfl (one_new _ _ _) (fun u hu => by simp at hu; subst hu; rfl) (by unfold maxLen; omega) (by omega) (by have := HSZ.out; simp; omega) ?_; intro v7 w7 hown7 hgrow7 _ hat7; have HG7 := hide (grI_row HG6.out (by rw [HTL.out]; exact hown7) hgrow7 hat7); clear hown7 hgrow7 hat7)
                    | (at_builtin; refine wpList_append_queG _ rfl _ _ rfl b' (rowG d (O i) S l).length cp (rowG d (O i) S l) rfl (queG_kept HG5.out.que (Below.heap_alloc _ _ _ (queG_lt HG5.out.que))) ⟨w5.heap.size, 0, none⟩ (d S l) (loS (d S l)) (hiS (d S l)) rfl rfl rfl (two_new _ _ _ _) (by omega) ?_; intro b6 cap6 w6 hq6 hg6 hb6; have HG6 := hide (grI_set HG5.out hq6 hg6 hb6); have HOWN := hide HG6.out.row_; rw [HTL.out] at HOWN; have HSZ := hide HG6.out.size; clear hq6 hg6 hb6))
                  rw [← HRT.out] at HG7
                  have HG8 : Hid (GrI wb wq bq (rowG d (O i) S (l + 1)) ((rowI d lr LF i).take (l + 1)) (.slice (some ⟨b6, 0, none⟩) ((rowG d (O i) S l).length + 1) cap6) v7 w7 b6 cap6 ∧ (rowG d (O i) S (l + 1)).length ≤ 2000) := by
                    have e : rowG d (O i) S (l + 1) = rowG d (O i) S l ++ [d S l] := by rw [HSUC.out, HNEW.out]
                    rw [e]
                    exact ⟨HG7.out, by rw [List.length_append, List.length_singleton]; have := HG3.out; omega⟩
                  go_roundw
                  case rel => exact ⟨l + 1, b6, cap6, by omega, by go_num, HG8.out⟩
                  case measure => simp [intOf]; omega
        · have hlri : ¬ (l : Int) < (lr : Int) := by omega
          obtain rfl : lr = l := by omega
          have HFULL : Hid ((rowI d lr LF i).take lr = rowI d lr LF i) := List.take_of_length_le (by rw [rowI_len]; exact Nat.le_refl _)
          rw [HFULL.out, ← HSU.out] at HGL
          rw [← HSU.out] at hg2 ⊢
          have HB4 : Hid (b' < wr.heap.size ∧ bq < wq.heap.size) := ⟨queG_lt HGL.out.que, queG_lt HQU.out⟩
          have hown := HGL.out.row_
          rw [rowI_len] at hown
          obtain ⟨hw0, hw1⟩ := hown
          rcases hw1 with ⟨rfl, hn0⟩ | ⟨g, cg, cur, rfl, hg, hh, hc, hcm, hcs, ht⟩
          · omega
          have hsg := sl_of_owns (rowI_len d lr LF i) (by unfold maxLen; omega) (rowI_wf HLFB.out) (by have := HGL.out.row_; rwa [rowI_len] at this)
          obtain ⟨ag, cg2, eg, hsg, -⟩ := hsg
          cases eg
          have hat := HGL.out.at_
          have hfar := HGL.out.far
          have hgb : g ≠ b' := fun e => hfar (by simp [Value.ownBlock, e])
          have hbb : wb.heap.size ≤ b' := by
            have h1 := HRW.out.2.2 bq (by simp)
            have h2 := HRW.out.2.1.size
            omega
          have HRW2 : Hid (RwX wb (rowI d lr LF) i u12 [bq, b'] wq) := rwX_turn HRW.out (fun _ _ _ => rfl) (fun x hx => by
            simp at hx
            rcases hx with rfl | rfl
            · exact .inl (by simp)
            · rcases hat with rfl | h
              · exact .inl (by simp)
              · exact .inr h) HRW.out.2.1 (fun x hx => by
            simp at hx
            rcases hx with rfl | rfl
            · exact HRW.out.2.2 _ (by simp)
            · exact hbb)
          have HPU := hide (@rwX_push wb (rowI d lr LF) i u12 [bq, b'] wq wr g cg HRW2.out (fun x hx hne => HGL.out.keep x hx (fun e => hne (by simp [e]))) HGL.out.size HGL.out.below (by rw [rowI_len]; exact hsg) hg (by
            have h1 := HB4.out
            simp
            omega) (fun x hx => by
            have h1 := HB4.out
            have h2 := HGL.out.size
            simp at hx
            omega))
          rw [rowI_len] at HPU
          obtain ⟨vals, c1, c2, c3⟩ := HPU.out
          have HOWN := hide c1
          have HNX := hide c3
          have HLE2 := hide (HOLE.out i (i + 1) (by omega)).length_le
          have HQW := hide HGL.out.que
          have HSZ := hide HGL.out.below.size
          have HBB := hide hbb
          clear c1 c2 c3 HPU hw0 hh hc hcm hcs ht hsg hat hfar hgb hbb
          go_wp2_with (at_builtin; refine wpList_append_lies _ rfl _ _ 22 rfl wb.heap.size 37 j0 (.slice none 0 0) 1 24 Tryd.underlying22 hj0 hy0 hy1 hy2 rfl (by decide) u12 i vals rfl (HOWN.out.alloc _) ⟨wr.heap.size, 0, none⟩ 1 1 [.slice (some ⟨g, 0, none⟩) lr cg] rfl rfl (one_new _ _ _) (fun u hu => by simp at hu; subst hu; rfl) (by omega) (by unfold maxLen; omega) (by omega) (by have := HSZ.out; simp; omega) (wr.heap.size + 1) (by simp) ?_; intro g' cg' w3 hown3 hgrow3 hat3 hlt3; have HN3 := hide (HNX.out w3 _ g' cg' hown3 hgrow3 hat3); clear hown3 hgrow3 hat3)
          have HRE : Hid (RwX wb (rowI d lr LF) (i + 1) (.slice (some ⟨g', 0, none⟩) (i + 1) cg') [b'] w3) := rwX_turn HN3.out.1 (fun _ _ _ => rfl) (fun x hx => by simp at hx; subst hx; exact .inl (by simp)) HN3.out.1.2.1 (fun x hx => by simp at hx; subst hx; exact HBB.out)
          have HQE := hide (queG_kept HQW.out (HN3.out.2 b' (by simp)))
          clear hlt3
          go_roundw
          case rel => exact ⟨i + 1, b', cp, by go_num, by have := HLE2.out; omega, hg2, rfl, HQE.out, HRE.out⟩
          case measure => simp [intOf]; omega
    · have hlti : ¬ (i : Int) < ((O i).length : Int) := by omega
      obtain ⟨hie, hle⟩ : (O i).length = i ∧ LF = O i := by
        have h1 : (O i).length = i := by omega
        refine ⟨h1, ?_⟩
        have := HOT.out i (2000 - i) (by omega)
        rw [Nat.add_sub_cancel' (by omega)] at this
        rw [HLF.out, this]
      have HEND := hide (rwX_end HRW.out (by unfold maxLen; omega) (gN d lr LF) (by rw [gN_len, hle, hie]) (fun j hj => by rw [gN_row (by rw [hle, hie]; exact hj)]; rfl))
      obtain ⟨an, cn, rfl, hsn⟩ := HEND.out
      have HBE := hide (below_step HB0.out HRW.out.2.1)
      have HSN := hide hsn
      have HQE := hide HQU.out
      rw [← hle] at HQE ⊢
      have hlf : LF.length = i := by rw [hle]; exact hie
      rw [← hlf] at HSN
      clear hsn HEND hie hle HOT HLF
      go_wp2
      rw [← hlf]
      exact bodyPost_ret (v := .tuple #[.slice (some ⟨bq, 0, none⟩) LF.length cq, .slice an LF.length cn, .bool true]) (by simp [results, Tryd.results11, go_sem]) rfl ⟨fun _ => ⟨bq, cq, an, cn, rfl, HQE.out, HSN.out, HBE.out⟩, fun h => by omega⟩
end Go.Proofs.YtleebojibobgaaaDoor

/- The reference's single and CloseOf: contracts. -/
namespace Go.Proofs.YtleebojibobgaaaDoor
open Go.RowKit

theorem sl_one (w : World) (x : Int) (hx : (Lit.int .i64 x).wf = true) (T : TypeId) : Sl (w.alloc (.cells #[.int .i64 x] T)) (some ⟨w.heap.size, 0, none⟩) 1 [x] := by
  refine ⟨rfl, by decide, fun y hy => by simp at hy; rw [hy]; exact hx, Or.inr ⟨_, _, rfl, fun i hi => ?_⟩⟩
  rw [cell_of_row _ _ (0 + i) _ T (0, 0) (heap_alloc_last w _)]
  obtain rfl : i = 0 := by omega
  rfl
def GivesRows (w : World) (L : List (List Int)) (e : Ending) (w' : World) : Prop := ∃ a c, e = .returned (.slice a L.length c) ∧ Sl2 w' a L.length L ∧ Below w.heap.size w w'

set_option maxHeartbeats 4000000 in
set_option maxRecDepth 4000 in
theorem single_any (m : Nat) (w : World) (hm : m ≤ 1000) : Calls Tryd.prog 13 #[.int .i64 (m : Int)] w (GivesRows w (sglR m)) := by
  obtain ⟨j0, hj0, hy0, hy1, hy2⟩ := info_parts infoS2
  have HRD := hide (fun l h => @sglR_get m l h)
  have HRL := hide (sglR_len m)
  go_enter Tryd.func13, Tryd.ntmps13
  go_wp2
  go_loopw [3, 4] (fun v lv wx => ∃ l : Nat, l ≤ m ∧ lv = .int .i64 l ∧ RwAt w (fun l => [(l : Int)]) l v wx) (fun _ lv _ => m - (intOf lv).toNat)
  case atStart => exact ⟨0, by omega, rfl, rwAt_nil _ _⟩
  case round =>
    obtain ⟨l, hl, rfl, hrw⟩ := hrel
    have HRW := hide hrw
    clear hrw
    by_cases hlt : l < m
    · have hlti : (l : Int) < (m : Int) := by omega
      have hbr := (Below.refl wr.heap.size wr).alloc (Nat.le_refl _) (.cells #[.int .i64 (l : Int)] 3)
      obtain ⟨vals, hoN, hszN, hnx⟩ := @rwAt_push w wr _ (fun l => [(l : Int)]) l u3 (some ⟨wr.heap.size, 0, none⟩) 1 HRW.out hbr ⟨sl_one wr (l : Int) (WalkArith.wf_i64 (by omega)) 3, fun ad e => by cases e; exact Nat.le_refl _⟩
      have HNX := hide hnx
      have HOWN := hide hoN
      have HSZ := hide hszN
      clear hnx hoN hszN hbr
      go_wp2_with (at_builtin; refine wpList_append_lies _ rfl _ _ 22 rfl w.heap.size 37 j0 (.slice none 0 0) 1 24 Tryd.underlying22 hj0 hy0 hy1 hy2 rfl (by decide) u3 l vals rfl (HOWN.out.alloc _) ⟨wr.heap.size + 1, 0, none⟩ 1 1 [.slice (some ⟨wr.heap.size, 0, none⟩) 1 1] rfl rfl (one_new_at _ _ _ _ (by simp)) (fun u hu => by simp at hu; subst hu; rfl) (by omega) (by unfold maxLen; omega) (by omega) (by have := HSZ.out; simp at this ⊢; omega) _ rfl ?_; intro g' cg w5 hown5 hgrow5 hat5 hlt5; have HN5 := hide (HNX.out w5 _ g' cg hown5 hgrow5 hat5); clear hown5 hgrow5 hat5 hlt5)
      go_roundw
      case rel => exact ⟨l + 1, by omega, by go_num, HN5.out⟩
      case measure => simp [intOf]; omega
    · have hlti : ¬ (l : Int) < (m : Int) := by omega
      obtain rfl : m = l := by omega
      obtain ⟨ax, cx, rfl, hsx⟩ := rwAt_end HRW.out (by unfold maxLen; omega) (sglR m) HRL.out (fun j hj => HRD.out j hj)
      have HSX := hide hsx
      have HB : Hid (Below w.heap.size w wr) := by obtain ⟨_, _, _, h⟩ := HRW.out; exact h
      clear hsx
      go_wp2
      go_ret
      exact ⟨ax, cx, by rw [HRL.out]; simp, by rw [HRL.out]; exact HSX.out, HB.out⟩

set_option maxHeartbeats 4000000 in
set_option maxRecDepth 8000 in
theorem closeOf_bad (b t : Int) (a : Option Addr) (n cap : Nat) (a' : Option Addr) (k cap' : Nat) (N : List (List Int)) (w : World) (hs : Sl2 w a n N) (hk : k ≤ maxLen) (hC : autoC b t N k ≠ 0) :
    Calls Tryd.prog 4 #[.agg #[.int .i64 b, .int .i64 t, .slice a n cap, .slice a' k cap']] w (BothR w 0 0 [] [] (autoC b t N k)) := by
  have hB0 := below_two w (.cells #[.int .i64 b, .int .i64 t, .slice a n cap, .slice a' k cap'] 25) (.cells #[.int .i64 0, .int .i64 0, .slice none 0 0, .slice none 0 0] 25)
  have HB0 := hide hB0
  have HF := hide (afault_u b t a a' n cap k cap' N _ (sl2_below hs hB0) hk)
  have HBX := hide (fun W (h : Below _ _ W) => (@two_boxes w W (.int .i64 b) (.int .i64 t) (.slice a n cap) (.slice a' k cap') (.int .i64 0) (.int .i64 0) (.slice none 0 0) (.slice none 0 0) 25 h).1)
  have HRX := hide (heap_alloc2_snd w (.cells #[.int .i64 b, .int .i64 t, .slice a n cap, .slice a' k cap'] 25) (.cells #[.int .i64 0, .int .i64 0, .slice none 0 0, .slice none 0 0] 25))
  generalize hW0 : (w.alloc (.cells #[.int .i64 b, .int .i64 t, .slice a n cap, .slice a' k cap'] 25)).alloc (.cells #[.int .i64 0, .int .i64 0, .slice none 0 0, .slice none 0 0] 25) = wb at HB0 HF HBX HRX
  clear hs hk hB0
  generalize autoC b t N k = c at HF hC ⊢
  obtain ⟨p0, p1, p2, p3⟩ := HBX.out wb (Below.refl _ _)
  have hxi : (c != 0) = true := by simpa using hC
  clear hC
  go_enter Tryd.func4, Tryd.ntmps4
  go_wp2_with fail
  clear hW0 p0 p1 p2 p3
  refine HF.out.mono ?_
  rintro e w1 ⟨rfl, hb1⟩
  have HB1 := hide hb1
  have HR1 := hide ((hb1.block _ (Array.getElem?_eq_some_iff.1 HRX.out).1).trans HRX.out)
  obtain ⟨⟨r0, r1, r2, r3⟩, rf⟩ := box_cells HR1.out
  clear hb1 HF
  go_wp2
  obtain ⟨⟨hset, -, -⟩, hbel⟩ := box_set0 HR1.out rfl
  obtain ⟨⟨z0, z1, z2, z3⟩, -⟩ := box_cells hset
  exact bodyPost_ret (v := .tuple #[.agg #[.int .i64 0, .int .i64 0, .slice none 0 0, .slice none 0 0], .int .i64 c]) (by simp [results, Tryd.results4, go_sem, z0, z1, z2, z3]) rfl ⟨none, 0, none, 0, rfl, autoNew_nil _ _, hbel _ _ (below_step HB0.out HB1.out) (by omega)⟩
end Go.Proofs.YtleebojibobgaaaDoor

/- The reference's CloseOf, where all is well: contract. -/
namespace Go.Proofs.YtleebojibobgaaaDoor
open Go.RowKit

set_option maxHeartbeats 64000000 in
set_option maxRecDepth 8000 in
theorem closeOf_ok (b t : Int) (a : Option Addr) (n cap : Nat) (a' : Option Addr) (cap' : Nat) (N : List (List Int)) (E : List Bool) (w : World) (hs : Sl2 w a n N) (he : SlB w a' n E) (hA : autoC b t N n = 0) :
    Calls Tryd.prog 4 #[.agg #[.int .i64 b, .int .i64 t, .slice a n cap, .slice a' n cap']] w (BothR w (okI (ccC b t N E n) b) (okI (ccC b t N E n) t) (ccN b t N E n) (ccE b t N E n) (ccC b t N E n)) := by
  have hn : N.length = n := hs.1
  obtain ⟨hM, -, hG, hmu⟩ := autoC_zero hA
  have hn80 := autoC_80 hA
  rw [hn] at hG hn80
  have hK80 := leastK_80 hG E hn80
  have hLG := least_good hG E
  have HCC : Hid (ccC b t N E n = if 2000 < (ccL b t N E).length then 3 else if 80 < leastK (ccGN b t N E) (ccGE b t N E) (manyU b t).toNat then 3 else 0) := by show _ = _; unfold ccC; rw [if_pos hA]
  have HNN : Hid (ccN b t N E n = if ccC b t N E n = 0 then leastN (ccGN b t N E) (ccGE b t N E) (manyU b t).toNat else []) := by show _ = _; rfl
  have HEE : Hid (ccE b t N E n = if ccC b t N E n = 0 then leastE (ccGN b t N E) (ccGE b t N E) (manyU b t).toNat else []) := by show _ = _; rfl
  have HSG := hide (fun h => cc_good (b := b) (t := t) (E := E) hG h)
  have hL : ccL b t N E = outG (dM (leastN N E (manyU b t).toNat) (leastK N E (manyU b t).toNat) (sglR (manyU b t).toNat)) (manyU b t).toNat (cloM (leastN N E (manyU b t).toNat) (leastK N E (manyU b t).toNat) [0]) 2000 := by unfold ccL setsS; rw [sglR_len]
  have hGN : ccGN b t N E = clN (dM (leastN N E (manyU b t).toNat) (leastK N E (manyU b t).toNat) (sglR (manyU b t).toNat)) (manyU b t).toNat (ccL b t N E) := rfl
  have hGE : ccGE b t N E = clE (endM (leastK N E (manyU b t).toNat) (leastE N E (manyU b t).toNat)) (ccL b t N E) := rfl
  generalize (manyU b t).toNat = m at *
  have hm1 := hG.2.2.2.2.1
  have hm36 := hG.2.2.2.1
  have hl0' : ∀ x ∈ [(0 : Int)], 0 ≤ x ∧ x < (m : Int) := by intro x hx; simp at hx; omega
  have HB0' := below_two w (.cells #[.int .i64 b, .int .i64 t, .slice a n cap, .slice a' n cap'] 25) (.cells #[.int .i64 0, .int .i64 0, .slice none 0 0, .slice none 0 0] 25)
  have HB0 := hide HB0'
  have HF := hide (afault_u b t a a' n cap n cap' N _ (sl2_below hs HB0') he.2.1)
  rw [hA] at HF
  have HS := hide (sl2_below hs HB0')
  have HE := hide (slB_below he HB0')
  have HLO := hide (fun W k1 k2 => leastOf_any b t a n cap m N a' cap' E W k1 hG k2 hK80)
  unfold GivesAuto at HLO
  rw [leastN_len N E m] at HLO
  have HSI := hide (fun W => single_any m W (by omega))
  unfold GivesRows at HSI
  rw [sglR_len] at HSI
  have HCC1 := hide (fun an cn an' cn' al W k1 k2 => closed_any b t an (leastK N E m) cn an' (leastK N E m) cn' m (leastN N E m) al 1 1 [0] W k1 hLG hK80 k2 hl0' (by decide))
  unfold GivesSet at HCC1
  have HGR := hide (fun an cn an' cn' ar cr W k1 k2 => grown_any b t an (leastK N E m) cn an' (leastK N E m) cn' m (leastN N E m) (cloM (leastN N E m) (leastK N E m) [0]) ar m cr (sglR m) W k1 hLG hK80 k2 (sglR_ok m) (fun l hl => by rw [sglR_get hl]; simp) (cloM_lt _ _ _) hm1 hm36)
  rw [← hL] at HGR
  unfold GrownR at HGR
  have HLB : Hid (∀ x ∈ ccL b t N E, x < 2 ^ 80) := fun x hx => by
    rw [hL] at hx
    obtain ⟨u, _, rfl⟩ := outG_reach hx
    refine Nat.lt_of_lt_of_le (m := 2 ^ leastK N E m) ?_ (Nat.pow_le_pow_right (by decide) hK80)
    induction u using list_snoc_ind with
    | h0 => exact cloM_lt _ _ _
    | h1 u y _ => rw [runG_snoc]; exact stepM_lt _ _ _ _
  have HL0 : Hid (0 < (ccL b t N E).length) := by rw [hL]; exact (outG_pos _ _ _ _).1
  have HEN := hide (fun an cn an' cn' M W k1 k2 => ended_any b t an (leastK N E m) cn an' cn' (leastE N E m) M W k1 k2 hK80)
  have HSHR := hide (fun an cn an' cn' W k1 k2 k3 => shrunk_u b t an ((ccL b t N E).length + 1) cn m (ccGN b t N E) an' cn' (ccGE b t N E) W k1 k2 k3)
  unfold ShrR ShrU at HSHR
  have HROW0 := hide (hLG.2.2.2.2.2 0 hLG.2.1).1
  have hLK1 := hLG.2.1
  have HBX := hide (fun W (h : Below _ _ W) => (@two_boxes w W (.int .i64 b) (.int .i64 t) (.slice a n cap) (.slice a' n cap') (.int .i64 0) (.int .i64 0) (.slice none 0 0) (.slice none 0 0) 25 h).1)
  have HRX := hide (heap_alloc2_snd w (.cells #[.int .i64 b, .int .i64 t, .slice a n cap, .slice a' n cap'] 25) (.cells #[.int .i64 0, .int .i64 0, .slice none 0 0, .slice none 0 0] 25))
  rw [hGN, hGE] at HSHR HCC HNN HEE
  rw [hGN] at HSG
  clear hs he hA hn hG hn80 hLG HB0' hM hmu hL hGN hGE hl0'
  generalize ccL b t N E = LS at HCC HNN HEE HSG HGR HLB HL0 HSHR
  generalize ccC b t N E n = c2 at HCC HNN HEE ⊢
  generalize ccN b t N E n = ZN at HNN ⊢
  generalize ccE b t N E n = ZE at HEE ⊢
  generalize hd : dM (leastN N E m) (leastK N E m) (sglR m) = d at HSG HSHR HCC HNN HEE HGR
  generalize hcl : cloM (leastN N E m) (leastK N E m) [0] = C0 at HGR HCC1
  clear hd hcl
  generalize hpE : endM (leastK N E m) (leastE N E m) = pE at HSHR HCC HNN HEE HEN
  clear hpE
  generalize leastN N E m = LN at HLO HCC1 HGR HEN HROW0
  generalize leastE N E m = LE at HLO HEN
  generalize leastK N E m = LK at HLO HCC1 HGR HEN hK80 hLK1
  generalize hW0 : (w.alloc (.cells #[.int .i64 b, .int .i64 t, .slice a n cap, .slice a' n cap'] 25)).alloc (.cells #[.int .i64 0, .int .i64 0, .slice none 0 0, .slice none 0 0] 25) = wb at HB0 HF HS HE HBX HRX
  have HSZ0 : Hid (wb.heap.size = w.heap.size + 2) := by show _ = _; rw [← hW0]; simp
  obtain ⟨i0, hi0, hz0, hz1, hz2⟩ := info_parts info3
  obtain ⟨j0, hj0, hy0, hy1, hy2⟩ := info_parts infoS2
  obtain ⟨l0, hl0, hv0, hv1, hv2⟩ := info_parts infoBo
  obtain ⟨p0, p1, p2, p3⟩ := HBX.out wb (Below.refl _ _)
  go_enter Tryd.func4, Tryd.ntmps4
  go_wp2_with fail
  clear hW0 p0 p1 p2 p3
  refine HF.out.mono ?_
  rintro e w1 ⟨rfl, hb1⟩
  have HB1 := hide hb1
  obtain ⟨p0, p1, p2, p3⟩ := HBX.out w1 hb1
  have HC := hide (HLO.out w1 (sl2_below HS.out hb1) (slB_below HE.out hb1))
  clear hb1 HF HLO
  go_wp2_with fail
  clear p0 p1 p2 p3
  refine HC.out.mono ?_
  rintro e w2 ⟨am, cm, am', cm', rfl, hnew, hb2'⟩
  have hbz := (Below.refl w2.heap.size w2).alloc (Nat.le_refl _) (.cells #[.int .i64 b, .int .i64 t, .slice am LK cm, .slice am' LK cm'] 25)
  have HB3 := hide (below_step HB1.out (below_step hb2' hbz))
  have HMB := hide (heap_alloc_last w2 (.cells #[.int .i64 b, .int .i64 t, .slice am LK cm, .slice am' LK cm'] 25))
  have HMN := hide (hnew.below hbz).here
  clear hnew hb2' hbz HC
  obtain ⟨bn, on, an0, cn0, rfl, hcn0, -⟩ := sl2_cell HMN.out.1 0 hLK1
  rw [HROW0.out] at hcn0
  have HCN0 := hide hcn0
  have hLKi : (0 : Int) < (LK : Int) := by omega
  clear hcn0
  go_wp2
  generalize w2.alloc (.cells #[.int .i64 b, .int .i64 t, .slice (some ⟨bn, on, none⟩) LK cm, .slice am' LK cm'] 25) = w3 at HB3 HMB HMN HCN0 ⊢
  have HCC1 := hide (fun al W k1 k2 => HCC1.out (some ⟨bn, on, none⟩) cm am' cm' al W k1 k2)
  have HBR := hide (Below.refl w3.heap.size w3)
  have HC6 : Hid (∀ W, Below w3.heap.size w3 W → (fun W => W.cell? ⟨w2.heap.size, 0, none⟩ = some (.int .i64 b) ∧ W.cell? ⟨w2.heap.size, 1, none⟩ = some (.int .i64 t) ∧ W.cell? ⟨w2.heap.size, 2, none⟩ = some (.slice (some ⟨bn, on, none⟩) LK cm) ∧ W.cell? ⟨w2.heap.size, 3, none⟩ = some (.slice am' LK cm') ∧ W.cell? ⟨bn, on, none⟩ = some (.slice an0 m cn0)) W) := fun W hW => by
    obtain ⟨⟨k0, k1, k2, k3⟩, -⟩ := box_cells ((hW.block _ (Array.getElem?_eq_some_iff.1 HMB.out).1).trans HMB.out)
    exact ⟨k0, k1, k2, k3, (hW.cell (p := ⟨bn, on, none⟩) (World.block_lt_of_cell? _ _ HCN0.out)).trans HCN0.out⟩
  refine wp_region_held_drew (S := (fun W => W.cell? ⟨w2.heap.size, 0, none⟩ = some (.int .i64 b) ∧ W.cell? ⟨w2.heap.size, 1, none⟩ = some (.int .i64 t) ∧ W.cell? ⟨w2.heap.size, 2, none⟩ = some (.slice (some ⟨bn, on, none⟩) LK cm) ∧ W.cell? ⟨w2.heap.size, 3, none⟩ = some (.slice am' LK cm') ∧ W.cell? ⟨bn, on, none⟩ = some (.slice an0 m cn0))) (by kernel_rfl) (HC6.out _ HBR.out.drew) (fun hHeld => ?_)
  refine wpAnyH_take (i := 0) (v := .agg #[.int .i64 b, .int .i64 t, .slice (some ⟨bn, on, none⟩) LK cm, .slice am' LK cm']) rfl (by kernel_rfl) (by kernel_rfl) (by kernel_rfl) (fun _ _ _ h => h) (Or.inl ⟨by rfl, fun W hSW => ?_⟩) hHeld ?_
  · obtain ⟨r1, r2, r3, r4, r5⟩ := hSW; go_simp
  simp only [List.getElem_toArray, List.getElem_cons_zero, Act.put, List.setIfInBounds_toArray, List.set_cons_zero, List.set_cons_succ]
  refine wpAnyH_take (i := 1) (v := .agg #[.int .i64 b, .int .i64 t, .slice (some ⟨bn, on, none⟩) LK cm, .slice am' LK cm']) rfl (by kernel_rfl) (by kernel_rfl) (by kernel_rfl) (fun _ _ _ h => h) (Or.inl ⟨by rfl, fun W hSW => ?_⟩) hHeld ?_
  · obtain ⟨r1, r2, r3, r4, r5⟩ := hSW; go_simp
  simp only [List.getElem_toArray, List.getElem_cons_zero, List.getElem_cons_succ, Act.put, List.setIfInBounds_toArray, List.set_cons_zero, List.set_cons_succ]
  refine wpAnyH_take (i := 4) (v := .pointer (some ⟨w2.heap.size, 2, none⟩)) rfl (by kernel_rfl) (by kernel_rfl) (by kernel_rfl) (fun _ _ _ h => h) (Or.inl ⟨by rfl, fun W hSW => ?_⟩) hHeld ?_
  · obtain ⟨r1, r2, r3, r4, r5⟩ := hSW; go_simp
  simp only [List.getElem_toArray, List.getElem_cons_zero, List.getElem_cons_succ, Act.put, List.setIfInBounds_toArray, List.set_cons_zero, List.set_cons_succ]
  refine wpAnyH_take (i := 5) (v := .slice (some ⟨bn, on, none⟩) LK cm) rfl (by kernel_rfl) (by kernel_rfl) (by kernel_rfl) (fun _ _ _ h => h) (Or.inl ⟨by rfl, fun W hSW => ?_⟩) hHeld ?_
  · obtain ⟨r1, r2, r3, r4, r5⟩ := hSW; go_simp
  simp only [List.getElem_toArray, List.getElem_cons_zero, List.getElem_cons_succ, Act.put, List.setIfInBounds_toArray, List.set_cons_zero, List.set_cons_succ]
  refine wpAnyH_take (i := 6) (v := .pointer (some ⟨bn, on, none⟩)) rfl (by kernel_rfl) (by kernel_rfl) (by kernel_rfl) (fun _ _ _ h => h) (Or.inl ⟨by rfl, fun W hSW => ?_⟩) hHeld ?_
  · obtain ⟨r1, r2, r3, r4, r5⟩ := hSW; go_simp; intro h0; omega
  simp only [List.getElem_toArray, List.getElem_cons_zero, List.getElem_cons_succ, Act.put, List.setIfInBounds_toArray, List.set_cons_zero, List.set_cons_succ]
  refine wpAnyH_take (i := 7) (v := .slice an0 m cn0) rfl (by kernel_rfl) (by kernel_rfl) (by kernel_rfl) (fun _ _ _ h => h) (Or.inl ⟨by rfl, fun W hSW => ?_⟩) hHeld ?_
  · obtain ⟨r1, r2, r3, r4, r5⟩ := hSW; go_simp
  simp only [List.getElem_toArray, List.getElem_cons_zero, List.getElem_cons_succ, Act.put, List.setIfInBounds_toArray, List.set_cons_zero, List.set_cons_succ]
  refine wpAnyH_take (i := 8) (v := .int .i64 (m : Int)) rfl (by kernel_rfl) (by kernel_rfl) (by kernel_rfl) (fun _ _ _ h => h) (Or.inl ⟨by rfl, fun W hSW => ?_⟩) hHeld ?_
  · obtain ⟨r1, r2, r3, r4, r5⟩ := hSW; go_simp
  simp only [List.getElem_toArray, List.getElem_cons_zero, List.getElem_cons_succ, Act.put, List.setIfInBounds_toArray, List.set_cons_zero, List.set_cons_succ]
  refine wpAnyH_ready (rs := [2]) (by kernel_rfl) (by simp) (AllReadyH.cons rfl (fun K hK => ?_) AllReadyH.nil)
  go_simp
  have HBA := hide (HBR.out.drew.alloc (Nat.le_refl _) (.cells #[.int .i64 0] 3))
  refine hK.out _ _ (HC6.out _ HBA.out) (fun _ => ?_)
  clear hK K
  refine wpAnyH_ready (rs := [3]) (by kernel_rfl) (by simp) (AllReadyH.cons rfl (fun K hK => ?_) AllReadyH.nil)
  go_simp
  go_wp2_with (go_at_call 12; refine (HCC1.out (some ⟨w3.heap.size, 0, none⟩) _ (sl2_below HMN.out.1 HBA.out) (sl_one w3.drew 0 (by decide) 3)).mono ?_; rintro e w5 ⟨rfl, hb5⟩; have HB5 := hide (below_step HBA.out hb5); have HR5 := hide hb5; clear hb5)
  refine hK.out _ _ (HC6.out _ HB5.out) (fun _ => ?_)
  clear hK K
  refine wpAnyH_ready (rs := [9]) (by kernel_rfl) (by simp) (AllReadyH.cons rfl (fun K hK => ?_) AllReadyH.nil)
  go_simp
  go_wp2_with (go_at_call 13; refine (HSI.out _).mono ?_; rintro e w6 ⟨asg, csg, rfl, hsg, hb6⟩; have HB6 := hide (below_step HB5.out hb6); have HR6 := hide hb6; have HSGL := hide hsg; clear hsg hb6)
  refine hK.out _ _ (HC6.out _ HB6.out) (fun _ => ?_)
  clear hK K
  refine wpAnyH_ready (rs := [10]) (by kernel_rfl) (by simp) (AllReadyH.cons rfl (fun K hK => ?_) AllReadyH.nil)
  go_simp
  go_wp2_with fail
  refine (HGR.out (some ⟨bn, on, none⟩) cm am' cm' asg csg w6 (sl2_below HMN.out.1 HB6.out) HSGL.out).mono ?_
  rintro e w7 ⟨hyes, hno⟩
  rcases Nat.lt_or_ge 2000 LS.length with h20 | h20
  · obtain ⟨rfl, hb7⟩ := hno h20
    have H20 := hide h20
    have HB7 := hide (below_step HB6.out hb7)
    clear hyes hno hb7 h20
    refine hK.out _ _ (HC6.out _ HB7.out) (fun _ => ?_)
    clear hK K
    refine wpAnyH_take (i := 11) (v := .tuple #[.slice none 0 0, .slice none 0 0, .bool false]) rfl (by kernel_rfl) (by kernel_rfl) (by kernel_rfl) (fun _ _ _ h => h) (Or.inl ⟨by rfl, fun W hSW => ?_⟩) (HC6.out _ HB7.out) ?_
    · obtain ⟨r1, r2, r3, r4, r5⟩ := hSW; go_simp
    simp only [List.getElem_toArray, List.getElem_cons_zero, List.getElem_cons_succ, Act.put, List.setIfInBounds_toArray, List.set_cons_zero, List.set_cons_succ]
    refine wpAnyH_take (i := 12) (v := .slice none 0 0) rfl (by kernel_rfl) (by kernel_rfl) (by kernel_rfl) (fun _ _ _ h => h) (Or.inl ⟨by rfl, fun W hSW => ?_⟩) (HC6.out _ HB7.out) ?_
    · obtain ⟨r1, r2, r3, r4, r5⟩ := hSW; go_simp
    simp only [List.getElem_toArray, List.getElem_cons_zero, List.getElem_cons_succ, Act.put, List.setIfInBounds_toArray, List.set_cons_zero, List.set_cons_succ]
    refine wpAnyH_take (i := 13) (v := .slice none 0 0) rfl (by kernel_rfl) (by kernel_rfl) (by kernel_rfl) (fun _ _ _ h => h) (Or.inl ⟨by rfl, fun W hSW => ?_⟩) (HC6.out _ HB7.out) ?_
    · obtain ⟨r1, r2, r3, r4, r5⟩ := hSW; go_simp
    simp only [List.getElem_toArray, List.getElem_cons_zero, List.getElem_cons_succ, Act.put, List.setIfInBounds_toArray, List.set_cons_zero, List.set_cons_succ]
    refine wpAnyH_take (i := 14) (v := .bool false) rfl (by kernel_rfl) (by kernel_rfl) (by kernel_rfl) (fun _ _ _ h => h) (Or.inl ⟨by rfl, fun W hSW => ?_⟩) (HC6.out _ HB7.out) ?_
    · obtain ⟨r1, r2, r3, r4, r5⟩ := hSW; go_simp
    simp only [List.getElem_toArray, List.getElem_cons_zero, List.getElem_cons_succ, Act.put, List.setIfInBounds_toArray, List.set_cons_zero, List.set_cons_succ]
    refine wpAnyH_take (i := 15) (v := .slice none 0 0) rfl (by kernel_rfl) (by kernel_rfl) (by kernel_rfl) (fun _ _ _ h => h) (Or.inl ⟨by rfl, fun W hSW => ?_⟩) (HC6.out _ HB7.out) ?_
    · obtain ⟨r1, r2, r3, r4, r5⟩ := hSW; go_simp
    simp only [List.getElem_toArray, List.getElem_cons_zero, List.getElem_cons_succ, Act.put, List.setIfInBounds_toArray, List.set_cons_zero, List.set_cons_succ]
    refine wpAnyH_take (i := 16) (v := .slice none 0 0) rfl (by kernel_rfl) (by kernel_rfl) (by kernel_rfl) (fun _ _ _ h => h) (Or.inl ⟨by rfl, fun W hSW => ?_⟩) (HC6.out _ HB7.out) ?_
    · obtain ⟨r1, r2, r3, r4, r5⟩ := hSW; go_simp
    simp only [List.getElem_toArray, List.getElem_cons_zero, List.getElem_cons_succ, Act.put, List.setIfInBounds_toArray, List.set_cons_zero, List.set_cons_succ]
    refine wpAnyH_take (i := 17) (v := .bool false) rfl (by kernel_rfl) (by kernel_rfl) (by kernel_rfl) (fun _ _ _ h => h) (Or.inl ⟨by rfl, fun W hSW => ?_⟩) (HC6.out _ HB7.out) ?_
    · obtain ⟨r1, r2, r3, r4, r5⟩ := hSW; go_simp
    simp only [List.getElem_toArray, List.getElem_cons_zero, List.getElem_cons_succ, Act.put, List.setIfInBounds_toArray, List.set_cons_zero, List.set_cons_succ]
    refine wpAnyH_done (by kernel_rfl) ?_ _
    have hc2 : c2 = 3 := by rw [HCC.out, if_pos H20.out]
    have hne2 : ¬ (c2 = 0) := by rw [hc2]; decide
    rw [if_neg hne2] at HNN HEE
    have hz1 := HNN.out
    have hz2 := HEE.out
    have hr7 := ((below_step HB3.out HB7.out).block _ (Array.getElem?_eq_some_iff.1 HRX.out).1).trans HRX.out
    have HR7 := hide hr7
    obtain ⟨⟨o0, o1, o2, o3⟩, of⟩ := box_cells hr7
    clear hr7 hne2 HCC HNN HEE
    subst hz1 hz2 hc2
    go_wp2
    obtain ⟨⟨hset, -, -⟩, hbel⟩ := box_set0 HR7.out rfl
    obtain ⟨⟨z0, z1, z2, z3⟩, -⟩ := box_cells hset
    exact bodyPost_ret (v := .tuple #[.agg #[.int .i64 0, .int .i64 0, .slice none 0 0, .slice none 0 0], .int .i64 3]) (by simp [results, Tryd.results4, go_sem, z0, z1, z2, z3]) rfl ⟨none, 0, none, 0, rfl, autoNew_nil _ _, hbel _ _ (below_step HB0.out (below_step HB3.out HB7.out)) (by omega)⟩
  · obtain ⟨bs, cs, an, cn, rfl, hq7, hsn7, hb7⟩ := hyes h20
    have H20 := hide h20
    have HQ7 := hide hq7
    have HSN7 := hide hsn7
    have HB7 := hide (below_step HB6.out hb7)
    clear hyes hno hb7 h20 hq7 hsn7
    refine hK.out _ _ (HC6.out _ HB7.out) (fun _ => ?_)
    clear hK K
    refine wpAnyH_take (i := 11) (v := .tuple #[.slice (some ⟨bs, 0, none⟩) LS.length cs, .slice an LS.length cn, .bool true]) rfl (by kernel_rfl) (by kernel_rfl) (by kernel_rfl) (fun _ _ _ h => h) (Or.inl ⟨by rfl, fun W hSW => ?_⟩) (HC6.out _ HB7.out) ?_
    · obtain ⟨r1, r2, r3, r4, r5⟩ := hSW; go_simp
    simp only [List.getElem_toArray, List.getElem_cons_zero, List.getElem_cons_succ, Act.put, List.setIfInBounds_toArray, List.set_cons_zero, List.set_cons_succ]
    refine wpAnyH_take (i := 12) (v := .slice (some ⟨bs, 0, none⟩) LS.length cs) rfl (by kernel_rfl) (by kernel_rfl) (by kernel_rfl) (fun _ _ _ h => h) (Or.inl ⟨by rfl, fun W hSW => ?_⟩) (HC6.out _ HB7.out) ?_
    · obtain ⟨r1, r2, r3, r4, r5⟩ := hSW; go_simp
    simp only [List.getElem_toArray, List.getElem_cons_zero, List.getElem_cons_succ, Act.put, List.setIfInBounds_toArray, List.set_cons_zero, List.set_cons_succ]
    refine wpAnyH_take (i := 13) (v := .slice an LS.length cn) rfl (by kernel_rfl) (by kernel_rfl) (by kernel_rfl) (fun _ _ _ h => h) (Or.inl ⟨by rfl, fun W hSW => ?_⟩) (HC6.out _ HB7.out) ?_
    · obtain ⟨r1, r2, r3, r4, r5⟩ := hSW; go_simp
    simp only [List.getElem_toArray, List.getElem_cons_zero, List.getElem_cons_succ, Act.put, List.setIfInBounds_toArray, List.set_cons_zero, List.set_cons_succ]
    refine wpAnyH_take (i := 14) (v := .bool true) rfl (by kernel_rfl) (by kernel_rfl) (by kernel_rfl) (fun _ _ _ h => h) (Or.inl ⟨by rfl, fun W hSW => ?_⟩) (HC6.out _ HB7.out) ?_
    · obtain ⟨r1, r2, r3, r4, r5⟩ := hSW; go_simp
    simp only [List.getElem_toArray, List.getElem_cons_zero, List.getElem_cons_succ, Act.put, List.setIfInBounds_toArray, List.set_cons_zero, List.set_cons_succ]
    refine wpAnyH_take (i := 15) (v := .slice (some ⟨bs, 0, none⟩) LS.length cs) rfl (by kernel_rfl) (by kernel_rfl) (by kernel_rfl) (fun _ _ _ h => h) (Or.inl ⟨by rfl, fun W hSW => ?_⟩) (HC6.out _ HB7.out) ?_
    · obtain ⟨r1, r2, r3, r4, r5⟩ := hSW; go_simp
    simp only [List.getElem_toArray, List.getElem_cons_zero, List.getElem_cons_succ, Act.put, List.setIfInBounds_toArray, List.set_cons_zero, List.set_cons_succ]
    refine wpAnyH_take (i := 16) (v := .slice an LS.length cn) rfl (by kernel_rfl) (by kernel_rfl) (by kernel_rfl) (fun _ _ _ h => h) (Or.inl ⟨by rfl, fun W hSW => ?_⟩) (HC6.out _ HB7.out) ?_
    · obtain ⟨r1, r2, r3, r4, r5⟩ := hSW; go_simp
    simp only [List.getElem_toArray, List.getElem_cons_zero, List.getElem_cons_succ, Act.put, List.setIfInBounds_toArray, List.set_cons_zero, List.set_cons_succ]
    refine wpAnyH_take (i := 17) (v := .bool true) rfl (by kernel_rfl) (by kernel_rfl) (by kernel_rfl) (fun _ _ _ h => h) (Or.inl ⟨by rfl, fun W hSW => ?_⟩) (HC6.out _ HB7.out) ?_
    · obtain ⟨r1, r2, r3, r4, r5⟩ := hSW; go_simp
    simp only [List.getElem_toArray, List.getElem_cons_zero, List.getElem_cons_succ, Act.put, List.setIfInBounds_toArray, List.set_cons_zero, List.set_cons_succ]
    refine wpAnyH_done (by kernel_rfl) ?_ _
    have HC27 : Hid (¬ 2000 < LS.length) := by show ¬ _; have := H20.out; omega
    rw [if_neg HC27.out] at HCC
    have HSGG := hide (HSG.out H20.out)
    have HGNL : Hid (∀ f, f < LS.length → ((gN d m LS).getD f []).length = m) := fun f hf => by rw [gN_row hf]; simp
    have HVAL0 : Hid (∀ l, l < m → ∃ x : Nat, ((gN d m LS).getD 0 []).getD l 0 = (x : Int) ∧ x ≤ LS.length ∧ ((clN d m LS).getD 0 []).getD l 0 = if l = 0 then 0 else (x : Int) + 1) := fun l hl => ⟨LS.idxOf (d (LS.getD 0 0) l), gN_cell HL0.out hl, List.idxOf_le_length, clN_zero hl⟩
    have HVALS : Hid (∀ p, p < LS.length → ∀ l, l < m → ∃ x : Nat, ((gN d m LS).getD p []).getD l 0 = (x : Int) ∧ x ≤ LS.length ∧ ((clN d m LS).getD (p + 1) []).getD l 0 = (x : Int) + 1) := fun p hp l hl => ⟨LS.idxOf (d (LS.getD p 0) l), gN_cell hp hl, List.idxOf_le_length, clN_succ hp hl⟩
    have HEV0 : Hid ((clE pE LS).getD 0 false = pE (LS.getD 0 0)) := by show _ = _; simp [clE]
    have HEVS : Hid (∀ p, p < LS.length → (clE pE LS).getD (p + 1) false = pE (LS.getD p 0)) := fun p hp => by
      have := gE_get (p := pE) hp
      rw [← this]
      simp [clE]
    have HBW3 := hide (below_step HB3.out HB7.out)
    have HP0 := hide (prAt_start w7 (fun s => (clN d m LS).getD s []) (fun s => (clE pE LS).getD s false))
    have hi2 := H20.out
    go_wp2
    go_loopw [10, 11, 12] (fun v v' iv wx => ∃ q : Nat, q ≤ LS.length + 1 ∧ iv = .int .i64 ((q : Int) - 1) ∧ PrAt w7 (fun s => (clN d m LS).getD s []) (fun s => (clE pE LS).getD s false) q q v v' wx) (fun _ _ iv _ => LS.length + 1 - (intOf iv + 1).toNat)
    case atStart => exact ⟨0, by omega, rfl, HP0.out⟩
    case round =>
      obtain ⟨q, hq, rfl, hpr⟩ := hrel
      have HPR := hide hpr
      have HBW : Hid (Below w7.heap.size w7 wr) := by obtain ⟨_, _, _, _, h⟩ := hpr; exact h
      clear hpr
      by_cases hlt : q < LS.length + 1
      · cases q with
        | zero =>
          rw [show (((0 : Nat) : Int) - 1) = -1 from rfl]
          have hlti : (-1 : Int) < (LS.length : Int) := by omega
          have hfl : 0 < LS.length := HL0.out
          have HVAL := hide HVAL0.out
          have HEVV := hide HEV0.out
          have HFL : Hid (0 < LS.length) := hfl
          have HROWL : Hid (((clN d m LS).getD 0 []).length = m) := (HSGG.out.2.2.2.2.2 0 (by omega)).1
          have HROWV := hide (HSGG.out.2.2.2.2.2 0 (by omega)).2
          obtain ⟨row, hrow⟩ : ∃ row, row = (clN d m LS).getD 0 [] := ⟨_, rfl⟩
          rw [← hrow] at HROWL HROWV HVAL
          have HROW := hide hrow
          have HG0 : Hid (GrowR wr (row.take 0) (.slice none 0 0) wr) := ⟨World.ownsRow_nil _ _ _ _, Below.refl _ _⟩
          clear hrow
          go_wp2
          obtain ⟨wq, hwq⟩ : ∃ wq : World, wq = wr := ⟨_, rfl⟩
          rw [← hwq] at HPR HBW HG0 ⊢
          clear hwq wr
          go_loopw [14, 15] (fun v lv wx => ∃ l : Nat, l ≤ m ∧ lv = .int .i64 l ∧ GrowR wq (row.take l) v wx) (fun _ lv _ => m - (intOf lv).toNat)
          case atStart => exact ⟨0, by omega, rfl, HG0.out⟩
          case round =>
            obtain ⟨l, hl, rfl, hgr⟩ := hrel
            have HGRr := hide hgr
            have HBL := hide (below_step HBW.out hgr.2)
            clear hgr
            obtain ⟨bx, ox, ax, cx, rfl, hcx, hsx⟩ := sl2_cell (sl2_below HSN7.out HBL.out) 0 HFL.out
            rw [HGNL.out 0 HFL.out] at hcx hsx
            rw [Nat.add_zero] at hcx
            have HSX := hide hsx
            clear hsx
            by_cases hlm : l < m
            · have hlmi : (l : Int) < (m : Int) := by omega
              obtain ⟨b1, o1, rfl, hc1⟩ := sl_cell HSX.out l hlm
              obtain ⟨x, hx1, hx2, hx3⟩ := HVAL.out l hlm
              rw [hx1] at hc1
              have HTS : Hid (row.take (l + 1) = row.take l ++ [row.getD l 0]) := by show _ = _; rw [List.take_succ_eq_append_getElem (by have := HROWL.out; omega), getD_at _ l (by have := HROWL.out; omega)]
              have HTL : Hid ((row.take l).length = l) := by show _ = _; rw [List.length_take]; have := HROWL.out; omega
              have HOWN := hide HGRr.out.1
              rw [HTL.out] at HOWN
              have HSZ := hide HGRr.out.2.size
              clear hx1
              by_cases hl0' : l = 0
              · have HV2 : Hid (row.getD l 0 = 0) := by show _ = _; rw [hx3, if_pos hl0']
                have hl0i : ((l : Int) == 0) = true := by simp [hl0']
                clear hx3 hl0'
                go_wp2_with (at_builtin; refine wpList_append_own _ rfl _ _ 37 rfl wq.heap.size 3 i0 (.int .i64 0) 1 8 Tryd.underlying37 hi0 hz0 hz1 hz2 rfl (by decide) _ l ((row.take l).map (Value.int .i64)) rfl (HOWN.out.alloc _) ⟨wr.heap.size, 0, none⟩ 1 1 [.int .i64 (0)] rfl rfl (one_new _ _ _) (fun u hu => by simp at hu; subst hu; rfl) (by unfold maxLen; omega) (by omega) (by have := HSZ.out; simp; omega) ?_; intro v6 w6' hown6 hgrow6 _)
                go_roundw
                case rel => exact ⟨l + 1, by omega, by go_num, by rw [HTS.out, HV2.out]; exact growR_push HGRr.out (by rw [HTL.out]; exact hown6) hgrow6⟩
                case measure => simp [intOf]; omega
              · have HV2 : Hid (row.getD l 0 = (x : Int) + 1) := by show _ = _; rw [hx3, if_neg hl0']
                have hl0i : ((l : Int) == 0) = false := by simp; omega
                clear hx3
                go_wp2_with (at_builtin; refine wpList_append_own _ rfl _ _ 37 rfl wq.heap.size 3 i0 (.int .i64 0) 1 8 Tryd.underlying37 hi0 hz0 hz1 hz2 rfl (by decide) _ l ((row.take l).map (Value.int .i64)) rfl (HOWN.out.alloc _) ⟨wr.heap.size, 0, none⟩ 1 1 [.int .i64 ((x : Int) + 1)] rfl rfl (one_new _ _ _) (fun u hu => by simp at hu; subst hu; rfl) (by unfold maxLen; omega) (by omega) (by have := HSZ.out; simp; omega) ?_; intro v6 w6' hown6 hgrow6 _)
                go_roundw
                case rel => exact ⟨l + 1, by omega, by go_num, by rw [HTS.out, HV2.out]; exact growR_push HGRr.out (by rw [HTL.out]; exact hown6) hgrow6⟩
                case measure => simp [intOf]; omega
            · have hlmi : ¬ (l : Int) < (m : Int) := by omega
              obtain rfl : m = l := by omega
              have HFULL : Hid (row.take m = row) := List.take_of_length_le (by have := HROWL.out; omega)
              rw [HFULL.out] at HGRr
              have hwf : ∀ z ∈ row, (Lit.int .i64 z).wf = true := fun z hz => by
                obtain ⟨i, hi, rfl⟩ := List.getElem_of_mem hz
                have h1 := HROWV.out i (by have := HROWL.out; omega)
                rw [getD_at _ i hi] at h1
                have := H20.out
                exact WalkArith.wf_i64 (by omega)
              obtain ⟨ar, cr, rfl, hsr⟩ := sl_of_owns rfl (by unfold maxLen; have := HROWL.out; omega) hwf HGRr.out.1
              have HON := hide (@prAt_N w7 (fun s => (clN d m LS).getD s []) (fun s => (clE pE LS).getD s false) (0) (0) u10 u11 wq wr ar cr HPR.out HGRr.out.2 (by simp only [← HROW.out]; exact hsr))
              simp only [← HROW.out] at HON
              rw [HROWL.out] at HON
              obtain ⟨vals, hoN, hszN, hnx⟩ := HON.out
              have HNX := hide hnx
              have HOWN := hide hoN
              have HSZ := hide hszN
              have HPX := hide (fun (w3' : World) v3 (h : PrAt w7 (fun s => (clN d m LS).getD s []) (fun s => (clE pE LS).getD s false) (0 + 1) (0) v3 u11 w3') => prAt_E h)
              have HEV := hide HEVV.out
              have HPE0 := hide (fun (w3' : World) v3 (h : PrAt w7 (fun s => (clN d m LS).getD s []) (fun s => (clE pE LS).getD s false) (0 + 1) (0) v3 u11 w3') (W' : World) (hb : Below w3'.heap.size w3' W') => (prAt_E (prAt_below h hb)).2.2)
              rw [HROWL.out]
              clear hnx hoN hszN HON hsr hwf
              go_wp2_with (at_builtin; refine wpList_append_lies _ rfl _ _ 22 rfl w7.heap.size 37 j0 (.slice none 0 0) 1 24 Tryd.underlying22 hj0 hy0 hy1 hy2 rfl (by decide) u10 (0) vals rfl (HOWN.out.alloc _) ⟨wr.heap.size, 0, none⟩ 1 1 [.slice ar m cr] rfl rfl (one_new _ _ _) (fun u hu => by simp at hu; subst hu; rfl) (by omega) (by unfold maxLen; omega) (by omega) (by have := HSZ.out; simp; omega) (wr.heap.size + 1) (by simp) ?_; intro g' cg w8 hown3 hgrow3 hat3 hlt3; have HN3 := hide (HNX.out w8 _ g' cg hown3 hgrow3 hat3); clear hown3 hgrow3 hat3 hlt3)
              have HQr := hide (fun W (h : Below w7.heap.size w7 W) => queG_at (queG_kept HQ7.out (h.block _ (queG_lt HQ7.out))) 0 HFL.out)
              have HB8 : Hid (Below w7.heap.size w7 w8) := by obtain ⟨_, _, _, _, h⟩ := HN3.out; exact h
              have HC7 : Hid (∀ W, Below w7.heap.size w7 W → W.cell? ⟨w2.heap.size, 0, none⟩ = some (.int .i64 b) ∧ W.cell? ⟨w2.heap.size, 1, none⟩ = some (.int .i64 t) ∧ W.cell? ⟨w2.heap.size, 2, none⟩ = some (.slice (some ⟨bn, on, none⟩) LK cm) ∧ W.cell? ⟨w2.heap.size, 3, none⟩ = some (.slice am' LK cm') ∧ W.cell? ⟨bs, 0, none⟩ = some (.int .i64 (loS (LS.getD 0 0))) ∧ W.cell? ⟨bs, 1, none⟩ = some (.int .i64 (hiS (LS.getD 0 0)))) := fun W hW => by
                obtain ⟨k0, k1, k2, k3, -⟩ := HC6.out W (below_step HB7.out hW)
                obtain ⟨k4, k5⟩ := HQr.out W hW
                exact ⟨k0, k1, k2, k3, by simpa using k4, by simpa using k5⟩
              obtain ⟨m0, m1, m2, m3, q0, q1⟩ := HC7.out w8 HB8.out
              have HEC := hide (fun W k => HEN.out (some ⟨bn, on, none⟩) cm am' cm' (LS.getD 0 0) W k (HLB.out _ (getN_mem HFL.out)))
              rw [← HEV.out] at HEC
              generalize LS.getD 0 0 = Mi at q0 q1 HEC HC7
              obtain ⟨hoE, hszE, hnxE⟩ := HPX.out w8 _ HN3.out
              have HOE := hide hoE
              have HSE := hide hszE
              have HMNx := hide (slB_below HMN.out.2 (below_step HB7.out HB8.out))
              have HFLi : Hid ((0 : Int) < (LS.length : Int)) := by have := HFL.out; show _ < _; omega
              have hfli := HFLi.out
              have HPE := hide (HPE0.out w8 _ HN3.out)
              generalize hEq : (clE pE LS).getD (0) false = ev at HEC HPE
              clear hoE hszE hnxE hEq HNX HOWN HSZ HPX HEV HPE0
              go_region_held_law (fun W => W.cell? ⟨w2.heap.size, 0, none⟩ = some (.int .i64 b) ∧ W.cell? ⟨w2.heap.size, 1, none⟩ = some (.int .i64 t) ∧ W.cell? ⟨w2.heap.size, 2, none⟩ = some (.slice (some ⟨bn, on, none⟩) LK cm) ∧ W.cell? ⟨w2.heap.size, 3, none⟩ = some (.slice am' LK cm') ∧ W.cell? ⟨bs, 0, none⟩ = some (.int .i64 (loS Mi)) ∧ W.cell? ⟨bs, 1, none⟩ = some (.int .i64 (hiS Mi))) (first | exact HC7.out _ HBM.out | exact HC7.out _ (HB9.out.alloc HB9.out.size _) | exact HC7.out _ HB9.out | go_keep)
                (first
                  | (go_at_call 14; refine (HEC.out _ (slB_below HMNx.out (Below.refl w8.heap.size w8).drew)).mono ?_; rintro e w9 ⟨rfl, hb9⟩; have HR9 := hide (below_step (Below.refl w8.heap.size w8).drew hb9); have HB9 := hide (below_step HB8.out HR9.out); have HOE9 := hide (ownsRow_of_block HOE.out (fun x hx => HR9.out.block _ (HOE.out.lt x hx).2)); have HSE9 := hide (Nat.le_trans HSE.out HR9.out.size); clear hb9)
                  | (refine step_append_lies _ rfl (.tmp 85) (.tmp 92) 23 rfl w7.heap.size 4 l0 (.bool false) 1 1 Tryd.underlying23 hl0 hv0 hv1 hv2 rfl (by decide) _ (0) _ rfl (World.ownsRow.alloc (w := w9) HOE9.out _) ⟨w9.heap.size, 0, none⟩ 1 1 [.bool ev] (by simp [Act.eval]) rfl (one_new w9 _ _) (fun u hu => by simp at hu; subst hu; rfl) (by omega) (by unfold maxLen; omega) (by omega) (by have := HSE9.out; simp; omega) (w9.heap.size + 1) (by simp) ?_; intro g9 cg9 wM hownM hgrowM hatM hltM; have HPM := hide (HPE.out w9 HR9.out wM _ g9 cg9 hownM hgrowM hatM); have HBM : Hid (Below w7.heap.size w7 wM) := (by obtain ⟨_, _, _, _, h⟩ := HPM.out; exact h); clear hownM hgrowM hatM hltM))
              all_goals
                go_wp2
                go_roundw
                case rel => exact ⟨0 + 1, by omega, by go_num, HPM.out⟩
                case measure => simp [intOf]
        | succ p =>
          rw [show (((p + 1 : Nat) : Int) - 1) = (p : Int) by omega]
          have hlti : (p : Int) < (LS.length : Int) := by omega
          have hpn : decide ((p : Int) < 0) = false := by simp
          have hfl : p < LS.length := by omega
          have HVAL := hide (HVALS.out p hfl)
          have HEVV := hide (HEVS.out p hfl)
          have HFL : Hid (p < LS.length) := hfl
          have HROWL : Hid (((clN d m LS).getD (p + 1) []).length = m) := (HSGG.out.2.2.2.2.2 (p + 1) (by omega)).1
          have HROWV := hide (HSGG.out.2.2.2.2.2 (p + 1) (by omega)).2
          obtain ⟨row, hrow⟩ : ∃ row, row = (clN d m LS).getD (p + 1) [] := ⟨_, rfl⟩
          rw [← hrow] at HROWL HROWV HVAL
          have HROW := hide hrow
          have HG0 : Hid (GrowR wr (row.take 0) (.slice none 0 0) wr) := ⟨World.ownsRow_nil _ _ _ _, Below.refl _ _⟩
          clear hrow
          go_wp2
          obtain ⟨wq, hwq⟩ : ∃ wq : World, wq = wr := ⟨_, rfl⟩
          rw [← hwq] at HPR HBW HG0 ⊢
          clear hwq wr
          go_loopw [14, 15] (fun v lv wx => ∃ l : Nat, l ≤ m ∧ lv = .int .i64 l ∧ GrowR wq (row.take l) v wx) (fun _ lv _ => m - (intOf lv).toNat)
          case atStart => exact ⟨0, by omega, rfl, HG0.out⟩
          case round =>
            obtain ⟨l, hl, rfl, hgr⟩ := hrel
            have HGRr := hide hgr
            have HBL := hide (below_step HBW.out hgr.2)
            clear hgr
            obtain ⟨bx, ox, ax, cx, rfl, hcx, hsx⟩ := sl2_cell (sl2_below HSN7.out HBL.out) p HFL.out
            rw [HGNL.out p HFL.out] at hcx hsx
            have HSX := hide hsx
            clear hsx
            by_cases hlm : l < m
            · have hlmi : (l : Int) < (m : Int) := by omega
              obtain ⟨b1, o1, rfl, hc1⟩ := sl_cell HSX.out l hlm
              obtain ⟨x, hx1, hx2, hx3⟩ := HVAL.out l hlm
              rw [hx1] at hc1
              have HTS : Hid (row.take (l + 1) = row.take l ++ [row.getD l 0]) := by show _ = _; rw [List.take_succ_eq_append_getElem (by have := HROWL.out; omega), getD_at _ l (by have := HROWL.out; omega)]
              have HTL : Hid ((row.take l).length = l) := by show _ = _; rw [List.length_take]; have := HROWL.out; omega
              have HOWN := hide HGRr.out.1
              rw [HTL.out] at HOWN
              have HSZ := hide HGRr.out.2.size
              clear hx1
              have HV2 : Hid (row.getD l 0 = (x : Int) + 1) := hx3
              clear hx3
              go_wp2_with (at_builtin; refine wpList_append_own _ rfl _ _ 37 rfl wq.heap.size 3 i0 (.int .i64 0) 1 8 Tryd.underlying37 hi0 hz0 hz1 hz2 rfl (by decide) _ l ((row.take l).map (Value.int .i64)) rfl (HOWN.out.alloc _) ⟨wr.heap.size, 0, none⟩ 1 1 [.int .i64 ((x : Int) + 1)] rfl rfl (one_new _ _ _) (fun u hu => by simp at hu; subst hu; rfl) (by unfold maxLen; omega) (by omega) (by have := HSZ.out; simp; omega) ?_; intro v6 w6' hown6 hgrow6 _)
              go_roundw
              case rel => exact ⟨l + 1, by omega, by go_num, by rw [HTS.out, HV2.out]; exact growR_push HGRr.out (by rw [HTL.out]; exact hown6) hgrow6⟩
              case measure => simp [intOf]; omega
            · have hlmi : ¬ (l : Int) < (m : Int) := by omega
              obtain rfl : m = l := by omega
              have HFULL : Hid (row.take m = row) := List.take_of_length_le (by have := HROWL.out; omega)
              rw [HFULL.out] at HGRr
              have hwf : ∀ z ∈ row, (Lit.int .i64 z).wf = true := fun z hz => by
                obtain ⟨i, hi, rfl⟩ := List.getElem_of_mem hz
                have h1 := HROWV.out i (by have := HROWL.out; omega)
                rw [getD_at _ i hi] at h1
                have := H20.out
                exact WalkArith.wf_i64 (by omega)
              obtain ⟨ar, cr, rfl, hsr⟩ := sl_of_owns rfl (by unfold maxLen; have := HROWL.out; omega) hwf HGRr.out.1
              have HON := hide (@prAt_N w7 (fun s => (clN d m LS).getD s []) (fun s => (clE pE LS).getD s false) ((p + 1)) ((p + 1)) u10 u11 wq wr ar cr HPR.out HGRr.out.2 (by simp only [← HROW.out]; exact hsr))
              simp only [← HROW.out] at HON
              rw [HROWL.out] at HON
              obtain ⟨vals, hoN, hszN, hnx⟩ := HON.out
              have HNX := hide hnx
              have HOWN := hide hoN
              have HSZ := hide hszN
              have HPX := hide (fun (w3' : World) v3 (h : PrAt w7 (fun s => (clN d m LS).getD s []) (fun s => (clE pE LS).getD s false) ((p + 1) + 1) ((p + 1)) v3 u11 w3') => prAt_E h)
              have HEV := hide HEVV.out
              have HPE0 := hide (fun (w3' : World) v3 (h : PrAt w7 (fun s => (clN d m LS).getD s []) (fun s => (clE pE LS).getD s false) ((p + 1) + 1) ((p + 1)) v3 u11 w3') (W' : World) (hb : Below w3'.heap.size w3' W') => (prAt_E (prAt_below h hb)).2.2)
              rw [HROWL.out]
              clear hnx hoN hszN HON hsr hwf
              go_wp2_with (at_builtin; refine wpList_append_lies _ rfl _ _ 22 rfl w7.heap.size 37 j0 (.slice none 0 0) 1 24 Tryd.underlying22 hj0 hy0 hy1 hy2 rfl (by decide) u10 ((p + 1)) vals rfl (HOWN.out.alloc _) ⟨wr.heap.size, 0, none⟩ 1 1 [.slice ar m cr] rfl rfl (one_new _ _ _) (fun u hu => by simp at hu; subst hu; rfl) (by omega) (by unfold maxLen; omega) (by omega) (by have := HSZ.out; simp; omega) (wr.heap.size + 1) (by simp) ?_; intro g' cg w8 hown3 hgrow3 hat3 hlt3; have HN3 := hide (HNX.out w8 _ g' cg hown3 hgrow3 hat3); clear hown3 hgrow3 hat3 hlt3)
              have HQr := hide (fun W (h : Below w7.heap.size w7 W) => queG_at (queG_kept HQ7.out (h.block _ (queG_lt HQ7.out))) p HFL.out)
              have HB8 : Hid (Below w7.heap.size w7 w8) := by obtain ⟨_, _, _, _, h⟩ := HN3.out; exact h
              have HC7 : Hid (∀ W, Below w7.heap.size w7 W → W.cell? ⟨w2.heap.size, 0, none⟩ = some (.int .i64 b) ∧ W.cell? ⟨w2.heap.size, 1, none⟩ = some (.int .i64 t) ∧ W.cell? ⟨w2.heap.size, 2, none⟩ = some (.slice (some ⟨bn, on, none⟩) LK cm) ∧ W.cell? ⟨w2.heap.size, 3, none⟩ = some (.slice am' LK cm') ∧ W.cell? ⟨bs, p * 2, none⟩ = some (.int .i64 (loS (LS.getD p 0))) ∧ W.cell? ⟨bs, p * 2 + 1, none⟩ = some (.int .i64 (hiS (LS.getD p 0)))) := fun W hW => by
                obtain ⟨k0, k1, k2, k3, -⟩ := HC6.out W (below_step HB7.out hW)
                obtain ⟨k4, k5⟩ := HQr.out W hW
                exact ⟨k0, k1, k2, k3, by simpa using k4, by simpa using k5⟩
              obtain ⟨m0, m1, m2, m3, q0, q1⟩ := HC7.out w8 HB8.out
              have HEC := hide (fun W k => HEN.out (some ⟨bn, on, none⟩) cm am' cm' (LS.getD p 0) W k (HLB.out _ (getN_mem HFL.out)))
              rw [← HEV.out] at HEC
              generalize LS.getD p 0 = Mi at q0 q1 HEC HC7
              obtain ⟨hoE, hszE, hnxE⟩ := HPX.out w8 _ HN3.out
              have HOE := hide hoE
              have HSE := hide hszE
              have HMNx := hide (slB_below HMN.out.2 (below_step HB7.out HB8.out))
              have HFLi : Hid ((p : Int) < (LS.length : Int)) := by have := HFL.out; show _ < _; omega
              have hfli := HFLi.out
              have HPE := hide (HPE0.out w8 _ HN3.out)
              generalize hEq : (clE pE LS).getD ((p + 1)) false = ev at HEC HPE
              clear hoE hszE hnxE hEq HNX HOWN HSZ HPX HEV HPE0
              go_region_held_law (fun W => W.cell? ⟨w2.heap.size, 0, none⟩ = some (.int .i64 b) ∧ W.cell? ⟨w2.heap.size, 1, none⟩ = some (.int .i64 t) ∧ W.cell? ⟨w2.heap.size, 2, none⟩ = some (.slice (some ⟨bn, on, none⟩) LK cm) ∧ W.cell? ⟨w2.heap.size, 3, none⟩ = some (.slice am' LK cm') ∧ W.cell? ⟨bs, p * 2, none⟩ = some (.int .i64 (loS Mi)) ∧ W.cell? ⟨bs, p * 2 + 1, none⟩ = some (.int .i64 (hiS Mi))) (first | exact HC7.out _ HBM.out | exact HC7.out _ (HB9.out.alloc HB9.out.size _) | exact HC7.out _ HB9.out | go_keep)
                (first
                  | (go_at_call 14; refine (HEC.out _ (slB_below HMNx.out (Below.refl w8.heap.size w8).drew)).mono ?_; rintro e w9 ⟨rfl, hb9⟩; have HR9 := hide (below_step (Below.refl w8.heap.size w8).drew hb9); have HB9 := hide (below_step HB8.out HR9.out); have HOE9 := hide (ownsRow_of_block HOE.out (fun x hx => HR9.out.block _ (HOE.out.lt x hx).2)); have HSE9 := hide (Nat.le_trans HSE.out HR9.out.size); clear hb9)
                  | (refine step_append_lies _ rfl (.tmp 85) (.tmp 92) 23 rfl w7.heap.size 4 l0 (.bool false) 1 1 Tryd.underlying23 hl0 hv0 hv1 hv2 rfl (by decide) _ ((p + 1)) _ rfl (World.ownsRow.alloc (w := w9) HOE9.out _) ⟨w9.heap.size, 0, none⟩ 1 1 [.bool ev] (by simp [Act.eval]) rfl (one_new w9 _ _) (fun u hu => by simp at hu; subst hu; rfl) (by omega) (by unfold maxLen; omega) (by omega) (by have := HSE9.out; simp; omega) (w9.heap.size + 1) (by simp) ?_; intro g9 cg9 wM hownM hgrowM hatM hltM; have HPM := hide (HPE.out w9 HR9.out wM _ g9 cg9 hownM hgrowM hatM); have HBM : Hid (Below w7.heap.size w7 wM) := (by obtain ⟨_, _, _, _, h⟩ := HPM.out; exact h); clear hownM hgrowM hatM hltM))
              all_goals
                go_wp2
                go_roundw
                case rel => exact ⟨(p + 1) + 1, by omega, by go_num, HPM.out⟩
                case measure => simp [intOf]; omega
      · have hlti : ¬ (q : Int) - 1 < (LS.length : Int) := by omega
        have hqe : q = LS.length + 1 := by omega
        have HPRe := hide HPR.out
        rw [hqe] at HPRe
        obtain ⟨ae, ce, ae', ce', hv1', hv2', hse, hsb, hbe⟩ := prAt_end HPRe.out (by unfold maxLen; omega) (clN d m LS) (clN_len _ _ _) (fun _ _ => rfl) (clE pE LS) (clE_len _ _) (fun _ _ => rfl)
        subst hv1' hv2'
        have HBr := hide (below_step HBW3.out hbe)
        obtain ⟨p0, p1, p2, p3⟩ := HBX.out wr HBr.out
        have HR := hide ((HBr.out.block _ (Array.getElem?_eq_some_iff.1 HRX.out).1).trans HRX.out)
        have HSC := hide (HSHR.out ae ce ae' ce' wr hse HSGG.out hsb)
        clear hse hsb hbe HSHR HPR HPRe hqe HVAL0 HVALS HEV0 HEVS HGNL HEN HQ7 HSN7 HLB HP0 HSG HSGG
        generalize clN d m LS = GN at HSC HCC HNN HEE
        generalize clE pE LS = GE at HSC HCC HNN HEE
        by_cases hK : leastK GN GE m ≤ 80
        · have hc2 : c2 = 0 := by rw [HCC.out, if_neg (by omega)]
          have HK := hide hK
          rw [if_pos hc2] at HNN HEE
          subst hc2
          rw [← HNN.out, ← HEE.out] at HSC
          clear hK
          go_wp2_with fail
          clear p0 p1 p2 p3
          refine HSC.out.mono ?_
          rintro e w8 (⟨-, ay, cy, ay', cy', rfl, hnew, hb8⟩ | ⟨hbig, -⟩)
          rotate_left
          · exact absurd HK.out (by omega)
          have hbz := (Below.refl w8.heap.size w8).alloc (Nat.le_refl _) (.cells #[.int .i64 b, .int .i64 t, .slice ay ZN.length cy, .slice ay' ZN.length cy'] 25)
          have hbw8 := below_step hb8 hbz
          have hold := (hbw8.block _ (Array.getElem?_eq_some_iff.1 HR.out).1).trans HR.out
          have hmx := heap_alloc_last w8 (.cells #[.int .i64 b, .int .i64 t, .slice ay ZN.length cy, .slice ay' ZN.length cy'] 25)
          have HHOLD := hide hold
          have HNEW := hide (hnew.below hbz)
          have HBF := hide (below_step HB0.out (below_step HBr.out hbw8))
          have HSW := hide HBr.out.size
          obtain ⟨⟨o0, o1, o2, o3⟩, of⟩ := box_cells hold
          obtain ⟨⟨r0, r1, r2, r3⟩, -⟩ := box_cells hmx
          clear hnew hb8 hbz hbw8 hold hmx HSC
          go_wp2
          generalize w8.alloc (.cells #[.int .i64 b, .int .i64 t, .slice ay ZN.length cy, .slice ay' ZN.length cy'] 25) = w9 at HHOLD HNEW HBF ⊢
          obtain ⟨⟨hset, hsz, hoth⟩, hbel⟩ := box_set (v0 := .int .i64 b) (v1 := .int .i64 t) (v2 := .slice ay ZN.length cy) (v3 := .slice ay' ZN.length cy') HHOLD.out rfl
          have hfin : AutoNew w ay ZN.length ZN ay' ZE ((((w9.setCell ⟨w.heap.size + 1, 0, none⟩ (.int .i64 b)).setCell ⟨w.heap.size + 1, 1, none⟩ (.int .i64 t)).setCell ⟨w.heap.size + 1, 2, none⟩ (.slice ay ZN.length cy)).setCell ⟨w.heap.size + 1, 3, none⟩ (.slice ay' ZN.length cy')) := fun W' hW' => HNEW.out W' (fun x hx hxl => by
            have h1 := HSW.out
            have h2 := HSZ0.out
            rw [hW' x (by omega) (by rw [hsz]; exact hxl), hoth x (by omega)])
          have hb := hbel w w.heap.size HBF.out (by omega)
          obtain ⟨⟨z0, z1, z2, z3⟩, -⟩ := box_cells hset
          exact bodyPost_ret (v := .tuple #[.agg #[.int .i64 b, .int .i64 t, .slice ay ZN.length cy, .slice ay' ZN.length cy'], .int .i64 0]) (by simp [results, Tryd.results4, go_sem, z0, z1, z2, z3]) rfl ⟨ay, cy, ay', cy', rfl, hfin, hb⟩
        · have hc2 : c2 = 3 := by rw [HCC.out, if_pos (by omega)]
          have HK : Hid (80 < leastK GN GE m) := by show _ < _; omega
          have hne : ¬ (c2 = 0) := by rw [hc2]; decide
          rw [if_neg hne] at HNN HEE
          have hz1' := HNN.out
          have hz2' := HEE.out
          clear HNN HEE HCC hne hK
          subst hz1' hz2' hc2
          go_wp2_with fail
          clear p0 p1 p2 p3
          refine HSC.out.mono ?_
          rintro e w8 (⟨hbig, -⟩ | ⟨-, rfl, hb8⟩)
          · exact absurd HK.out (by omega)
          have hbz := (Below.refl w8.heap.size w8).alloc (Nat.le_refl _) (.cells #[.int .i64 0, .int .i64 0, .slice none 0 0, .slice none 0 0] 25)
          have hbw8 := below_step hb8 hbz
          have hold := (hbw8.block _ (Array.getElem?_eq_some_iff.1 HR.out).1).trans HR.out
          have HHOLD := hide hold
          have HBF := hide (below_step HB0.out (below_step HBr.out hbw8))
          obtain ⟨⟨o0, o1, o2, o3⟩, of⟩ := box_cells hold
          clear hb8 hbz hbw8 hold HSC
          go_wp2
          generalize w8.alloc (.cells #[.int .i64 0, .int .i64 0, .slice none 0 0, .slice none 0 0] 25) = w9 at HHOLD HBF ⊢
          obtain ⟨⟨hset, -, -⟩, hbel⟩ := box_set0 HHOLD.out rfl
          obtain ⟨⟨z0, z1, z2, z3⟩, -⟩ := box_cells hset
          exact bodyPost_ret (v := .tuple #[.agg #[.int .i64 0, .int .i64 0, .slice none 0 0, .slice none 0 0], .int .i64 3]) (by simp [results, Tryd.results4, go_sem, z0, z1, z2, z3]) rfl ⟨none, 0, none, 0, rfl, autoNew_nil _ _, hbel _ _ HBF.out (by omega)⟩

theorem closeOf_u (b t : Int) (a : Option Addr) (n cap : Nat) (a' : Option Addr) (k cap' : Nat) (N : List (List Int)) (E : List Bool) (w : World) (hs : Sl2 w a n N) (he : SlB w a' k E) :
    Calls Tryd.prog 4 #[.agg #[.int .i64 b, .int .i64 t, .slice a n cap, .slice a' k cap']] w (BothR w (okI (ccC b t N E k) b) (okI (ccC b t N E k) t) (ccN b t N E k) (ccE b t N E k) (ccC b t N E k)) := by
  by_cases hA : autoC b t N k = 0
  · obtain rfl : k = n := by rw [(autoC_zero hA).2.1, hs.1]
    exact closeOf_ok b t a k cap a' cap' N E w hs he hA
  · have h1 : ccC b t N E k = autoC b t N k := by unfold ccC; rw [if_neg hA]
    unfold ccN ccE okI
    rw [h1, if_neg hA, if_neg hA, if_neg hA, if_neg hA]
    exact closeOf_bad b t a n cap a' k cap' N w hs he.2.1 hA
end Go.Proofs.YtleebojibobgaaaDoor
