/- 2 texts in one. -/
import Derived.Shelf.Small.Strs
import Derived.Shelf.Strconv.Itoa3
import Derived.Shelf.Strings.OnBuilder
import Derived.Test.YtafbggbdlcfbdaaDoorZF
import Derived.Test.YtafbggbdlcfbdaaDoorUb
import Derived.Test.YtafbggbdlcfbdaaDoorZFd
import Derived.Test.YtafbggbdlcfbdaaDoorZPa
/- The library's IndexByte, Join, Itoa: the shelf's contracts, laid by hand. -/
namespace Go.Proofs.YtafbggbdlcfbdaaDoor
open Go.RowKit

def idxRen : Go.Shelf.Ren := ⟨fun | 137 => 46 | 217 => 58 | 266 => 67 | n => n, fun | 3 => 3 | 5 => 5 | 9 => 9 | n => n, fun  n => n⟩
theorem idxLays : Lays.n137 Tryd.prog idxRen where
  mixed := by kernel_rfl
  f137 := Tryd.func46.trans (congrArg some (by kernel_rfl))
  f217 := Tryd.func58.trans (congrArg some (by kernel_rfl))
  f266 := Tryd.func67.trans (congrArg some (by kernel_rfl))
  t3 := Tryd.underlying3
  a3 := Tryd.isAgg3
  z3 := Tryd.sizeOf3
  v3 := Tryd.zeroValue3
  t5 := Tryd.underlying5
  a5 := Tryd.isAgg5
  z5 := Tryd.sizeOf5
  v5 := Tryd.zeroValue5
  t9 := Tryd.underlying9
  a9 := Tryd.isAgg9
  z9 := Tryd.sizeOf9
  v9 := Tryd.zeroValue9

def joiRen : Go.Shelf.Ren := ⟨fun | 156 => 41 | 165 => 54 | 166 => 55 | 169 => 56 | 240 => 61 | 241 => 62 | 276 => 68 | 277 => 69 | n => n, fun | 0 => 0 | 3 => 3 | 4 => 4 | 5 => 5 | 9 => 9 | 20 => 20 | 31 => 75 | 37 => 104 | 70 => 103 | 72 => 106 | 75 => 24 | 76 => 33 | 80 => 109 | 127 => 111 | 164 => 58 | n => n, fun  n => n⟩
theorem joiLays : Lays.n156 Tryd.prog joiRen where
  mixed := by kernel_rfl
  f156 := Tryd.func41.trans (congrArg some (by kernel_rfl))
  f165 := Tryd.func54.trans (congrArg some (by kernel_rfl))
  f166 := Tryd.func55.trans (congrArg some (by kernel_rfl))
  f169 := Tryd.func56.trans (congrArg some (by kernel_rfl))
  f240 := Tryd.func61.trans (congrArg some (by kernel_rfl))
  f241 := Tryd.func62.trans (congrArg some (by kernel_rfl))
  f276 := Tryd.func68.trans (congrArg some (by kernel_rfl))
  f277 := Tryd.func69.trans (congrArg some (by kernel_rfl))
  t0 := Tryd.underlying0
  a0 := Tryd.isAgg0
  z0 := Tryd.sizeOf0
  v0 := Tryd.zeroValue0
  t3 := Tryd.underlying3
  a3 := Tryd.isAgg3
  z3 := Tryd.sizeOf3
  v3 := Tryd.zeroValue3
  t4 := Tryd.underlying4
  a4 := Tryd.isAgg4
  z4 := Tryd.sizeOf4
  v4 := Tryd.zeroValue4
  t9 := Tryd.underlying9
  a9 := Tryd.isAgg9
  z9 := Tryd.sizeOf9
  v9 := Tryd.zeroValue9
  t20 := Tryd.underlying20
  a20 := Tryd.isAgg20
  z20 := Tryd.sizeOf20
  v20 := Tryd.zeroValue20
  t31 := Tryd.underlying75
  a31 := Tryd.isAgg75
  z31 := Tryd.sizeOf75
  v31 := Tryd.zeroValue75
  t37 := Tryd.underlying104
  a37 := Tryd.isAgg104
  z37 := Tryd.sizeOf104
  v37 := Tryd.zeroValue104
  t70 := Tryd.underlying103
  a70 := Tryd.isAgg103
  z70 := Tryd.sizeOf103
  v70 := Tryd.zeroValue103
  t72 := Tryd.underlying106
  a72 := Tryd.isAgg106
  z72 := Tryd.sizeOf106
  v72 := Tryd.zeroValue106
  t75 := Tryd.underlying24
  a75 := Tryd.isAgg24
  z75 := Tryd.sizeOf24
  v75 := Tryd.zeroValue24
  t76 := Tryd.underlying33
  a76 := Tryd.isAgg33
  z76 := Tryd.sizeOf33
  v76 := Tryd.zeroValue33
  t127 := Tryd.underlying111
  a127 := Tryd.isAgg111
  z127 := Tryd.sizeOf111
  v127 := Tryd.zeroValue111
  t164 := Tryd.underlying58
  a164 := Tryd.isAgg58
  z164 := Tryd.sizeOf58
  v164 := Tryd.zeroValue58

def itoRen : Go.Shelf.Ren := ⟨fun | 129 => 71 | 171 => 27 | 243 => 42 | 246 => 57 | 283 => 63 | 284 => 64 | 285 => 65 | 286 => 66 | 317 => 70 | 318 => 72 | 319 => 73 | 320 => 74 | 337 => 75 | 338 => 76 | n => n, fun | 0 => 0 | 2 => 2 | 3 => 3 | 4 => 4 | 5 => 5 | 9 => 9 | 20 => 20 | 37 => 104 | 46 => 124 | 51 => 122 | 53 => 113 | 171 => 112 | 173 => 116 | 212 => 121 | 213 => 123 | 232 => 127 | 233 => 128 | n => n, fun | 17 => 1 | 18 => 3 | 19 => 4 | n => n⟩
theorem itoLays : Lays.n171 Tryd.prog itoRen where
  mixed := by kernel_rfl
  f129 := Tryd.func71.trans (congrArg some (by kernel_rfl))
  f171 := Tryd.func27.trans (congrArg some (by kernel_rfl))
  f243 := Tryd.func42.trans (congrArg some (by kernel_rfl))
  f246 := Tryd.func57.trans (congrArg some (by kernel_rfl))
  f283 := Tryd.func63.trans (congrArg some (by kernel_rfl))
  f284 := Tryd.func64.trans (congrArg some (by kernel_rfl))
  f285 := Tryd.func65.trans (congrArg some (by kernel_rfl))
  f286 := Tryd.func66.trans (congrArg some (by kernel_rfl))
  f317 := Tryd.func70.trans (congrArg some (by kernel_rfl))
  f318 := Tryd.func72.trans (congrArg some (by kernel_rfl))
  f319 := Tryd.func73.trans (congrArg some (by kernel_rfl))
  f320 := Tryd.func74.trans (congrArg some (by kernel_rfl))
  f337 := Tryd.func75.trans (congrArg some (by kernel_rfl))
  f338 := Tryd.func76.trans (congrArg some (by kernel_rfl))
  t0 := Tryd.underlying0
  a0 := Tryd.isAgg0
  z0 := Tryd.sizeOf0
  v0 := Tryd.zeroValue0
  t2 := Tryd.underlying2
  a2 := Tryd.isAgg2
  z2 := Tryd.sizeOf2
  v2 := Tryd.zeroValue2
  t3 := Tryd.underlying3
  a3 := Tryd.isAgg3
  z3 := Tryd.sizeOf3
  v3 := Tryd.zeroValue3
  t4 := Tryd.underlying4
  a4 := Tryd.isAgg4
  z4 := Tryd.sizeOf4
  v4 := Tryd.zeroValue4
  t5 := Tryd.underlying5
  a5 := Tryd.isAgg5
  z5 := Tryd.sizeOf5
  v5 := Tryd.zeroValue5
  t9 := Tryd.underlying9
  a9 := Tryd.isAgg9
  z9 := Tryd.sizeOf9
  v9 := Tryd.zeroValue9
  t20 := Tryd.underlying20
  a20 := Tryd.isAgg20
  z20 := Tryd.sizeOf20
  v20 := Tryd.zeroValue20
  t37 := Tryd.underlying104
  a37 := Tryd.isAgg104
  z37 := Tryd.sizeOf104
  v37 := Tryd.zeroValue104
  t46 := Tryd.underlying124
  a46 := Tryd.isAgg124
  z46 := Tryd.sizeOf124
  v46 := Tryd.zeroValue124
  t51 := Tryd.underlying122
  a51 := Tryd.isAgg122
  z51 := Tryd.sizeOf122
  v51 := Tryd.zeroValue122
  t53 := Tryd.underlying113
  a53 := Tryd.isAgg113
  z53 := Tryd.sizeOf113
  v53 := Tryd.zeroValue113
  t171 := Tryd.underlying112
  a171 := Tryd.isAgg112
  z171 := Tryd.sizeOf112
  v171 := Tryd.zeroValue112
  t173 := Tryd.underlying116
  a173 := Tryd.isAgg116
  z173 := Tryd.sizeOf116
  v173 := Tryd.zeroValue116
  t212 := Tryd.underlying121
  a212 := Tryd.isAgg121
  z212 := Tryd.sizeOf121
  v212 := Tryd.zeroValue121
  t213 := Tryd.underlying123
  a213 := Tryd.isAgg123
  z213 := Tryd.sizeOf123
  t232 := Tryd.underlying127
  a232 := Tryd.isAgg127
  z232 := Tryd.sizeOf127
  v232 := Tryd.zeroValue127
  t233 := Tryd.underlying128
  a233 := Tryd.isAgg128
  z233 := Tryd.sizeOf128
  v233 := Tryd.zeroValue128
  g17 := by kernel_rfl
  g18 := by kernel_rfl
  g19 := by kernel_rfl

theorem joiExtra : Builder.Extra Tryd.prog joiRen where
  sizeBuilder := by kernel_rfl
  liesBuilder := by kernel_rfl
  t5 := Tryd.underlying5
  a5 := Tryd.isAgg5
  z5 := Tryd.sizeOf5
  v5 := Tryd.zeroValue5
  infoByte := by kernel_rfl
  cellsByte := by kernel_rfl
  sizeByte := by kernel_rfl
  neB5 := by decide
theorem index_any (L : List UInt8) (c : UInt8) (w : World) : Calls Tryd.prog 46 #[.string (bs L), .int .u8 (c.toNat : Int)] w fun e w' => e = .returned (.int .i64 (Lib.indexByte L c)) ∧ w' = w := by
  have h := Any.strings_IndexByte idxLays (bs L) (c.toNat : Int) w
  rw [Int.toNat_natCast, show c.toNat.toUInt8 = c from by simp] at h
  exact h
theorem itoa_any (n : Nat) (hn : n < 100) (w : World) : Calls Tryd.prog 27 #[.int .i64 (n : Int)] w fun e w' => e = .returned (.string (bs (decL n))) ∧ w' = w := by
  have h := Any.strconv_Itoa_small itoLays n hn w
  rw [dec_lib hn] at h
  exact h
theorem index_in {L : List UInt8} {c : UInt8} : (Lib.indexByte L c ≥ 0) ↔ c ∈ L := by
  induction L with
  | nil => simp [Lib.indexByte]
  | cons b l ih =>
    rw [Lib.indexByte, List.mem_cons]
    by_cases h : b = c
    · subst h; simp
    · have h' : ¬ c = b := fun e => h e.symm
      rw [if_neg (by simpa using h)]
      have hge := Lib.indexByte_ge l c
      by_cases h2 : Lib.indexByte l c = -1
      · rw [if_pos (by simpa using h2)]
        rw [h2] at ih
        constructor
        · intro h; omega
        · rintro (h3 | h3)
          · exact absurd h3 h'
          · have := ih.2 h3; omega
      · rw [if_neg (by simpa using h2)]
        constructor
        · intro _; exact .inr (ih.1 (by omega))
        · intro _; omega
theorem join_any (bk c : Nat) (xs : List (List UInt8)) (w : World) (hc : ∀ (j : Nat) x, xs[j]? = some x → w.cell? ⟨bk, j, none⟩ = some (.string (bs x))) (hb : bk < w.heap.size) (hn : xs.length ≤ 100) (hcap : xs.length ≤ c) (hl : (Lib.join xs [43]).length ≤ 100000) :
    Calls Tryd.prog 41 #[.slice (some ⟨bk, 0, none⟩) xs.length c, .string (bs [43])] w fun e w' => e = .returned (.string (bs (Lib.join xs [43]))) ∧ Below w.heap.size w w' := by
  have hm : (xs.map bs).map (·.data.toList) = xs := by rw [List.map_map]; exact List.map_id'' (fun x => rfl) xs
  have h := Any.strings_Join joiLays joiExtra bk 0 c (xs.map bs) (bs [43]) w (fun j x hx => by
    rw [List.getElem?_map] at hx
    cases he : xs[j]? with
    | none => rw [he] at hx; cases hx
    | some y => rw [he] at hx; cases hx; rw [Nat.zero_add]; exact hc j y he) hb (by rw [List.length_map]; omega) (by rw [List.length_map]; exact hcap) (by rw [hm]; show (Lib.join xs [43]).length ≤ _; omega)
  rw [hm, List.length_map] at h
  exact h
end Go.Proofs.YtafbggbdlcfbdaaDoor

/- Package text: showVar, showOut: contracts. -/
namespace Go.Proofs.YtafbggbdlcfbdaaDoor
open Go.RowKit

set_option maxHeartbeats 2000000 in
set_option maxRecDepth 4000 in
theorem showVar_any (q : Nat) (hq : q < 5) (w : World) : Calls Tryd.prog 16 #[.int .i64 (q : Int)] w fun e w' => e = .returned (.string (bs [ltC q])) ∧ w' = w := by
  have h5 : (q : Int) < 5 := by omega
  rcases (by omega : q = 0 ∨ q = 1 ∨ q = 2 ∨ q = 3 ∨ q = 4) with rfl | rfl | rfl | rfl | rfl
  all_goals go_enter Tryd.func16, Tryd.ntmps16
  all_goals go_wp2
  all_goals go_ret
  all_goals exact ⟨rfl, rfl⟩
set_option maxHeartbeats 2000000 in
set_option maxRecDepth 4000 in
theorem showOut_any (n q : Nat) (hn : n < 100) (hq : q < 5) (w : World) : Calls Tryd.prog 26 #[.int .i64 (n : Int), .int .i64 (q : Int)] w fun e w' => e = .returned (.string (bs ([64] ++ decL n ++ [91] ++ [ltC q] ++ [93]))) ∧ w' = w := by
  have HI := hide (itoa_any n hn)
  have HV := hide (showVar_any q hq)
  have hl := decL_len n
  have s1 : ∀ W, (Op.stringOp .add ⟨#[64]⟩ (bs (decL n))).run Tryd.prog W = .ok (.string (bs ([64] ++ decL n))) W := fun W => bs_add [64] (decL n) (by simp; omega) W
  have s2 : ∀ W, (Op.stringOp .add (bs ([64] ++ decL n)) ⟨#[91]⟩).run Tryd.prog W = .ok (.string (bs ([64] ++ decL n ++ [91]))) W := fun W => bs_add ([64] ++ decL n) [91] (by simp; omega) W
  have s3 : ∀ W, (Op.stringOp .add (bs ([64] ++ decL n ++ [91])) (bs [ltC q])).run Tryd.prog W = .ok (.string (bs ([64] ++ decL n ++ [91] ++ [ltC q]))) W := fun W => bs_add ([64] ++ decL n ++ [91]) [ltC q] (by simp; omega) W
  have s4 : ∀ W, (Op.stringOp .add (bs ([64] ++ decL n ++ [91] ++ [ltC q])) ⟨#[93]⟩).run Tryd.prog W = .ok (.string (bs ([64] ++ decL n ++ [91] ++ [ltC q] ++ [93]))) W := fun W => bs_add ([64] ++ decL n ++ [91] ++ [ltC q]) [93] (by simp; omega) W
  generalize [64] ++ decL n ++ [91] ++ [ltC q] ++ [93] = t4 at s4 ⊢
  generalize [64] ++ decL n ++ [91] ++ [ltC q] = t3 at s3 s4
  generalize [64] ++ decL n ++ [91] = t2 at s2 s3
  generalize [64] ++ decL n = t1 at s1 s2
  generalize decL n = t0 at s1 HI
  generalize bs [ltC q] = tq at s3 HV
  clear hl hn hq
  go_enter Tryd.func26, Tryd.ntmps26
  go_wp2_with fail
  refine (HI.out _).mono ?_
  rintro e w' ⟨rfl, hw⟩
  subst hw
  go_wp2_with fail
  refine (HV.out _).mono ?_
  rintro e w' ⟨rfl, hw⟩
  subst hw
  go_wp2
  go_ret
  exact ⟨rfl, rfl⟩
end Go.Proofs.YtafbggbdlcfbdaaDoor
