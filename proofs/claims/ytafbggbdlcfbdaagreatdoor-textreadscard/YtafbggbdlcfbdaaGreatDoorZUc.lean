/- 2 texts in one. -/
import Derived.Shelf.Small.Strs
import Derived.Shelf.Strconv.Itoa3
import Derived.Shelf.Strings.OnBuilder
import Derived.Test.YtafbggbdlcfbdaaGreatDoorZF
import Derived.Test.YtafbggbdlcfbdaaGreatDoorUb
import Derived.Test.YtafbggbdlcfbdaaGreatDoorZFd
import Derived.Test.YtafbggbdlcfbdaaGreatDoorZPa
/- The library's IndexByte, Join, Itoa: the shelf's contracts, laid by hand. -/
namespace Go.Proofs.YtafbggbdlcfbdaaGreatDoor
open Go.RowKit

def idxRen : Go.Shelf.Ren := ⟨fun | 137 => 65 | 217 => 77 | 266 => 86 | n => n, fun | 3 => 3 | 5 => 5 | 9 => 9 | n => n, fun  n => n⟩
theorem idxLays : Lays.n137 Tryz.prog idxRen where
  mixed := by kernel_rfl
  f137 := Tryz.func65.trans (congrArg some (by kernel_rfl))
  f217 := Tryz.func77.trans (congrArg some (by kernel_rfl))
  f266 := Tryz.func86.trans (congrArg some (by kernel_rfl))
  t3 := Tryz.underlying3
  a3 := Tryz.isAgg3
  z3 := Tryz.sizeOf3
  v3 := Tryz.zeroValue3
  t5 := Tryz.underlying5
  a5 := Tryz.isAgg5
  z5 := Tryz.sizeOf5
  v5 := Tryz.zeroValue5
  t9 := Tryz.underlying9
  a9 := Tryz.isAgg9
  z9 := Tryz.sizeOf9
  v9 := Tryz.zeroValue9

def joiRen : Go.Shelf.Ren := ⟨fun | 156 => 60 | 165 => 73 | 166 => 74 | 169 => 75 | 240 => 80 | 241 => 81 | 276 => 87 | 277 => 88 | n => n, fun | 0 => 0 | 3 => 3 | 4 => 4 | 5 => 5 | 9 => 9 | 20 => 20 | 31 => 97 | 37 => 125 | 70 => 124 | 72 => 127 | 75 => 28 | 76 => 46 | 80 => 130 | 127 => 132 | 164 => 75 | n => n, fun  n => n⟩
theorem joiLays : Lays.n156 Tryz.prog joiRen where
  mixed := by kernel_rfl
  f156 := Tryz.func60.trans (congrArg some (by kernel_rfl))
  f165 := Tryz.func73.trans (congrArg some (by kernel_rfl))
  f166 := Tryz.func74.trans (congrArg some (by kernel_rfl))
  f169 := Tryz.func75.trans (congrArg some (by kernel_rfl))
  f240 := Tryz.func80.trans (congrArg some (by kernel_rfl))
  f241 := Tryz.func81.trans (congrArg some (by kernel_rfl))
  f276 := Tryz.func87.trans (congrArg some (by kernel_rfl))
  f277 := Tryz.func88.trans (congrArg some (by kernel_rfl))
  t0 := Tryz.underlying0
  a0 := Tryz.isAgg0
  z0 := Tryz.sizeOf0
  v0 := Tryz.zeroValue0
  t3 := Tryz.underlying3
  a3 := Tryz.isAgg3
  z3 := Tryz.sizeOf3
  v3 := Tryz.zeroValue3
  t4 := Tryz.underlying4
  a4 := Tryz.isAgg4
  z4 := Tryz.sizeOf4
  v4 := Tryz.zeroValue4
  t9 := Tryz.underlying9
  a9 := Tryz.isAgg9
  z9 := Tryz.sizeOf9
  v9 := Tryz.zeroValue9
  t20 := Tryz.underlying20
  a20 := Tryz.isAgg20
  z20 := Tryz.sizeOf20
  v20 := Tryz.zeroValue20
  t31 := Tryz.underlying97
  a31 := Tryz.isAgg97
  z31 := Tryz.sizeOf97
  v31 := Tryz.zeroValue97
  t37 := Tryz.underlying125
  a37 := Tryz.isAgg125
  z37 := Tryz.sizeOf125
  v37 := Tryz.zeroValue125
  t70 := Tryz.underlying124
  a70 := Tryz.isAgg124
  z70 := Tryz.sizeOf124
  v70 := Tryz.zeroValue124
  t72 := Tryz.underlying127
  a72 := Tryz.isAgg127
  z72 := Tryz.sizeOf127
  v72 := Tryz.zeroValue127
  t75 := Tryz.underlying28
  a75 := Tryz.isAgg28
  z75 := Tryz.sizeOf28
  v75 := Tryz.zeroValue28
  t76 := Tryz.underlying46
  a76 := Tryz.isAgg46
  z76 := Tryz.sizeOf46
  v76 := Tryz.zeroValue46
  t127 := Tryz.underlying132
  a127 := Tryz.isAgg132
  z127 := Tryz.sizeOf132
  v127 := Tryz.zeroValue132
  t164 := Tryz.underlying75
  a164 := Tryz.isAgg75
  z164 := Tryz.sizeOf75
  v164 := Tryz.zeroValue75

def itoRen : Go.Shelf.Ren := ⟨fun | 129 => 90 | 171 => 42 | 243 => 61 | 246 => 76 | 283 => 82 | 284 => 83 | 285 => 84 | 286 => 85 | 317 => 89 | 318 => 91 | 319 => 92 | 320 => 93 | 337 => 94 | 338 => 95 | n => n, fun | 0 => 0 | 2 => 2 | 3 => 3 | 4 => 4 | 5 => 5 | 9 => 9 | 20 => 20 | 37 => 125 | 46 => 145 | 51 => 143 | 53 => 134 | 171 => 133 | 173 => 137 | 212 => 142 | 213 => 144 | 232 => 148 | 233 => 149 | n => n, fun | 17 => 1 | 18 => 3 | 19 => 4 | n => n⟩
theorem itoLays : Lays.n171 Tryz.prog itoRen where
  mixed := by kernel_rfl
  f129 := Tryz.func90.trans (congrArg some (by kernel_rfl))
  f171 := Tryz.func42.trans (congrArg some (by kernel_rfl))
  f243 := Tryz.func61.trans (congrArg some (by kernel_rfl))
  f246 := Tryz.func76.trans (congrArg some (by kernel_rfl))
  f283 := Tryz.func82.trans (congrArg some (by kernel_rfl))
  f284 := Tryz.func83.trans (congrArg some (by kernel_rfl))
  f285 := Tryz.func84.trans (congrArg some (by kernel_rfl))
  f286 := Tryz.func85.trans (congrArg some (by kernel_rfl))
  f317 := Tryz.func89.trans (congrArg some (by kernel_rfl))
  f318 := Tryz.func91.trans (congrArg some (by kernel_rfl))
  f319 := Tryz.func92.trans (congrArg some (by kernel_rfl))
  f320 := Tryz.func93.trans (congrArg some (by kernel_rfl))
  f337 := Tryz.func94.trans (congrArg some (by kernel_rfl))
  f338 := Tryz.func95.trans (congrArg some (by kernel_rfl))
  t0 := Tryz.underlying0
  a0 := Tryz.isAgg0
  z0 := Tryz.sizeOf0
  v0 := Tryz.zeroValue0
  t2 := Tryz.underlying2
  a2 := Tryz.isAgg2
  z2 := Tryz.sizeOf2
  v2 := Tryz.zeroValue2
  t3 := Tryz.underlying3
  a3 := Tryz.isAgg3
  z3 := Tryz.sizeOf3
  v3 := Tryz.zeroValue3
  t4 := Tryz.underlying4
  a4 := Tryz.isAgg4
  z4 := Tryz.sizeOf4
  v4 := Tryz.zeroValue4
  t5 := Tryz.underlying5
  a5 := Tryz.isAgg5
  z5 := Tryz.sizeOf5
  v5 := Tryz.zeroValue5
  t9 := Tryz.underlying9
  a9 := Tryz.isAgg9
  z9 := Tryz.sizeOf9
  v9 := Tryz.zeroValue9
  t20 := Tryz.underlying20
  a20 := Tryz.isAgg20
  z20 := Tryz.sizeOf20
  v20 := Tryz.zeroValue20
  t37 := Tryz.underlying125
  a37 := Tryz.isAgg125
  z37 := Tryz.sizeOf125
  v37 := Tryz.zeroValue125
  t46 := Tryz.underlying145
  a46 := Tryz.isAgg145
  z46 := Tryz.sizeOf145
  v46 := Tryz.zeroValue145
  t51 := Tryz.underlying143
  a51 := Tryz.isAgg143
  z51 := Tryz.sizeOf143
  v51 := Tryz.zeroValue143
  t53 := Tryz.underlying134
  a53 := Tryz.isAgg134
  z53 := Tryz.sizeOf134
  v53 := Tryz.zeroValue134
  t171 := Tryz.underlying133
  a171 := Tryz.isAgg133
  z171 := Tryz.sizeOf133
  v171 := Tryz.zeroValue133
  t173 := Tryz.underlying137
  a173 := Tryz.isAgg137
  z173 := Tryz.sizeOf137
  v173 := Tryz.zeroValue137
  t212 := Tryz.underlying142
  a212 := Tryz.isAgg142
  z212 := Tryz.sizeOf142
  v212 := Tryz.zeroValue142
  t213 := Tryz.underlying144
  a213 := Tryz.isAgg144
  z213 := Tryz.sizeOf144
  t232 := Tryz.underlying148
  a232 := Tryz.isAgg148
  z232 := Tryz.sizeOf148
  v232 := Tryz.zeroValue148
  t233 := Tryz.underlying149
  a233 := Tryz.isAgg149
  z233 := Tryz.sizeOf149
  v233 := Tryz.zeroValue149
  g17 := by kernel_rfl
  g18 := by kernel_rfl
  g19 := by kernel_rfl

theorem joiExtra : Builder.Extra Tryz.prog joiRen where
  sizeBuilder := by kernel_rfl
  liesBuilder := by kernel_rfl
  t5 := Tryz.underlying5
  a5 := Tryz.isAgg5
  z5 := Tryz.sizeOf5
  v5 := Tryz.zeroValue5
  infoByte := by kernel_rfl
  cellsByte := by kernel_rfl
  sizeByte := by kernel_rfl
  neB5 := by decide
theorem index_any (L : List UInt8) (c : UInt8) (w : World) : Calls Tryz.prog 65 #[.string (bs L), .int .u8 (c.toNat : Int)] w fun e w' => e = .returned (.int .i64 (Lib.indexByte L c)) ∧ w' = w := by
  have h := Any.strings_IndexByte idxLays (bs L) (c.toNat : Int) w
  rw [Int.toNat_natCast, show c.toNat.toUInt8 = c from by simp] at h
  exact h
theorem itoa_any (n : Nat) (hn : n < 100) (w : World) : Calls Tryz.prog 42 #[.int .i64 (n : Int)] w fun e w' => e = .returned (.string (bs (decL n))) ∧ w' = w := by
  have h := Any.strconv_Itoa_small itoLays n hn w
  rw [dec_lib hn] at h
  exact h
theorem index_in {L : List UInt8} {c : UInt8} : (Lib.indexByte L c ≥ 0) ↔ c ∈ L := by
  induction L with
  | nil => simp [Lib.indexByte]
  | cons b l ih =>
    rw [Lib.indexByte, List.mem_cons]
    by_cases h : b = c
    · subst h; simp
    · have h' : ¬ c = b := fun e => h e.symm
      rw [if_neg (by simpa using h)]
      have hge := Lib.indexByte_ge l c
      by_cases h2 : Lib.indexByte l c = -1
      · rw [if_pos (by simpa using h2)]
        rw [h2] at ih
        constructor
        · intro h; omega
        · rintro (h3 | h3)
          · exact absurd h3 h'
          · have := ih.2 h3; omega
      · rw [if_neg (by simpa using h2)]
        constructor
        · intro _; exact .inr (ih.1 (by omega))
        · intro _; omega
theorem join_any (bk c : Nat) (xs : List (List UInt8)) (w : World) (hc : ∀ (j : Nat) x, xs[j]? = some x → w.cell? ⟨bk, j, none⟩ = some (.string (bs x))) (hb : bk < w.heap.size) (hn : xs.length ≤ 100) (hcap : xs.length ≤ c) (hl : (Lib.join xs [43]).length ≤ 100000) :
    Calls Tryz.prog 60 #[.slice (some ⟨bk, 0, none⟩) xs.length c, .string (bs [43])] w fun e w' => e = .returned (.string (bs (Lib.join xs [43]))) ∧ Below w.heap.size w w' := by
  have hm : (xs.map bs).map (·.data.toList) = xs := by rw [List.map_map]; exact List.map_id'' (fun x => rfl) xs
  have h := Any.strings_Join joiLays joiExtra bk 0 c (xs.map bs) (bs [43]) w (fun j x hx => by
    rw [List.getElem?_map] at hx
    cases he : xs[j]? with
    | none => rw [he] at hx; cases hx
    | some y => rw [he] at hx; cases hx; rw [Nat.zero_add]; exact hc j y he) hb (by rw [List.length_map]; omega) (by rw [List.length_map]; exact hcap) (by rw [hm]; show (Lib.join xs [43]).length ≤ _; omega)
  rw [hm, List.length_map] at h
  exact h
end Go.Proofs.YtafbggbdlcfbdaaGreatDoor

/- Package text: showVar, showOut: contracts. -/
namespace Go.Proofs.YtafbggbdlcfbdaaGreatDoor
open Go.RowKit

set_option maxHeartbeats 2000000 in
set_option maxRecDepth 4000 in
theorem showVar_any (q : Nat) (hq : q < 5) (w : World) : Calls Tryz.prog 27 #[.int .i64 (q : Int)] w fun e w' => e = .returned (.string (bs [ltC q])) ∧ w' = w := by
  have h5 : (q : Int) < 5 := by omega
  rcases (by omega : q = 0 ∨ q = 1 ∨ q = 2 ∨ q = 3 ∨ q = 4) with rfl | rfl | rfl | rfl | rfl
  all_goals go_enter Tryz.func27, Tryz.ntmps27
  all_goals go_wp2
  all_goals go_ret
  all_goals exact ⟨rfl, rfl⟩
set_option maxHeartbeats 2000000 in
set_option maxRecDepth 4000 in
theorem showOut_any (n q : Nat) (hn : n < 100) (hq : q < 5) (w : World) : Calls Tryz.prog 41 #[.int .i64 (n : Int), .int .i64 (q : Int)] w fun e w' => e = .returned (.string (bs ([64] ++ decL n ++ [91] ++ [ltC q] ++ [93]))) ∧ w' = w := by
  have HI := hide (itoa_any n hn)
  have HV := hide (showVar_any q hq)
  have hl := decL_len n
  have s1 : ∀ W, (Op.stringOp .add ⟨#[64]⟩ (bs (decL n))).run Tryz.prog W = .ok (.string (bs ([64] ++ decL n))) W := fun W => bs_add [64] (decL n) (by simp; omega) W
  have s2 : ∀ W, (Op.stringOp .add (bs ([64] ++ decL n)) ⟨#[91]⟩).run Tryz.prog W = .ok (.string (bs ([64] ++ decL n ++ [91]))) W := fun W => bs_add ([64] ++ decL n) [91] (by simp; omega) W
  have s3 : ∀ W, (Op.stringOp .add (bs ([64] ++ decL n ++ [91])) (bs [ltC q])).run Tryz.prog W = .ok (.string (bs ([64] ++ decL n ++ [91] ++ [ltC q]))) W := fun W => bs_add ([64] ++ decL n ++ [91]) [ltC q] (by simp; omega) W
  have s4 : ∀ W, (Op.stringOp .add (bs ([64] ++ decL n ++ [91] ++ [ltC q])) ⟨#[93]⟩).run Tryz.prog W = .ok (.string (bs ([64] ++ decL n ++ [91] ++ [ltC q] ++ [93]))) W := fun W => bs_add ([64] ++ decL n ++ [91] ++ [ltC q]) [93] (by simp; omega) W
  generalize [64] ++ decL n ++ [91] ++ [ltC q] ++ [93] = t4 at s4 ⊢
  generalize [64] ++ decL n ++ [91] ++ [ltC q] = t3 at s3 s4
  generalize [64] ++ decL n ++ [91] = t2 at s2 s3
  generalize [64] ++ decL n = t1 at s1 s2
  generalize decL n = t0 at s1 HI
  generalize bs [ltC q] = tq at s3 HV
  clear hl hn hq
  go_enter Tryz.func41, Tryz.ntmps41
  go_wp2_with fail
  refine (HI.out _).mono ?_
  rintro e w' ⟨rfl, hw⟩
  subst hw
  go_wp2_with fail
  refine (HV.out _).mono ?_
  rintro e w' ⟨rfl, hw⟩
  subst hw
  go_wp2
  go_ret
  exact ⟨rfl, rfl⟩
end Go.Proofs.YtafbggbdlcfbdaaGreatDoor
