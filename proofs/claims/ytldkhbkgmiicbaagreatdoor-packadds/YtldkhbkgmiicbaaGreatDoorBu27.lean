/- Texts of mine, put together. -/
import Derived.Test.YtldkhbkgmiicbaaGreatDoorBu26
import Derived.Shelf.Strconv.Itoa3
import Derived.Shelf.Strconv.AppendIntPublic10
import Derived.Shelf.Strings.IndexAnyAll
import Derived.Shelf.LaysM
import Derived.Test.YtldkhbkgmiicbaaGreatDoorProg
import Derived.Laws.RangeAny
import Derived.Lib.OthersKept
import Derived.Deep.LoopGhost
import Derived.WalkMore

/- The library contracts of what the program calls, laid over this program. -/
namespace Go.Proofs.YtldkhbkgmiicbaaGreatDoor
open Go.Shelf
def sx171_ren : Go.Shelf.Ren := ⟨fun | 171 => 139 | 243 => 156 | 246 => 164 | 283 => 165 | 284 => 166 | 285 => 167 | 286 => 168 | 129 => 176 | 317 => 175 | 318 => 177 | 319 => 178 | 320 => 179 | 337 => 182 | 338 => 183 | n => n, fun | 3 => 3 | 9 => 9 | 2 => 2 | 4 => 4 | 171 => 199 | 0 => 0 | 53 => 194 | 37 => 24 | 5 => 5 | 173 => 202 | 212 => 210 | 51 => 191 | 20 => 20 | 213 => 211 | 46 => 186 | 232 => 216 | 233 => 217 | n => n, fun | 17 => 2 | 18 => 3 | 19 => 4 | n => n⟩
theorem sx171 : Go.Proofs.LaysM.n171 Tryz.prog sx171_ren := {
  mixed := by kernel_rfl
  f129 := Tryz.func176.trans (congrArg some (by kernel_rfl))
  f171 := Tryz.func139.trans (congrArg some (by kernel_rfl))
  f243 := Tryz.func156.trans (congrArg some (by kernel_rfl))
  f246 := Tryz.func164.trans (congrArg some (by kernel_rfl))
  f283 := Tryz.func165.trans (congrArg some (by kernel_rfl))
  f284 := Tryz.func166.trans (congrArg some (by kernel_rfl))
  f285 := Tryz.func167.trans (congrArg some (by kernel_rfl))
  f286 := Tryz.func168.trans (congrArg some (by kernel_rfl))
  f317 := Tryz.func175.trans (congrArg some (by kernel_rfl))
  f318 := Tryz.func177.trans (congrArg some (by kernel_rfl))
  f319 := Tryz.func178.trans (congrArg some (by kernel_rfl))
  f320 := Tryz.func179.trans (congrArg some (by kernel_rfl))
  f337 := Tryz.func182.trans (congrArg some (by kernel_rfl))
  f338 := Tryz.func183.trans (congrArg some (by kernel_rfl))
  t0 := Tryz.underlying0
  a0 := Tryz.isAgg0
  z0 := Tryz.sizeOf0
  v0 := Tryz.zeroValue0
  t2 := Tryz.underlying2
  a2 := Tryz.isAgg2
  z2 := Tryz.sizeOf2
  v2 := Tryz.zeroValue2
  t3 := Tryz.underlying3
  a3 := Tryz.isAgg3
  z3 := Tryz.sizeOf3
  v3 := Tryz.zeroValue3
  t4 := Tryz.underlying4
  a4 := Tryz.isAgg4
  z4 := Tryz.sizeOf4
  v4 := Tryz.zeroValue4
  t5 := Tryz.underlying5
  a5 := Tryz.isAgg5
  z5 := Tryz.sizeOf5
  v5 := Tryz.zeroValue5
  t9 := Tryz.underlying9
  a9 := Tryz.isAgg9
  z9 := Tryz.sizeOf9
  v9 := Tryz.zeroValue9
  t20 := Tryz.underlying20
  a20 := Tryz.isAgg20
  z20 := Tryz.sizeOf20
  v20 := Tryz.zeroValue20
  t37 := Tryz.underlying24
  a37 := Tryz.isAgg24
  z37 := Tryz.sizeOf24
  v37 := Tryz.zeroValue24
  t46 := Tryz.underlying186
  a46 := Tryz.isAgg186
  z46 := Tryz.sizeOf186
  v46 := Tryz.zeroValue186
  t51 := Tryz.underlying191
  a51 := Tryz.isAgg191
  z51 := Tryz.sizeOf191
  v51 := Tryz.zeroValue191
  t53 := Tryz.underlying194
  a53 := Tryz.isAgg194
  z53 := Tryz.sizeOf194
  v53 := Tryz.zeroValue194
  t171 := Tryz.underlying199
  a171 := Tryz.isAgg199
  z171 := Tryz.sizeOf199
  v171 := Tryz.zeroValue199
  t173 := Tryz.underlying202
  a173 := Tryz.isAgg202
  z173 := Tryz.sizeOf202
  v173 := Tryz.zeroValue202
  t212 := Tryz.underlying210
  a212 := Tryz.isAgg210
  z212 := Tryz.sizeOf210
  v212 := Tryz.zeroValue210
  t213 := Tryz.underlying211
  a213 := Tryz.isAgg211
  z213 := Tryz.sizeOf211
  t232 := Tryz.underlying216
  a232 := Tryz.isAgg216
  z232 := Tryz.sizeOf216
  v232 := Tryz.zeroValue216
  t233 := Tryz.underlying217
  a233 := Tryz.isAgg217
  z233 := Tryz.sizeOf217
  v233 := Tryz.zeroValue217
  g17 := by kernel_rfl
  g18 := by kernel_rfl
  g19 := by kernel_rfl
  i0 := by kernel_rfl
  i2 := by kernel_rfl
  i3 := by kernel_rfl
  i4 := by kernel_rfl
  i5 := by kernel_rfl
  i9 := by kernel_rfl
  i20 := by kernel_rfl
  i37 := by kernel_rfl
  i46 := by kernel_rfl
  i51 := by kernel_rfl
  i53 := by kernel_rfl
  i171 := by kernel_rfl
  i173 := by kernel_rfl
  i212 := by kernel_rfl
  i232 := by kernel_rfl
  i233 := by kernel_rfl
  m17 := by kernel_rfl
  m18 := by kernel_rfl
  m19 := by kernel_rfl }
def sx176_ren : Go.Shelf.Ren := ⟨fun | 176 => 114 | 249 => 140 | 288 => 157 | 283 => 165 | 284 => 166 | 285 => 167 | 286 => 168 | 129 => 176 | 317 => 175 | 318 => 177 | 319 => 178 | 320 => 179 | 337 => 182 | 338 => 183 | n => n, fun | 37 => 24 | 2 => 2 | 3 => 3 | 53 => 194 | 4 => 4 | 9 => 9 | 171 => 199 | 0 => 0 | 173 => 202 | 212 => 210 | 51 => 191 | 5 => 5 | 20 => 20 | 213 => 211 | 46 => 186 | 232 => 216 | 233 => 217 | n => n, fun | 17 => 2 | 18 => 3 | 19 => 4 | n => n⟩
theorem sx176 : Go.Proofs.LaysM.n176 Tryz.prog sx176_ren := {
  mixed := by kernel_rfl
  f129 := Tryz.func176.trans (congrArg some (by kernel_rfl))
  f176 := Tryz.func114.trans (congrArg some (by kernel_rfl))
  f249 := Tryz.func140.trans (congrArg some (by kernel_rfl))
  f283 := Tryz.func165.trans (congrArg some (by kernel_rfl))
  f284 := Tryz.func166.trans (congrArg some (by kernel_rfl))
  f285 := Tryz.func167.trans (congrArg some (by kernel_rfl))
  f286 := Tryz.func168.trans (congrArg some (by kernel_rfl))
  f288 := Tryz.func157.trans (congrArg some (by kernel_rfl))
  f317 := Tryz.func175.trans (congrArg some (by kernel_rfl))
  f318 := Tryz.func177.trans (congrArg some (by kernel_rfl))
  f319 := Tryz.func178.trans (congrArg some (by kernel_rfl))
  f320 := Tryz.func179.trans (congrArg some (by kernel_rfl))
  f337 := Tryz.func182.trans (congrArg some (by kernel_rfl))
  f338 := Tryz.func183.trans (congrArg some (by kernel_rfl))
  t0 := Tryz.underlying0
  a0 := Tryz.isAgg0
  z0 := Tryz.sizeOf0
  v0 := Tryz.zeroValue0
  t2 := Tryz.underlying2
  a2 := Tryz.isAgg2
  z2 := Tryz.sizeOf2
  v2 := Tryz.zeroValue2
  t3 := Tryz.underlying3
  a3 := Tryz.isAgg3
  z3 := Tryz.sizeOf3
  v3 := Tryz.zeroValue3
  t4 := Tryz.underlying4
  a4 := Tryz.isAgg4
  z4 := Tryz.sizeOf4
  v4 := Tryz.zeroValue4
  t5 := Tryz.underlying5
  a5 := Tryz.isAgg5
  z5 := Tryz.sizeOf5
  v5 := Tryz.zeroValue5
  t9 := Tryz.underlying9
  a9 := Tryz.isAgg9
  z9 := Tryz.sizeOf9
  v9 := Tryz.zeroValue9
  t20 := Tryz.underlying20
  a20 := Tryz.isAgg20
  z20 := Tryz.sizeOf20
  v20 := Tryz.zeroValue20
  t37 := Tryz.underlying24
  a37 := Tryz.isAgg24
  z37 := Tryz.sizeOf24
  v37 := Tryz.zeroValue24
  t46 := Tryz.underlying186
  a46 := Tryz.isAgg186
  z46 := Tryz.sizeOf186
  v46 := Tryz.zeroValue186
  t51 := Tryz.underlying191
  a51 := Tryz.isAgg191
  z51 := Tryz.sizeOf191
  v51 := Tryz.zeroValue191
  t53 := Tryz.underlying194
  a53 := Tryz.isAgg194
  z53 := Tryz.sizeOf194
  v53 := Tryz.zeroValue194
  t171 := Tryz.underlying199
  a171 := Tryz.isAgg199
  z171 := Tryz.sizeOf199
  v171 := Tryz.zeroValue199
  t173 := Tryz.underlying202
  a173 := Tryz.isAgg202
  z173 := Tryz.sizeOf202
  v173 := Tryz.zeroValue202
  t212 := Tryz.underlying210
  a212 := Tryz.isAgg210
  z212 := Tryz.sizeOf210
  v212 := Tryz.zeroValue210
  t213 := Tryz.underlying211
  a213 := Tryz.isAgg211
  z213 := Tryz.sizeOf211
  t232 := Tryz.underlying216
  a232 := Tryz.isAgg216
  z232 := Tryz.sizeOf216
  v232 := Tryz.zeroValue216
  t233 := Tryz.underlying217
  a233 := Tryz.isAgg217
  z233 := Tryz.sizeOf217
  v233 := Tryz.zeroValue217
  g17 := by kernel_rfl
  g18 := by kernel_rfl
  g19 := by kernel_rfl
  i0 := by kernel_rfl
  i2 := by kernel_rfl
  i3 := by kernel_rfl
  i4 := by kernel_rfl
  i5 := by kernel_rfl
  i9 := by kernel_rfl
  i20 := by kernel_rfl
  i37 := by kernel_rfl
  i46 := by kernel_rfl
  i51 := by kernel_rfl
  i53 := by kernel_rfl
  i171 := by kernel_rfl
  i173 := by kernel_rfl
  i212 := by kernel_rfl
  i232 := by kernel_rfl
  i233 := by kernel_rfl
  m17 := by kernel_rfl
  m18 := by kernel_rfl
  m19 := by kernel_rfl }
def sx150_ren : Go.Shelf.Ren := ⟨fun | 150 => 155 | 153 => 163 | 152 => 171 | 226 => 172 | 227 => 173 | 228 => 174 | 137 => 91 | 119 => 181 | 224 => 143 | 225 => 169 | 217 => 122 | 266 => 147 | n => n, fun | 9 => 9 | 4 => 4 | 3 => 3 | 5 => 5 | 21 => 21 | 117 => 207 | 116 => 206 | 0 => 0 | 46 => 186 | 124 => 214 | n => n, fun | n => n⟩
theorem sx150 : Go.Proofs.Lays.n150 Tryz.prog sx150_ren := {
  mixed := by kernel_rfl
  f119 := Tryz.func181.trans (congrArg some (by kernel_rfl))
  f137 := Tryz.func91.trans (congrArg some (by kernel_rfl))
  f150 := Tryz.func155.trans (congrArg some (by kernel_rfl))
  f152 := Tryz.func171.trans (congrArg some (by kernel_rfl))
  f153 := Tryz.func163.trans (congrArg some (by kernel_rfl))
  f217 := Tryz.func122.trans (congrArg some (by kernel_rfl))
  f224 := Tryz.func143.trans (congrArg some (by kernel_rfl))
  f225 := Tryz.func169.trans (congrArg some (by kernel_rfl))
  f226 := Tryz.func172.trans (congrArg some (by kernel_rfl))
  f227 := Tryz.func173.trans (congrArg some (by kernel_rfl))
  f228 := Tryz.func174.trans (congrArg some (by kernel_rfl))
  f266 := Tryz.func147.trans (congrArg some (by kernel_rfl))
  t0 := Tryz.underlying0
  a0 := Tryz.isAgg0
  z0 := Tryz.sizeOf0
  v0 := Tryz.zeroValue0
  t3 := Tryz.underlying3
  a3 := Tryz.isAgg3
  z3 := Tryz.sizeOf3
  v3 := Tryz.zeroValue3
  t4 := Tryz.underlying4
  a4 := Tryz.isAgg4
  z4 := Tryz.sizeOf4
  v4 := Tryz.zeroValue4
  t5 := Tryz.underlying5
  a5 := Tryz.isAgg5
  z5 := Tryz.sizeOf5
  v5 := Tryz.zeroValue5
  t9 := Tryz.underlying9
  a9 := Tryz.isAgg9
  z9 := Tryz.sizeOf9
  v9 := Tryz.zeroValue9
  t21 := Tryz.underlying21
  a21 := Tryz.isAgg21
  z21 := Tryz.sizeOf21
  v21 := Tryz.zeroValue21
  t46 := Tryz.underlying186
  a46 := Tryz.isAgg186
  z46 := Tryz.sizeOf186
  v46 := Tryz.zeroValue186
  t116 := Tryz.underlying206
  a116 := Tryz.isAgg206
  z116 := Tryz.sizeOf206
  t117 := Tryz.underlying207
  a117 := Tryz.isAgg207
  z117 := Tryz.sizeOf207
  v117 := Tryz.zeroValue207
  t124 := Tryz.underlying214
  a124 := Tryz.isAgg214
  z124 := Tryz.sizeOf214
  v124 := Tryz.zeroValue214 }
end Go.Proofs.YtldkhbkgmiicbaaGreatDoor

/- The program's own Size, as landed at 7a0984bd. -/
namespace Go.Proofs.YtldkhbkgmiicbaaGreatDoor
open Go.RowKit Go.Deep
set_option linter.unusedVariables false
set_option linter.unusedSimpArgs false

theorem Px.decDigits_dec : ∀ (n u : Nat), u ≤ n → Lib.decDigits u = Px.dec u := by
  intro n
  induction n with
  | zero => intro u hu; rw [Lib.decDigits, dif_pos (by omega), Px.dec_one (by omega)]
  | succ n ih =>
    intro u hu
    by_cases h : u < 10
    · rw [Lib.decDigits, dif_pos h, Px.dec_one h]
    · rw [Lib.decDigits, dif_neg h, Px.dec_more h, ih (u / 10) (by omega)]
theorem Px.itoa_dec (u : Nat) : Lib.itoa (u : Int) = Px.dec u := by rw [Lib.itoa_nonneg, Px.decDigits_dec u u (Nat.le_refl _)]
theorem bw_grown9 (w : World) (k : Nat) (os : Array Obj) : Bw w (Go.Sort.grow (w.drewN k) os) := Lib.below_grow w.heap.size w (Nat.le_refl _) k os
/-- strconv.Itoa of a number -/
theorem itoa_any (n : Nat) (hn : n ≤ 9223372036854775807) (w : World) (hk : KAt w) :
    Calls Tryz.prog 139 #[.int .i64 (n : Int)] w fun e w' => e = .returned (.string (Nm.S (Px.dec n))) ∧ Bw w w' :=
  (Any.strconv_Itoa sx171 (n : Int) (by omega) (by omega) w hk).mono fun e w' ⟨h1, k, os, h2⟩ => ⟨by rw [h1, Px.itoa_dec]; rfl, by rw [h2]; exact bw_grown9 w k os⟩
set_option maxHeartbeats 1000000 in
theorem psize_any (a b : ByteArray) (ha : a.size ≤ 140737488355328) (hb : b.size ≤ 140737488355328) (w : World) (hk : KAt w) :
    Calls Tryz.prog 113 #[.agg #[.string a, .string b]] w fun e w' => e = .returned (.int .i64 ((Px.psize (a.toList, b.toList) : Nat) : Int)) ∧ Bw w w' := by
  obtain ⟨r, hr⟩ : ∃ r, Hid (r = 3 + a.size + b.size) := ⟨_, rfl⟩
  have HP : Hid (Px.psize (a.toList, b.toList) = Px.size r) := by
    show _ = _
    unfold Px.psize
    rw [Nm.size_toList, Nm.size_toList, hr.out]
  have HK : Hid (KAt w) := hk
  clear hk
  go_enter Tryz.func113, Tryz.ntmps113
  have HB : Hid (Px.size r ≤ r + r + 2) := by
    show _ ≤ _
    have := Px.dl_le r
    unfold Px.size
    split <;> omega
  have hrb : r ≤ 281474976710659 := by have := hr.out; omega
  have hr2 : Hid ((a.size : Int) + (b.size : Int) + (3 : Int) = (r : Int)) := by show _ = _; have := hr.out; omega
  go_wp2
  rw [hr2.out]
  have hw1 : Bw w (w.alloc (.cells #[.string a, .string b] 130)) := Below.alloc (Below.refl _ _) (Nat.le_refl _) _
  go_loopw [4] (fun m wr => ∃ (k : Nat), 1 ≤ k ∧ Hid (r + k ≤ Px.size r) ∧ Hid (k ≤ Px.dl (r + k)) ∧ m = .int .i64 (k : Int) ∧ Bw w wr) (fun m _ => Px.size r - (intOf m).toNat)
  case atStart => exact ⟨1, Nat.le_refl _, Px.size_ge r, Px.dl_pos _, rfl, hw1⟩
  case round =>
    obtain ⟨k, hk1, hk2, hk3, rfl, hwr⟩ := hrel
    have k0 : (0 : Int) ≤ (k : Int) := Int.natCast_nonneg _
    have kb : k ≤ 562949953421322 := by have := HB.out; have := hk2.out; omega
    obtain ⟨m, hm⟩ : ∃ m, Hid (m = r + k) := ⟨_, rfl⟩
    have hm2 : (r : Int) + (k : Int) = (m : Int) := by have := hm.out; omega
    have mb : m ≤ 9007199254740992 := by have := hm.out; omega
    have hsz : (Nm.S (Px.dec m)).size = Px.dl m := by rw [Nm.size_S, Px.dec_len]
    obtain ⟨X, hX⟩ : ∃ X, Hid (X = Nm.S (Px.dec m)) := ⟨_, rfl⟩
    rw [← hX.out] at hsz
    have hdl : Hid (Px.dl m ≤ m + 1) := Px.dl_le m
    obtain ⟨d, hd⟩ : ∃ d, Hid (d = Px.dl m) := ⟨_, rfl⟩
    rw [← hd.out] at hsz hdl
    have hkd : Hid (k ≤ d) := by show _ ≤ _; have := hk3.out; rw [← hm.out, ← hd.out] at this; exact this
    have KT := HK.out.keep hwr
    have KK : Hid (KAt wr) := KT
    clear KT
    by_cases he : k < d
    · have e1 : (k : Int) < (d : Int) := by omega
      have n1 : Hid (r + (k + 1) ≤ Px.size r) := by
        show _ ≤ _
        rcases Nat.lt_or_ge (r + k) (Px.size r) with h | h
        · omega
        · exfalso
          have h1 : r + k = Px.size r := Nat.le_antisymm hk2.out h
          have h2 := Px.size_says r
          rw [← h1, ← hm.out, ← hd.out, hm.out] at h2
          omega
      have n2 : Hid (k + 1 ≤ Px.dl (r + (k + 1))) := by
        show _ ≤ _
        have h1 := Px.dl_mono (r + (k + 1)) (r + k) (by omega)
        rw [← hm.out, ← hd.out] at h1
        omega
      clear he
      go_wp2_with (go_at_call 139; refine (itoa_any m (by omega) _ KK.out).mono ?_; rintro e w2 ⟨rfl, hw2⟩; rw [← hX.out])
      go_roundw
      case rel => exact ⟨k + 1, by omega, n1, n2, by go_num, hwr.trans hw2⟩
      case measure => have := n1.out; simp [intOf]; omega
    · have e1 : ¬ (k : Int) < (d : Int) := by omega
      have hans : Hid (Px.psize (a.toList, b.toList) = m) := by
        show _ = _
        rw [HP.out]
        refine Nat.le_antisymm (Px.size_least ?_) (by rw [hm.out]; exact hk2.out)
        have := hkd.out
        rw [← hd.out, show d = k by omega]
        exact hm.out
      clear he
      go_wp2_with (go_at_call 139; refine (itoa_any m (by omega) _ KK.out).mono ?_; rintro e w2 ⟨rfl, hw2⟩; rw [← hX.out])
      go_ret
      exact ⟨ret_int (by rw [hans.out]), hwr.trans hw2⟩
end Go.Proofs.YtldkhbkgmiicbaaGreatDoor

/- Keys: the library's search for bytes that no key has. -/
namespace Go.Proofs.YtldkhbkgmiicbaaGreatDoor
open Go.RowKit Go.Deep
set_option linter.unusedVariables false
set_option linter.unusedSimpArgs false

set_option maxRecDepth 100000 in
set_option maxHeartbeats 1000000 in
theorem rune_err (w : World) : Calls Tryz.prog 171 #[.string ⟨#[0, 10, 61]⟩, .int .i32 65533] w fun e w' => e = .returned (.int .i64 (-1)) ∧ Bw w w' := by
  obtain ⟨C, hC⟩ : ∃ C : ByteArray, Hid (C = ⟨#[0, 10, 61]⟩) := ⟨_, rfl⟩
  have hs : C.size = 3 := by rw [hC.out]; rfl
  have ha : Hid (∀ i (h : i < C.size), (C[i]'h).toNat < 128) := by
    show ∀ i (h : i < C.size), (C[i]'h).toNat < 128
    obtain rfl := hC.out
    intro i h
    rcases i with _ | _ | _ | i
    · show (0 : UInt8).toNat < 128; decide
    · show (10 : UInt8).toNat < 128; decide
    · show (61 : UInt8).toNat < 128; decide
    · exact absurd h (by show ¬ i + 3 < 3; omega)
  rw [← hC.out]
  go_enter Tryz.func171, Tryz.ntmps171
  go_wp2
  go_loopg [5, 6] 3 (fun g _ _ wx => ∃ i : Nat, i + g = 3 ∧ wx = w.iter C i)
  case atStart => exact ⟨0, rfl, rfl⟩
  case round =>
    obtain ⟨i, hig, rfl⟩ := hrel
    cases gk with
    | zero =>
      obtain rfl : i = 3 := by omega
      have hnx := fun ty => run_next_end (P := Tryz.prog) w C 3 ty (by omega)
      go_wp2
      go_ret
      exact ⟨rfl, Below.alloc (Below.refl _ _) (Nat.le_refl _) _⟩
    | succ g =>
      have hi : i < C.size := by omega
      obtain ⟨x, hx⟩ : ∃ x : UInt8, C[i]'hi = x := ⟨_, rfl⟩
      have hx128 : x.toNat < 128 := by rw [← hx]; exact ha.out i hi
      have hnx := fun ty => run_next_ascii (P := Tryz.prog) w C i ty hi (by rw [hx]; exact hx128)
      rw [hx] at hnx
      clear hx
      have e1 : ((x.toNat : Int) == 65533) = false := beq_eq_false_iff_ne.2 (by omega)
      go_wp2
      go_roundg g
      case measure => omega
      case rel => exact ⟨i + 1, by omega, rfl⟩
set_option maxRecDepth 100000 in
set_option maxHeartbeats 1000000 in
theorem valid_any (r : Nat) (h2 : r ≤ 2147483647) (w : World) : Calls Tryz.prog 181 #[.int .i32 (r : Int)] w fun e w' => e = .returned (.bool (decide (r < 55296 ∨ 57343 < r ∧ r ≤ 1114111))) ∧ w' = w := by
  have r0 : (0 : Int) ≤ (r : Int) := Int.natCast_nonneg _
  obtain ⟨R, hR⟩ : ∃ R, Hid (decide (r < 55296 ∨ 57343 < r ∧ r ≤ 1114111) = R) := ⟨_, rfl⟩
  rw [hR.out]
  by_cases c1 : (r : Int) < 55296
  · have hr : Hid (R = true) := by show _ = _; rw [← hR.out]; exact decide_eq_true (by omega)
    go_enter Tryz.func181, Tryz.ntmps181
    go_wp2
    go_ret
    exact ⟨ret_bool hr.out.symm, rfl⟩
  · by_cases c2 : (57343 : Int) < (r : Int)
    · by_cases c3 : (r : Int) ≤ 1114111
      · have hr : Hid (R = true) := by show _ = _; rw [← hR.out]; exact decide_eq_true (by omega)
        go_enter Tryz.func181, Tryz.ntmps181
        go_wp2
        go_ret
        exact ⟨ret_bool hr.out.symm, rfl⟩
      · have hr : Hid (R = false) := by show _ = _; rw [← hR.out]; exact decide_eq_false (by omega)
        go_enter Tryz.func181, Tryz.ntmps181
        go_wp2
        go_ret
        exact ⟨ret_bool hr.out.symm, rfl⟩
    · have hr : Hid (R = false) := by show _ = _; rw [← hR.out]; exact decide_eq_false (by omega)
      go_enter Tryz.func181, Tryz.ntmps181
      go_wp2
      go_ret
      exact ⟨ret_bool hr.out.symm, rfl⟩
/-- the text of a rune that is no ASCII: its bytes are not ASCII -/
theorem enc_high (r : Nat) (h1 : 128 ≤ r) (hv : r < 55296 ∨ 57343 < r ∧ r ≤ 1114111) : ∃ x y z t : UInt8, 128 ≤ x.toNat ∧ 128 ≤ y.toNat ∧ 128 ≤ z.toNat ∧ 128 ≤ t.toNat ∧ (Utf8.encode (r : Int) = ⟨#[x, t]⟩ ∨ Utf8.encode (r : Int) = ⟨#[x, y, t]⟩ ∨ Utf8.encode (r : Int) = ⟨#[x, y, z, t]⟩) := by
  have hva : Utf8.valid (r : Int) = true := by
    unfold Utf8.valid
    simp only [Bool.or_eq_true, Bool.and_eq_true, decide_eq_true_eq]
    omega
  have hb : ∀ k, k < 64 → 128 ≤ (UInt8.ofNat (0x80 + k)).toNat := fun k hk => by rw [UInt8.toNat_ofNat']; omega
  unfold Utf8.encode
  simp only [hva, if_true, Int.toNat_natCast]
  by_cases c1 : r < 0x80
  · omega
  · by_cases c2 : r < 0x800
    · refine ⟨UInt8.ofNat (0xC0 + r / 64), UInt8.ofNat (0x80 + 0), UInt8.ofNat (0x80 + 0), UInt8.ofNat (0x80 + r % 64), by rw [UInt8.toNat_ofNat']; omega, hb _ (by omega), hb _ (by omega), hb _ (by omega), .inl ?_⟩
      rw [if_neg c1, if_pos c2]
    · by_cases c3 : r < 0x10000
      · refine ⟨UInt8.ofNat (0xE0 + r / 4096), UInt8.ofNat (0x80 + r / 64 % 64), UInt8.ofNat (0x80 + 0), UInt8.ofNat (0x80 + r % 64), by rw [UInt8.toNat_ofNat']; omega, hb _ (by omega), hb _ (by omega), hb _ (by omega), .inr (.inl ?_)⟩
        rw [if_neg c1, if_neg c2, if_pos c3]
      · refine ⟨UInt8.ofNat (0xF0 + r / 262144), UInt8.ofNat (0x80 + r / 4096 % 64), UInt8.ofNat (0x80 + r / 64 % 64), UInt8.ofNat (0x80 + r % 64), by rw [UInt8.toNat_ofNat']; omega, hb _ (by omega), hb _ (by omega), hb _ (by omega), .inr (.inr ?_)⟩
        rw [if_neg c1, if_neg c2, if_neg c3]
theorem byte_not (y : UInt8) (c : Int) (hy : 128 ≤ y.toNat) (hc : c < 128) : (c != (y.toNat : Int)) = true := by rw [bne_iff_ne]; omega
theorem ib_none (s : ByteArray) (c : UInt8) (hc : 128 ≤ c.toNat) (hs : ∀ b ∈ s.data.toList, b.toNat < 128) (w : World) : Calls Tryz.prog 91 #[.string s, .int .u8 (c.toNat : Int)] w fun e w' => e = .returned (.int .i64 (-1)) ∧ w' = w :=
  (Any.strings_IndexByte (ρ := sx150_ren) { sx150 with } s (c.toNat : Int) w).mono fun e w' ⟨h1, h2⟩ => ⟨by
    have hb : ((c.toNat : Int)).toNat.toUInt8 = c := by simp
    rw [h1, hb]
    have h3 : s.data.toList.contains c = false := by
      rw [List.contains_eq_mem]
      refine decide_eq_false fun h => ?_
      have := hs c h
      omega
    have h4 := Lib.contains_iff_indexByte s.data.toList c
    rw [h3] at h4
    have h5 := of_decide_eq_false h4.symm
    have h6 := Lib.indexByte_ge s.data.toList c
    congr 2
    omega, h2⟩
set_option maxRecDepth 100000 in
set_option maxHeartbeats 1000000 in
theorem rune_high (r : Nat) (h1 : 128 ≤ r) (h2 : r ≤ 2147483647) (h3 : r ≠ 65533) (w : World) : Calls Tryz.prog 171 #[.string ⟨#[0, 10, 61]⟩, .int .i32 (r : Int)] w fun e w' => e = .returned (.int .i64 (-1)) ∧ Bw w w' := by
  have e1 : ((r : Int) == 65533) = false := beq_eq_false_iff_ne.2 (by omega)
  have r0 : ¬ (r : Int) < 128 := by omega
  have r1 : (0 : Int) ≤ (r : Int) := by omega
  by_cases hv : r < 55296 ∨ 57343 < r ∧ r ≤ 1114111
  · have hd := decide_eq_true hv
    obtain ⟨x, y, z, t, hx, hy, hz, ht, he⟩ := enc_high r h1 hv
    have HV : Hid (decide (r < 55296 ∨ 57343 < r ∧ r ≤ 1114111) = true) := hd
    have hcv : ∀ W : World, (convert 21 9 (.int .i32 (r : Int))).run Tryz.prog W = .ok (.string (Utf8.encode (r : Int))) W := fun W => by kernel_rfl
    clear hv hd
    rcases he with he | he | he
    · rw [he] at hcv
      clear he
      go_enter Tryz.func171, Tryz.ntmps171
      go_wp2_with (go_at_call 181; refine (valid_any r h2 _).mono ?_; rintro e w1 ⟨rfl, hw1⟩; rw [HV.out]; subst w1)
      go_step3
      go_wp2
      go_loop [9, 10] (fun i f => i = .int .i64 1 ∧ f = .int .i64 0) (fun _ _ => 0)
      case atStart => exact ⟨rfl, rfl⟩
      case round =>
        obtain ⟨rfl, rfl⟩ := hrel
        have hb1 : ((((⟨#[0, 10, 61]⟩ : ByteArray)[1]'(by decide)).toNat : Int) != (((⟨#[x, t]⟩ : ByteArray)[1]'(by show 1 < 2; decide)).toNat : Int)) = true := byte_not t 10 ht (by decide)
        go_wp2
        go_step3
        go_wp2
        go_quiet (fail)
        clear hb1
        go_wp2
        generalize hW : w.drewN nq = W
        have hbw : Bw w W := by rw [← hW]; exact Bw.drewN _ _
        clear hW
        go_quiet (first | (go_at_call 91; exact Calls.quiet_of_same (ib_none _ t ht (by decide) _)) | (go_at_call 91; trace_state; fail))
        go_wp2
        simp only [Exit.noGoto_ret]
        go_wp2
        simp only [Exit.noGoto_ret]
        go_wp2
        go_ret
        exact ⟨rfl, hbw.trans (Bw.drewN _ _)⟩
    · rw [he] at hcv
      clear he
      go_enter Tryz.func171, Tryz.ntmps171
      go_wp2_with (go_at_call 181; refine (valid_any r h2 _).mono ?_; rintro e w1 ⟨rfl, hw1⟩; rw [HV.out]; subst w1)
      go_step3
      go_wp2
      go_loop [9, 10] (fun i f => i = .int .i64 2 ∧ f = .int .i64 0) (fun _ _ => 0)
      case atStart => exact ⟨rfl, rfl⟩
      case round =>
        obtain ⟨rfl, rfl⟩ := hrel
        have hb1 : ((((⟨#[0, 10, 61]⟩ : ByteArray)[2]'(by decide)).toNat : Int) != (((⟨#[x, y, t]⟩ : ByteArray)[2]'(by show 2 < 3; decide)).toNat : Int)) = true := byte_not t 61 ht (by decide)
        go_wp2
        go_step3
        go_wp2
        go_quiet (fail)
        clear hb1
        go_wp2
        generalize hW : w.drewN nq = W
        have hbw : Bw w W := by rw [← hW]; exact Bw.drewN _ _
        clear hW
        go_quiet (first | (go_at_call 91; exact Calls.quiet_of_same (ib_none _ t ht (by decide) _)) | (go_at_call 91; trace_state; fail))
        go_wp2
        simp only [Exit.noGoto_ret]
        go_wp2
        simp only [Exit.noGoto_ret]
        go_wp2
        go_ret
        exact ⟨rfl, hbw.trans (Bw.drewN _ _)⟩
    · rw [he] at hcv
      clear he
      go_enter Tryz.func171, Tryz.ntmps171
      go_wp2_with (go_at_call 181; refine (valid_any r h2 _).mono ?_; rintro e w1 ⟨rfl, hw1⟩; rw [HV.out]; subst w1)
      go_step3
      go_wp2
      go_loop [9, 10] (fun i f => i = .int .i64 3 ∧ f = .int .i64 0) (fun _ _ => 0)
      case atStart => exact ⟨rfl, rfl⟩
      case round =>
        obtain ⟨rfl, rfl⟩ := hrel
        go_wp2
        go_ret
        exact ⟨rfl, Bw.refl _⟩
  · have HV : Hid (decide (r < 55296 ∨ 57343 < r ∧ r ≤ 1114111) = false) := decide_eq_false hv
    clear hv
    go_enter Tryz.func171, Tryz.ntmps171
    go_wp2_with (go_at_call 181; refine (valid_any r h2 _).mono ?_; rintro e w1 ⟨rfl, hw1⟩; rw [HV.out]; subst w1)
    go_ret
    exact ⟨rfl, Bw.refl _⟩
end Go.Proofs.YtldkhbkgmiicbaaGreatDoor
