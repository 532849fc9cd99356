/- Texts of mine, put together. -/
import Derived.Test.YtldkhbkgmiicbabGreatDoorBu15
import Derived.Test.YtldkhbkgmiicbabGreatDoorBu2
import Derived.Lib.BufferWrite

/- Layer 10: what is read of bytes, as a relation; the order of bytes and the sum. -/
namespace Go.Proofs.YtldkhbkgmiicbabGreatDoor
set_option linter.unusedVariables false
set_option linter.unusedSimpArgs false

namespace Hd
def none : Hdr := ⟨[], 0, 0, 0, 0, [], []⟩
/-- what is read of bytes: the head, and what is wrong -/
structure Reads (b : B) (h : Hdr) (e : Nat) : Prop where
  len : b.length ≠ 512 → h = none ∧ e = 1
  word : b.length = 512 → (b.drop 257).take 8 ≠ ustar → h = none ∧ e = 100
  sum : b.length = 512 → (b.drop 257).take 8 = ustar → sealB b ≠ b → h = none ∧ e = 101
  yes : b.length = 512 → (b.drop 257).take 8 = ustar → sealB b = b → ∀ k, Good k → layB k = b → h = k ∧ e = 0
  no : b.length = 512 → (b.drop 257).take 8 = ustar → sealB b = b → (∀ k, Good k → layB k ≠ b) → h = none ∧ e = 100
end Hd
end Go.Proofs.YtldkhbkgmiicbabGreatDoor

/- Numbers in a head's fields: the mathematics. -/
namespace Go.Proofs.YtldkhbkgmiicbabGreatDoor
open Go.RowKit Go.Deep
set_option linter.unusedVariables false
set_option linter.unusedSimpArgs false

namespace Oct
/-- what k bytes tell, the greatest one first -/
def num (f : Nat → Int) : Nat → Int
  | 0 => 0
  | k + 1 => num f k * 256 + f k
/-- what k octal digits from p on tell -/
def oct (f : Nat → Int) (p : Nat) : Nat → Int
  | 0 => 0
  | k + 1 => 8 * oct f p k + (f (p + k) - 48)
def Digit (x : Int) : Prop := 48 ≤ x ∧ x ≤ 55
def Blank (x : Int) : Prop := x = 32
def Tail (x : Int) : Prop := x = 0 ∨ x = 32
/-- from p on the bytes up to q are such, and no further -/
structure Run (P : Int → Prop) (f : Nat → Int) (L p q : Nat) : Prop where
  le : p ≤ q
  top : q ≤ L
  all : ∀ i, p ≤ i → i < q → P (f i)
  stop : q < L → ¬ P (f q)
/-- what the reading of a loose field answers: the number, the place, the error -/
structure Says (L : Nat) (f : Nat → Int) (n at_ e : Int) : Prop where
  arg : ¬ (2 ≤ L ∧ L ≤ 12) → n = 0 ∧ at_ = 0 ∧ e = 1
  wide : 2 ≤ L → L ≤ 12 → f 0 = 128 → num (fun i => f (1 + i)) (L - 1) ≤ 9223372036854775807 → n = num (fun i => f (1 + i)) (L - 1) ∧ at_ = 0 ∧ e = 0
  long : 2 ≤ L → L ≤ 12 → f 0 = 128 → ¬ num (fun i => f (1 + i)) (L - 1) ≤ 9223372036854775807 → n = 0 ∧ at_ = 0 ∧ e = 2
  loose : 2 ≤ L → L ≤ 12 → ¬ f 0 = 128 → ∀ p q r, Run Blank f L 0 p → Run Digit f L p q → Run Tail f L q r → (r = L → n = oct f p (q - p) ∧ at_ = 0 ∧ e = 0) ∧ (r < L → n = 0 ∧ at_ = (r : Int) ∧ e = 70)
end Oct
end Go.Proofs.YtldkhbkgmiicbabGreatDoor

/- Contracts of the document's own Field, Most and own, of layer 7. -/
namespace Go.Proofs.YtldkhbkgmiicbabGreatDoor
open Go.RowKit Go.Deep
set_option linter.unusedVariables false
set_option linter.unusedSimpArgs false

theorem pow8_le {k : Nat} (h : k ≤ 11) : (8 : Int) ^ k ≤ 8589934592 := by
  have h12 : k = 0 ∨ k = 1 ∨ k = 2 ∨ k = 3 ∨ k = 4 ∨ k = 5 ∨ k = 6 ∨ k = 7 ∨ k = 8 ∨ k = 9 ∨ k = 10 ∨ k = 11 := by omega
  rcases h12 with rfl | rfl | rfl | rfl | rfl | rfl | rfl | rfl | rfl | rfl | rfl | rfl <;> decide
/-- what own answers -/
def OwnSays (L : Nat) (f : Nat → Int) (e : Ending) : Prop := ∃ n x, e = .returned (.tuple #[.int .i64 n, .bool x]) ∧ (Oct.num f L ≤ 9223372036854775807 → n = Oct.num f L ∧ x = true) ∧ (¬ Oct.num f L ≤ 9223372036854775807 → n = 0 ∧ x = false)
end Go.Proofs.YtldkhbkgmiicbabGreatDoor

/- Contracts of the document's own plain and Put, of layer 7. -/
namespace Go.Proofs.YtldkhbkgmiicbabGreatDoor
open Go.RowKit Go.Deep
set_option linter.unusedVariables false
set_option linter.unusedSimpArgs false

namespace Oct
/-- the plain form of n in W bytes -/
def plainF (n W i : Nat) : Nat := if i + 1 < W then 48 + n / 8 ^ (W - 2 - i) % 8 else 0
/-- the wide form of n in W bytes -/
def wideF (n W i : Nat) : Nat := if i = 0 then 128 else n / 256 ^ (W - 1 - i) % 256
/-- the form of n in W bytes -/
def formF (n W i : Nat) : Int := if n < 8 ^ (W - 1) then ((plainF n W i : Nat) : Int) else ((wideF n W i : Nat) : Int)
theorem plainF_lt (n W i : Nat) : plainF n W i < 256 := by unfold plainF; split <;> omega
theorem wideF_lt (n W i : Nat) : wideF n W i < 256 := by unfold wideF; split; decide; exact Nat.mod_lt _ (by decide)
theorem formF_bd (n W i : Nat) : 0 ≤ formF n W i ∧ formF n W i < 256 := by
  have a := plainF_lt n W i
  have b := wideF_lt n W i
  unfold formF; split <;> omega
end Oct

theorem nat_pow8_le {k : Nat} (h : k ≤ 11) : 8 ^ k ≤ 8589934592 := by
  have h12 : k = 0 ∨ k = 1 ∨ k = 2 ∨ k = 3 ∨ k = 4 ∨ k = 5 ∨ k = 6 ∨ k = 7 ∨ k = 8 ∨ k = 9 ∨ k = 10 ∨ k = 11 := by omega
  rcases h12 with rfl | rfl | rfl | rfl | rfl | rfl | rfl | rfl | rfl | rfl | rfl | rfl <;> decide
theorem pow8_cast (k : Nat) : (8 : Int) ^ k = ((8 ^ k : Nat) : Int) := by rw [Int.natCast_pow]; rfl

end Go.Proofs.YtldkhbkgmiicbabGreatDoor

/- The contract of the document's own Put, further: numbers that have no plain form. -/
namespace Go.Proofs.YtldkhbkgmiicbabGreatDoor
open Go.RowKit Go.Deep
set_option linter.unusedVariables false
set_option linter.unusedSimpArgs false

end Go.Proofs.YtldkhbkgmiicbabGreatDoor

/- The contract of the document's own Get, of layer 7. -/
namespace Go.Proofs.YtldkhbkgmiicbabGreatDoor
open Go.RowKit Go.Deep
set_option linter.unusedVariables false
set_option linter.unusedSimpArgs false

/-- what Get answers -/
def GetSays7 (L : Nat) (f : Nat → Int) (e : Ending) : Prop := ∃ n a er, e = .returned (.tuple #[.int .i64 n, .int .i64 a, .int .i64 er]) ∧ Oct.Says L f n a er

end Go.Proofs.YtldkhbkgmiicbabGreatDoor

/- Forms are read as their numbers; the document's own Put, whatever the arguments. -/
namespace Go.Proofs.YtldkhbkgmiicbabGreatDoor
open Go.RowKit Go.Deep
set_option linter.unusedVariables false
set_option linter.unusedSimpArgs false

namespace Oct
end Oct

/-- what Put answers -/
structure PutSays7 (n z : Int) (w : World) (e : Ending) (w' : World) : Prop where
  arg : ¬ (2 ≤ z ∧ z ≤ 12) ∨ n < 0 → e = .returned (.tuple #[.slice none 0 0, .int .i64 1])
  long : 2 ≤ z → z ≤ 12 → 0 ≤ n → ¬ (n.toNat < 8 ^ (z.toNat - 1) ∨ n.toNat < 256 ^ (z.toNat - 1)) → e = .returned (.tuple #[.slice none 0 0, .int .i64 2])
  form : 2 ≤ z → z ≤ 12 → 0 ≤ n → (n.toNat < 8 ^ (z.toNat - 1) ∨ n.toNat < 256 ^ (z.toNat - 1)) → ∃ g cap, e = .returned (.tuple #[.slice (some ⟨g, 0, none⟩) z.toNat cap, .int .i64 0]) ∧ Own w' g z.toNat (Oct.formF n.toNat z.toNat) ∧ w.heap.size ≤ g ∧ z.toNat ≤ cap ∧ cap ≤ maxLen
  keeps : Bw w w'
end Go.Proofs.YtldkhbkgmiicbabGreatDoor

/- Layer 10: bytes in memory as lists; what is laid over an array; the sum, added up. -/
namespace Go.Proofs.YtldkhbkgmiicbabGreatDoor
open Go.RowKit Go.Deep
set_option linter.unusedVariables false
set_option linter.unusedSimpArgs false

namespace Hd
/-- a row of these bytes -/
def rowF (l : B) (i : Nat) : Int := ((l.getD i 0).toNat : Int)
theorem rowF_bd (l : B) (i : Nat) : 0 ≤ rowF l i ∧ rowF l i < 256 := by
  unfold rowF
  have := (l.getD i 0).toNat_lt
  omega
theorem rowF_at {l : B} {i : Nat} {c : UInt8} (h : l[i]? = some c) : rowF l i = (c.toNat : Int) := by
  unfold rowF; rw [List.getD_eq_getElem?_getD, h]; rfl
/-- the bytes of a row -/
def ofF (f : Nat → Int) (n : Nat) : B := (List.range n).map fun i => UInt8.ofNat (f i).toNat
theorem ofF_len (f : Nat → Int) (n : Nat) : (ofF f n).length = n := by unfold ofF; rw [List.length_map, List.length_range]
theorem rowF_ofF {f : Nat → Int} {n i : Nat} (hf : ∀ i, 0 ≤ f i ∧ f i < 256) (hi : i < n) : rowF (ofF f n) i = f i := by
  have h : (ofF f n)[i]? = some (UInt8.ofNat (f i).toNat) := by unfold ofF; rw [List.getElem?_map, List.getElem?_range hi]; rfl
  rw [rowF_at h, UInt8.toNat_ofNat']
  have := hf i
  omega
theorem nb_form (n W i : Nat) : ((nb n W i : Nat) : Int) = Oct.formF n W i := by
  unfold nb Oct.formF Oct.plainF Oct.wideF
  split
  · rfl
  · rfl
theorem rowF_num {n W i : Nat} (hi : i < W) : rowF (numB n W) i = Oct.formF n W i := by
  rw [rowF_at (numB_at hi), UInt8.toNat_ofNat', Nat.mod_eq_of_lt (nb_lt _ _ _), nb_form]
/-- a text of these bytes -/
def S (l : B) : ByteArray := ⟨l.toArray⟩
theorem toList_S (l : B) : (S l).toList = l := ByteArray.toList_mk l
theorem S_toList (s : ByteArray) : S s.toList = s := by rw [ByteArray.toList_eq]; unfold S; rw [Array.toArray_toList]
theorem size_S (l : B) : (S l).size = l.length := by unfold S; rfl
theorem size_toList (s : ByteArray) : s.toList.length = s.size := by rw [ByteArray.toList_eq, Array.length_toList]; rfl
theorem str_S (l : B) : str (rowF l) l.length = S l := by
  have e : (str (rowF l) l.length).toList = l := by
    rw [ByteArray.toList_eq]
    show (strOfNums _).data.toList = _
    rw [strOfNums_data, List.map_map]
    apply List.ext_getElem
    · simp
    · intro i h1 h2
      simp only [List.getElem_map, List.getElem_range, Function.comp]
      rw [rowF_at (List.getElem?_eq_getElem h2)]
      simp
  rw [← S_toList (str _ _), e]
/-- the cells of bytes -/
def arr (l : B) : Array Value := (Lib.byteCells l).toArray
theorem arr_size (l : B) : (arr l).size = l.length := by unfold arr; rw [List.size_toArray, Lib.byteCells_length]
theorem arr_get {l : B} {i : Nat} {c : UInt8} (h : l[i]? = some c) : (arr l)[i]? = some (.int .u8 (c.toNat : Int)) := by
  unfold arr Lib.byteCells; rw [List.getElem?_toArray, List.getElem?_map, h]; rfl
theorem arr_row {l : B} {i : Nat} (h : i < l.length) : (arr l)[i]? = some (.int .u8 (rowF l i)) := by
  rw [arr_get (List.getElem?_eq_getElem h), rowF_at (List.getElem?_eq_getElem h)]
theorem arr_one (l : B) : (arr l).all (·.oneCell') = true := by
  rw [Array.all_eq_true_iff_forall_mem]
  intro x hx
  unfold arr at hx
  rw [List.mem_toArray] at hx
  exact Lib.byteCells_one l x hx
theorem cells_row (l : B) : cellsU (rowF l) l.length = Lib.byteCells l := by
  unfold cellsU Lib.byteCells
  apply List.ext_getElem
  · simp
  · intro i h1 h2
    simp only [List.length_map, List.length_range] at h1
    simp only [List.getElem_map, List.getElem_range]
    rw [rowF_at (List.getElem?_eq_getElem h1)]
/-- bytes laid over others at a place -/
def ovl (l : B) (o : Nat) (s : B) : B := l.take o ++ s ++ l.drop (o + s.length)
theorem ovl_len {l : B} {o : Nat} {s : B} (h : o + s.length ≤ l.length) : (ovl l o s).length = l.length := by
  unfold ovl; rw [List.length_append, List.length_append, List.length_take, List.length_drop]; omega
theorem arr_ovl (l : B) (o : Nat) (s : B) : ((arr l).toList.take o ++ Lib.byteCells s ++ (arr l).toList.drop (o + s.length)).toArray = arr (ovl l o s) := by
  unfold arr ovl Lib.byteCells
  simp only [List.map_append, List.map_take, List.map_drop]
theorem set_ovl {l : B} {o : Nat} (h : o < l.length) (c : UInt8) : l.set o c = ovl l o [c] := by
  unfold ovl
  rw [List.set_eq_take_append_cons_drop, if_pos h]
  simp
theorem arr_set {l : B} {o : Nat} (h : o < l.length) (c : UInt8) : (arr l).setIfInBounds o (.int .u8 (c.toNat : Int)) = arr (ovl l o [c]) := by
  rw [← set_ovl h]
  unfold arr Lib.byteCells
  rw [List.setIfInBounds_toArray, List.map_set]
theorem pad_full {s : B} {w : Nat} (h : s.length = w) : pad s w = s := by unfold pad; rw [h, Nat.sub_self, List.replicate_zero, List.append_nil]
/-- one field more -/
theorem ovl_step {P s : B} (o w m m' : Nat) (hP : P.length = o) (hs : s.length ≤ w) (hm : m = w + m') : ovl (P ++ List.replicate m 0) o s = (P ++ pad s w) ++ List.replicate m' 0 := by
  unfold ovl pad
  rw [List.take_append_of_le_length (by omega), List.take_of_length_le (by omega), ← List.drop_drop, ← hP, List.drop_left, List.drop_replicate]
  simp only [List.append_assoc]
  congr 2
  rw [List.replicate_append_replicate]
  congr 1
  omega
theorem gap_step {P : B} (w m m' : Nat) (hm : m = w + m') : P ++ List.replicate m 0 = (P ++ pad [] w) ++ List.replicate m' 0 := by
  unfold pad
  simp only [List.append_assoc, List.nil_append, List.length_nil, Nat.sub_zero]
  rw [List.replicate_append_replicate]
  congr 2
def zeros : B := List.replicate 512 0
/-- what the program lays, field by field -/
def lay1 (h : Hdr) : B := ovl zeros 0 h.name
def lay2 (h : Hdr) : B := ovl (lay1 h) 100 (numB h.mode.toNat 8)
def lay3 (h : Hdr) : B := ovl (lay2 h) 108 (numB 0 8)
def lay4 (h : Hdr) : B := ovl (lay3 h) 116 (numB 0 8)
def lay5 (h : Hdr) : B := ovl (lay4 h) 124 (numB h.size.toNat 12)
def lay6 (h : Hdr) : B := ovl (lay5 h) 136 (numB h.time.toNat 12)
def lay7 (h : Hdr) : B := ovl (lay6 h) 156 [h.typ]
def lay8 (h : Hdr) : B := ovl (lay7 h) 157 h.link
def lay9 (h : Hdr) : B := ovl (lay8 h) 257 ustar
def layZ (h : Hdr) : B := ovl (lay9 h) 329 (numB 0 8)
def layA (h : Hdr) : B := ovl (layZ h) 337 (numB 0 8)
def layP (h : Hdr) : B := ovl (layA h) 345 h.pre
theorem layP_raw {h : Hdr} (g : Good h) : layP h = rawB h := by
  have n8 : ∀ n, (numB n 8).length = 8 := fun n => numB_len n 8
  have n12 : ∀ n, (numB n 12).length = 12 := fun n => numB_len n 12
  have p8 : ∀ n, pad (numB n 8) 8 = numB n 8 := fun n => pad_full (n8 n)
  have p12 : ∀ n, pad (numB n 12) 12 = numB n 12 := fun n => pad_full (n12 n)
  have l1 := pad_len g.name
  have l2 := pad_len g.link
  have l3 : (pad ([] : B) 8).length = 8 := by decide
  have l4 : (pad ([] : B) 64).length = 64 := pad_len (by decide)
  have l5 : (pad ustar 8).length = 8 := by decide
  have l6 := pad_len g.pre
  unfold layP layA layZ lay9 lay8 lay7 lay6 lay5 lay4 lay3 lay2 lay1
  have p1 : pad [h.typ] 1 = [h.typ] := pad_full rfl
  have e0 : zeros = [] ++ List.replicate 512 0 := rfl
  rw [e0]
  rw [ovl_step 0 100 512 412 (by simp [l1, p8, n8, p12, n12, l3, l2, l4, l5, p1]) g.name rfl]
  rw [ovl_step 100 8 412 404 (by simp [l1, p8, n8, p12, n12, l3, l2, l4, l5, p1]) (by rw [n8]; omega) rfl]
  rw [ovl_step 108 8 404 396 (by simp [l1, p8, n8, p12, n12, l3, l2, l4, l5, p1]) (by rw [n8]; omega) rfl]
  rw [ovl_step 116 8 396 388 (by simp [l1, p8, n8, p12, n12, l3, l2, l4, l5, p1]) (by rw [n8]; omega) rfl]
  rw [ovl_step 124 12 388 376 (by simp [l1, p8, n8, p12, n12, l3, l2, l4, l5, p1]) (by rw [n12]; omega) rfl]
  rw [ovl_step 136 12 376 364 (by simp [l1, p8, n8, p12, n12, l3, l2, l4, l5, p1]) (by rw [n12]; omega) rfl]
  rw [gap_step 8 364 356 rfl]
  rw [ovl_step 156 1 356 355 (by simp [l1, p8, n8, p12, n12, l3, l2, l4, l5, p1]) (by simp) rfl]
  rw [ovl_step 157 100 355 255 (by simp [l1, p8, n8, p12, n12, l3, l2, l4, l5, p1]) g.link rfl]
  rw [ovl_step 257 8 255 247 (by simp [l1, p8, n8, p12, n12, l3, l2, l4, l5, p1]) (by decide) rfl]
  rw [gap_step 64 247 183 rfl]
  rw [ovl_step 329 8 183 175 (by simp [l1, p8, n8, p12, n12, l3, l2, l4, l5, p1]) (by rw [n8]; omega) rfl]
  rw [ovl_step 337 8 175 167 (by simp [l1, p8, n8, p12, n12, l3, l2, l4, l5, p1]) (by rw [n8]; omega) rfl]
  rw [ovl_step 345 155 167 12 (by simp [l1, p8, n8, p12, n12, l3, l2, l4, l5, p1]) g.pre rfl]
  rw [gap_step 12 12 0 rfl]
  unfold rawB ahead after
  simp only [p8, p12, List.flatten_cons, List.flatten_nil, List.append_assoc, List.nil_append, List.append_nil, p1, Nat.sub_self, List.replicate_zero]
/-- the sum's bytes laid over -/
theorem ovl_seal {l : B} (h : l.length = 512) : ovl (ovl l 148 (numB (sumB l) 7)) 155 [32] = sealB l := by
  unfold ovl sealB
  rw [numB_len]
  have e1 : (l.take 148 ++ numB (sumB l) 7).length = 155 := by rw [List.length_append, List.length_take, numB_len]; omega
  rw [List.take_append_of_le_length (by omega), List.take_of_length_le (by omega), List.drop_append, List.drop_eq_nil_of_le (by omega), List.nil_append, e1, List.drop_drop]
  simp
/-- the sum, added up to a place -/
def sumTo (l : B) : Nat → Nat
  | 0 => 0
  | k + 1 => sumTo l k + (if 148 ≤ k ∧ k < 156 then 32 else (l.getD k 0).toNat)
theorem sumL_take_succ {l : B} {k : Nat} (h : k < l.length) : sumL (l.take (k + 1)) = sumL (l.take k) + (l.getD k 0).toNat := by
  unfold sumL
  rw [List.take_add_one, List.map_append, List.sum_append, List.getD_eq_getElem?_getD, List.getElem?_eq_getElem h]
  simp
theorem sumTo_low {l : B} (h : l.length = 512) : ∀ k, k ≤ 148 → sumTo l k = sumL (l.take k)
  | 0, _ => rfl
  | k + 1, hk => by
    rw [sumL_take_succ (by omega), ← sumTo_low h k (by omega)]
    unfold sumTo
    rw [if_neg (by omega)]
    cases k <;> rfl
theorem sumTo_mid {l : B} (h : l.length = 512) : ∀ k, k ≤ 8 → sumTo l (148 + k) = sumL (l.take 148) + 32 * k
  | 0, _ => sumTo_low h 148 (Nat.le_refl _)
  | k + 1, hk => by
    have := sumTo_mid h k (by omega)
    show sumTo l (148 + k) + (if 148 ≤ 148 + k ∧ 148 + k < 156 then 32 else (l.getD (148 + k) 0).toNat) = _
    rw [if_pos (by omega), this]; omega
theorem sumTo_high {l : B} (h : l.length = 512) : ∀ k, k ≤ 356 → sumTo l (156 + k) = sumL (l.take 148) + 256 + sumL ((l.drop 156).take k)
  | 0, _ => by rw [sumTo_mid h 8 (by omega)]; rfl
  | k + 1, hk => by
    have := sumTo_high h k (by omega)
    rw [sumL_take_succ (l := l.drop 156) (k := k) (by rw [List.length_drop]; omega)]
    show sumTo l (156 + k) + (if 148 ≤ 156 + k ∧ 156 + k < 156 then 32 else (l.getD (156 + k) 0).toNat) = _
    rw [if_neg (by omega), this, List.getD_eq_getElem?_getD, List.getD_eq_getElem?_getD, List.getElem?_drop]
    omega
theorem sumTo_all {l : B} (h : l.length = 512) : sumTo l 512 = sumB l := by
  have := sumTo_high h 356 (by omega)
  rw [List.take_of_length_le (l := l.drop 156) (by rw [List.length_drop]; omega)] at this
  exact this
theorem sumTo_bd (l : B) : ∀ k, sumTo l k ≤ 255 * k
  | 0 => Nat.le_refl _
  | k + 1 => by
    have := sumTo_bd l k
    have hc := (l.getD k 0).toNat_lt
    unfold sumTo
    split <;> omega
end Hd
end Go.Proofs.YtldkhbkgmiicbabGreatDoor
