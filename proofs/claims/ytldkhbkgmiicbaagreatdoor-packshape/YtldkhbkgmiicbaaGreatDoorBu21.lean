/- Texts of mine, put together. -/
import Derived.Test.YtldkhbkgmiicbaaGreatDoorBu19
import Derived.Test.YtldkhbkgmiicbaaGreatDoorBu20
import Derived.Test.YtldkhbkgmiicbaaGreatDoorBu18
import Derived.Lib.BufferWrite

/- Layer 10: bytes in memory as lists; what is laid over an array; the sum, added up. -/
namespace Go.Proofs.YtldkhbkgmiicbaaGreatDoor
open Go.RowKit Go.Deep
set_option linter.unusedVariables false
set_option linter.unusedSimpArgs false

namespace Hd
/-- a row of these bytes -/
def rowF (l : B) (i : Nat) : Int := ((l.getD i 0).toNat : Int)
theorem rowF_bd (l : B) (i : Nat) : 0 ≤ rowF l i ∧ rowF l i < 256 := by
  unfold rowF
  have := (l.getD i 0).toNat_lt
  omega
theorem rowF_at {l : B} {i : Nat} {c : UInt8} (h : l[i]? = some c) : rowF l i = (c.toNat : Int) := by
  unfold rowF; rw [List.getD_eq_getElem?_getD, h]; rfl
/-- the bytes of a row -/
def ofF (f : Nat → Int) (n : Nat) : B := (List.range n).map fun i => UInt8.ofNat (f i).toNat
theorem ofF_len (f : Nat → Int) (n : Nat) : (ofF f n).length = n := by unfold ofF; rw [List.length_map, List.length_range]
theorem rowF_ofF {f : Nat → Int} {n i : Nat} (hf : ∀ i, 0 ≤ f i ∧ f i < 256) (hi : i < n) : rowF (ofF f n) i = f i := by
  have h : (ofF f n)[i]? = some (UInt8.ofNat (f i).toNat) := by unfold ofF; rw [List.getElem?_map, List.getElem?_range hi]; rfl
  rw [rowF_at h, UInt8.toNat_ofNat']
  have := hf i
  omega
theorem rowF_ext {a b : B} (hl : a.length = b.length) (h : ∀ i, i < a.length → rowF a i = rowF b i) : a = b := by
  apply List.ext_getElem hl
  intro i h1 h2
  have e := h i h1
  rw [rowF_at (List.getElem?_eq_getElem h1), rowF_at (List.getElem?_eq_getElem h2)] at e
  exact UInt8.toNat_inj.1 (by omega)
theorem nb_form (n W i : Nat) : ((nb n W i : Nat) : Int) = Oct.formF n W i := by
  unfold nb Oct.formF Oct.plainF Oct.wideF
  split
  · rfl
  · rfl
theorem rowF_num {n W i : Nat} (hi : i < W) : rowF (numB n W) i = Oct.formF n W i := by
  rw [rowF_at (numB_at hi), UInt8.toNat_ofNat', Nat.mod_eq_of_lt (nb_lt _ _ _), nb_form]
/-- a text of these bytes -/
def S (l : B) : ByteArray := ⟨l.toArray⟩
theorem toList_S (l : B) : (S l).toList = l := ByteArray.toList_mk l
theorem S_toList (s : ByteArray) : S s.toList = s := by rw [ByteArray.toList_eq]; unfold S; rw [Array.toArray_toList]
theorem size_S (l : B) : (S l).size = l.length := by unfold S; rfl
theorem size_toList (s : ByteArray) : s.toList.length = s.size := by rw [ByteArray.toList_eq, Array.length_toList]; rfl
theorem S_inj {a b : B} (h : S a = S b) : a = b := by rw [← toList_S a, h, toList_S]
theorem str_S (l : B) : str (rowF l) l.length = S l := by
  have e : (str (rowF l) l.length).toList = l := by
    rw [ByteArray.toList_eq]
    show (strOfNums _).data.toList = _
    rw [strOfNums_data, List.map_map]
    apply List.ext_getElem
    · simp
    · intro i h1 h2
      simp only [List.getElem_map, List.getElem_range, Function.comp]
      rw [rowF_at (List.getElem?_eq_getElem h2)]
      simp
  rw [← S_toList (str _ _), e]
/-- the cells of bytes -/
def arr (l : B) : Array Value := (Lib.byteCells l).toArray
theorem arr_size (l : B) : (arr l).size = l.length := by unfold arr; rw [List.size_toArray, Lib.byteCells_length]
theorem arr_get {l : B} {i : Nat} {c : UInt8} (h : l[i]? = some c) : (arr l)[i]? = some (.int .u8 (c.toNat : Int)) := by
  unfold arr Lib.byteCells; rw [List.getElem?_toArray, List.getElem?_map, h]; rfl
theorem arr_row {l : B} {i : Nat} (h : i < l.length) : (arr l)[i]? = some (.int .u8 (rowF l i)) := by
  rw [arr_get (List.getElem?_eq_getElem h), rowF_at (List.getElem?_eq_getElem h)]
theorem arr_one (l : B) : (arr l).all (·.oneCell') = true := by
  rw [Array.all_eq_true_iff_forall_mem]
  intro x hx
  unfold arr at hx
  rw [List.mem_toArray] at hx
  exact Lib.byteCells_one l x hx
theorem cells_row (l : B) : cellsU (rowF l) l.length = Lib.byteCells l := by
  unfold cellsU Lib.byteCells
  apply List.ext_getElem
  · simp
  · intro i h1 h2
    simp only [List.length_map, List.length_range] at h1
    simp only [List.getElem_map, List.getElem_range]
    rw [rowF_at (List.getElem?_eq_getElem h1)]
/-- bytes laid over others at a place -/
def ovl (l : B) (o : Nat) (s : B) : B := l.take o ++ s ++ l.drop (o + s.length)
theorem ovl_len {l : B} {o : Nat} {s : B} (h : o + s.length ≤ l.length) : (ovl l o s).length = l.length := by
  unfold ovl; rw [List.length_append, List.length_append, List.length_take, List.length_drop]; omega
theorem arr_ovl (l : B) (o : Nat) (s : B) : ((arr l).toList.take o ++ Lib.byteCells s ++ (arr l).toList.drop (o + s.length)).toArray = arr (ovl l o s) := by
  unfold arr ovl Lib.byteCells
  simp only [List.map_append, List.map_take, List.map_drop]
theorem set_ovl {l : B} {o : Nat} (h : o < l.length) (c : UInt8) : l.set o c = ovl l o [c] := by
  unfold ovl
  rw [List.set_eq_take_append_cons_drop, if_pos h]
  simp
theorem arr_set {l : B} {o : Nat} (h : o < l.length) (c : UInt8) : (arr l).setIfInBounds o (.int .u8 (c.toNat : Int)) = arr (ovl l o [c]) := by
  rw [← set_ovl h]
  unfold arr Lib.byteCells
  rw [List.setIfInBounds_toArray, List.map_set]
theorem pad_full {s : B} {w : Nat} (h : s.length = w) : pad s w = s := by unfold pad; rw [h, Nat.sub_self, List.replicate_zero, List.append_nil]
/-- one field more -/
theorem ovl_step {P s : B} (o w m m' : Nat) (hP : P.length = o) (hs : s.length ≤ w) (hm : m = w + m') : ovl (P ++ List.replicate m 0) o s = (P ++ pad s w) ++ List.replicate m' 0 := by
  unfold ovl pad
  rw [List.take_append_of_le_length (by omega), List.take_of_length_le (by omega), ← List.drop_drop, ← hP, List.drop_left, List.drop_replicate]
  simp only [List.append_assoc]
  congr 2
  rw [List.replicate_append_replicate]
  congr 1
  omega
theorem gap_step {P : B} (w m m' : Nat) (hm : m = w + m') : P ++ List.replicate m 0 = (P ++ pad [] w) ++ List.replicate m' 0 := by
  unfold pad
  simp only [List.append_assoc, List.nil_append, List.length_nil, Nat.sub_zero]
  rw [List.replicate_append_replicate]
  congr 2
def zeros : B := List.replicate 512 0
/-- what the program lays, field by field -/
def lay1 (h : Hdr) : B := ovl zeros 0 h.name
def lay2 (h : Hdr) : B := ovl (lay1 h) 100 (numB h.mode.toNat 8)
def lay3 (h : Hdr) : B := ovl (lay2 h) 108 (numB 0 8)
def lay4 (h : Hdr) : B := ovl (lay3 h) 116 (numB 0 8)
def lay5 (h : Hdr) : B := ovl (lay4 h) 124 (numB h.size.toNat 12)
def lay6 (h : Hdr) : B := ovl (lay5 h) 136 (numB h.time.toNat 12)
def lay7 (h : Hdr) : B := ovl (lay6 h) 156 [h.typ]
def lay8 (h : Hdr) : B := ovl (lay7 h) 157 h.link
def lay9 (h : Hdr) : B := ovl (lay8 h) 257 ustar
def layZ (h : Hdr) : B := ovl (lay9 h) 329 (numB 0 8)
def layA (h : Hdr) : B := ovl (layZ h) 337 (numB 0 8)
def layP (h : Hdr) : B := ovl (layA h) 345 h.pre
theorem layP_raw {h : Hdr} (g : Good h) : layP h = rawB h := by
  have n8 : ∀ n, (numB n 8).length = 8 := fun n => numB_len n 8
  have n12 : ∀ n, (numB n 12).length = 12 := fun n => numB_len n 12
  have p8 : ∀ n, pad (numB n 8) 8 = numB n 8 := fun n => pad_full (n8 n)
  have p12 : ∀ n, pad (numB n 12) 12 = numB n 12 := fun n => pad_full (n12 n)
  have l1 := pad_len g.name
  have l2 := pad_len g.link
  have l3 : (pad ([] : B) 8).length = 8 := by decide
  have l4 : (pad ([] : B) 64).length = 64 := pad_len (by decide)
  have l5 : (pad ustar 8).length = 8 := by decide
  have l6 := pad_len g.pre
  unfold layP layA layZ lay9 lay8 lay7 lay6 lay5 lay4 lay3 lay2 lay1
  have p1 : pad [h.typ] 1 = [h.typ] := pad_full rfl
  have e0 : zeros = [] ++ List.replicate 512 0 := rfl
  rw [e0]
  rw [ovl_step 0 100 512 412 (by simp [l1, p8, n8, p12, n12, l3, l2, l4, l5, p1]) g.name rfl]
  rw [ovl_step 100 8 412 404 (by simp [l1, p8, n8, p12, n12, l3, l2, l4, l5, p1]) (by rw [n8]; omega) rfl]
  rw [ovl_step 108 8 404 396 (by simp [l1, p8, n8, p12, n12, l3, l2, l4, l5, p1]) (by rw [n8]; omega) rfl]
  rw [ovl_step 116 8 396 388 (by simp [l1, p8, n8, p12, n12, l3, l2, l4, l5, p1]) (by rw [n8]; omega) rfl]
  rw [ovl_step 124 12 388 376 (by simp [l1, p8, n8, p12, n12, l3, l2, l4, l5, p1]) (by rw [n12]; omega) rfl]
  rw [ovl_step 136 12 376 364 (by simp [l1, p8, n8, p12, n12, l3, l2, l4, l5, p1]) (by rw [n12]; omega) rfl]
  rw [gap_step 8 364 356 rfl]
  rw [ovl_step 156 1 356 355 (by simp [l1, p8, n8, p12, n12, l3, l2, l4, l5, p1]) (by simp) rfl]
  rw [ovl_step 157 100 355 255 (by simp [l1, p8, n8, p12, n12, l3, l2, l4, l5, p1]) g.link rfl]
  rw [ovl_step 257 8 255 247 (by simp [l1, p8, n8, p12, n12, l3, l2, l4, l5, p1]) (by decide) rfl]
  rw [gap_step 64 247 183 rfl]
  rw [ovl_step 329 8 183 175 (by simp [l1, p8, n8, p12, n12, l3, l2, l4, l5, p1]) (by rw [n8]; omega) rfl]
  rw [ovl_step 337 8 175 167 (by simp [l1, p8, n8, p12, n12, l3, l2, l4, l5, p1]) (by rw [n8]; omega) rfl]
  rw [ovl_step 345 155 167 12 (by simp [l1, p8, n8, p12, n12, l3, l2, l4, l5, p1]) g.pre rfl]
  rw [gap_step 12 12 0 rfl]
  unfold rawB ahead after
  simp only [p8, p12, List.flatten_cons, List.flatten_nil, List.append_assoc, List.nil_append, List.append_nil, p1, Nat.sub_self, List.replicate_zero]
theorem layP_len {h : Hdr} (g : Good h) : (layP h).length = 512 := by rw [layP_raw g, raw_len g]
/-- the sum's bytes laid over -/
theorem ovl_seal {l : B} (h : l.length = 512) : ovl (ovl l 148 (numB (sumB l) 7)) 155 [32] = sealB l := by
  unfold ovl sealB
  rw [numB_len]
  have e1 : (l.take 148 ++ numB (sumB l) 7).length = 155 := by rw [List.length_append, List.length_take, numB_len]; omega
  rw [List.take_append_of_le_length (by omega), List.take_of_length_le (by omega), List.drop_append, List.drop_eq_nil_of_le (by omega), List.nil_append, e1, List.drop_drop]
  simp
/-- the sum, added up to a place -/
def sumTo (l : B) : Nat → Nat
  | 0 => 0
  | k + 1 => sumTo l k + (if 148 ≤ k ∧ k < 156 then 32 else (l.getD k 0).toNat)
theorem sumL_take_succ {l : B} {k : Nat} (h : k < l.length) : sumL (l.take (k + 1)) = sumL (l.take k) + (l.getD k 0).toNat := by
  unfold sumL
  rw [List.take_add_one, List.map_append, List.sum_append, List.getD_eq_getElem?_getD, List.getElem?_eq_getElem h]
  simp
theorem sumTo_low {l : B} (h : l.length = 512) : ∀ k, k ≤ 148 → sumTo l k = sumL (l.take k)
  | 0, _ => rfl
  | k + 1, hk => by
    rw [sumL_take_succ (by omega), ← sumTo_low h k (by omega)]
    unfold sumTo
    rw [if_neg (by omega)]
    cases k <;> rfl
theorem sumTo_mid {l : B} (h : l.length = 512) : ∀ k, k ≤ 8 → sumTo l (148 + k) = sumL (l.take 148) + 32 * k
  | 0, _ => sumTo_low h 148 (Nat.le_refl _)
  | k + 1, hk => by
    have := sumTo_mid h k (by omega)
    show sumTo l (148 + k) + (if 148 ≤ 148 + k ∧ 148 + k < 156 then 32 else (l.getD (148 + k) 0).toNat) = _
    rw [if_pos (by omega), this]; omega
theorem sumTo_high {l : B} (h : l.length = 512) : ∀ k, k ≤ 356 → sumTo l (156 + k) = sumL (l.take 148) + 256 + sumL ((l.drop 156).take k)
  | 0, _ => by rw [sumTo_mid h 8 (by omega)]; rfl
  | k + 1, hk => by
    have := sumTo_high h k (by omega)
    rw [sumL_take_succ (l := l.drop 156) (k := k) (by rw [List.length_drop]; omega)]
    show sumTo l (156 + k) + (if 148 ≤ 156 + k ∧ 156 + k < 156 then 32 else (l.getD (156 + k) 0).toNat) = _
    rw [if_neg (by omega), this, List.getD_eq_getElem?_getD, List.getD_eq_getElem?_getD, List.getElem?_drop]
    omega
theorem sumTo_all {l : B} (h : l.length = 512) : sumTo l 512 = sumB l := by
  have := sumTo_high h 356 (by omega)
  rw [List.take_of_length_le (l := l.drop 156) (by rw [List.length_drop]; omega)] at this
  exact this
theorem sumTo_bd (l : B) : ∀ k, sumTo l k ≤ 255 * k
  | 0 => Nat.le_refl _
  | k + 1 => by
    have := sumTo_bd l k
    have hc := (l.getD k 0).toNat_lt
    unfold sumTo
    split <;> omega
end Hd
end Go.Proofs.YtldkhbkgmiicbaaGreatDoor

/- Layer 12: an item's pieces and a list's volume, as lists of bytes. -/
namespace Go.Proofs.YtldkhbkgmiicbaaGreatDoor
set_option linter.unusedVariables false
set_option linter.unusedSimpArgs false

namespace Pk
/-- the last place below n at which a path may be cut -/
def cutOf (l : B) : Nat → Option Nat
  | 0 => none
  | n + 1 => if l[n]? = some 47 ∧ n ≤ 155 ∧ l.length - n - 1 ≤ 100 then some n else cutOf l n
theorem cutOf_some (l : B) : ∀ n i, cutOf l n = some i → i < n ∧ Nm.CutAt l i ∧ ∀ j, i < j → j < n → ¬ Nm.CutAt l j
  | 0, i, h => by cases h
  | n + 1, i, h => by
    unfold cutOf at h
    split at h
    · rename_i hc
      obtain rfl : n = i := Option.some.inj h
      exact ⟨Nat.lt_succ_self _, hc, fun j h1 h2 => by omega⟩
    · rename_i hc
      obtain ⟨h1, h2, h3⟩ := cutOf_some l n i h
      refine ⟨by omega, h2, fun j hj hn => ?_⟩
      by_cases e : j = n
      · rw [e]; exact hc
      · exact h3 j hj (by omega)
theorem cutOf_none (l : B) : ∀ n, cutOf l n = none → ∀ j, j < n → ¬ Nm.CutAt l j
  | 0, _, j, hj => by omega
  | n + 1, h, j, hj => by
    unfold cutOf at h
    split at h
    · cases h
    · rename_i hc
      by_cases e : j = n
      · rw [e]; exact hc
      · exact cutOf_none l n h j (by omega)
/-- what Split answers -/
def spl (l : B) : B × B × Int :=
  if (Nm.check l).2 ≠ 0 then ([], [], (Nm.check l).2)
  else if l.length ≤ 100 then ([], l, 0)
  else match cutOf l l.length with
    | some i => (l.take i, l.drop (i + 1), 0)
    | none => ([], [], 2)
theorem spl_says (l : B) : Nm.SplitSays l (spl l).1 (spl l).2.1 (spl l).2.2 := by
  by_cases h : (Nm.check l).2 = 0
  · by_cases h1 : l.length ≤ 100
    · have e : spl l = ([], l, 0) := by unfold spl; rw [if_neg (fun k => k h), if_pos h1]
      rw [e]
      exact ⟨fun k => absurd h k, fun _ _ => ⟨rfl, rfl, rfl⟩, fun _ k => by omega, fun _ k => by omega⟩
    · cases hc : cutOf l l.length with
      | some i =>
        have e : spl l = (l.take i, l.drop (i + 1), 0) := by unfold spl; rw [if_neg (fun k => k h), if_neg h1, hc]
        obtain ⟨c1, c2, c3⟩ := cutOf_some l _ i hc
        rw [e]
        refine ⟨fun k => absurd h k, fun _ k => absurd k h1, fun _ _ j hj hjn => ?_, fun _ _ k => absurd c2 (k i)⟩
        have : i = j := by
          rcases Nat.lt_trichotomy i j with g | g | g
          · exact absurd hj (c3 j g (Nm.cut_lt hj))
          · exact g
          · exact absurd c2 (hjn i g)
        rw [this]; exact ⟨rfl, rfl, rfl⟩
      | none =>
        have e : spl l = ([], [], 2) := by unfold spl; rw [if_neg (fun k => k h), if_neg h1, hc]
        have c := cutOf_none l _ hc
        rw [e]
        exact ⟨fun k => absurd h k, fun _ k => absurd k h1, fun _ _ j hj => absurd hj (c j (Nm.cut_lt hj)), fun _ _ _ => ⟨rfl, rfl, rfl⟩⟩
  · have e : spl l = ([], [], (Nm.check l).2) := by unfold spl; rw [if_pos h]
    rw [e]
    exact ⟨fun _ => ⟨rfl, rfl, rfl⟩, fun k => absurd k h, fun k => absurd k h, fun k => absurd k h⟩
/-- the type of a kind's head -/
def typ (k : Nat) : UInt8 := if k = 3 then 49 else if k = 4 then 50 else if k = 2 then 53 else 48
/-- how many noughts fill so many bytes -/
def gap (n : Nat) : Nat := (512 - n % 512) % 512
def fill (b : B) : B := b ++ List.replicate (gap b.length) 0
theorem gap_lt (n : Nat) : gap n < 512 := Nat.mod_lt _ (by decide)
theorem gap_add (n : Nat) : (n + gap n) % 512 = 0 := by unfold gap; omega
theorem fill_len (b : B) : (fill b).length = b.length + gap b.length := by unfold fill; rw [List.length_append, List.length_replicate]
theorem fill_mod (b : B) : (fill b).length % 512 = 0 := by rw [fill_len]; exact gap_add _
theorem fill_nil : fill [] = [] := rfl
theorem fill_full {b : B} (h : b.length % 512 = 0) : fill b = b := by
  unfold fill
  rw [show gap b.length = 0 by unfold gap; omega]
  exact List.append_nil _
/-- a block of 512 bytes, and what is filled behind it -/
theorem fill_cons {a b : B} (h : a.length = 512) : fill (a ++ b) = a ++ fill b := by
  unfold fill
  rw [List.length_append, h, List.append_assoc, show gap (512 + b.length) = gap b.length by unfold gap; omega]
theorem fill_short {b : B} (h0 : b ≠ []) (h : b.length ≤ 512) : fill b = b ++ List.replicate (512 - b.length) 0 := by
  unfold fill
  have : 0 < b.length := List.length_pos_iff.2 h0
  rw [show gap b.length = 512 - b.length by unfold gap; omega]
/-- the head of records, and an item's own -/
def more (n : Nat) : Hd.Hdr := ⟨[109, 111, 114, 101], 0, n, 0, 120, [], []⟩
def hd (x : Tr.It) : Hd.Hdr := ⟨(spl x.path).2.1, x.mode, (x.body.length : Nat), x.time, typ x.kind, if x.to.length ≤ 100 then x.to else [], (spl x.path).1⟩
/-- the bytes that Put of a head answers -/
def hB (h : Hd.Hdr) : B := if Hd.may h = 0 then Hd.layB h else []
theorem hB_len (h : Hd.Hdr) : (hB h).length = 512 ∨ (hB h).length = 0 := by
  unfold hB
  split
  · rename_i e; exact .inl (Hd.lay_len (Hd.may_good e))
  · exact .inr rfl
theorem hB_mod (h : Hd.Hdr) : (hB h).length % 512 = 0 := by rcases hB_len h with e | e <;> rw [e]
theorem hB_le (h : Hd.Hdr) : (hB h).length ≤ 512 := by rcases hB_len h with e | e <;> rw [e] <;> decide
/-- an item's pairs and their records -/
def prsOf (x : Tr.It) : List Px.Pr := prs x (spl x.path).2.2
def recs (x : Tr.It) : B := (Px.putF (prsOf x)).1
def front (x : Tr.It) : B := if prsOf x = [] then [] else hB (more (recs x).length) ++ fill (recs x)
def pcs (x : Tr.It) : B := front x ++ (hB (hd x) ++ fill x.body)
theorem front_mod (x : Tr.It) : (front x).length % 512 = 0 := by
  unfold front
  split
  · rfl
  · rw [List.length_append]; have := hB_mod (more (recs x).length); have := fill_mod (recs x); omega
theorem pcs_mod (x : Tr.It) : (pcs x).length % 512 = 0 := by
  unfold pcs
  rw [List.length_append, List.length_append]
  have := front_mod x; have := hB_mod (hd x); have := fill_mod x.body; omega
theorem all9_len : ∀ (l : List Px.Pr), (∀ p ∈ l, Px.fits p = 0) → (Px.all9 l).length ≤ 1064 * l.length
  | [], _ => by simp [Px.all9]
  | p :: l, h => by
    have h1 := all9_len l (fun q hq => h q (List.mem_cons_of_mem _ hq))
    have h2 := Px.psize_le (h p (List.mem_cons_self ..))
    have h3 := Px.rcd_len p
    rw [Px.all9, List.length_append, List.length_cons]
    omega
theorem put_len (l : List Px.Pr) (h2 : l.length ≤ 2) : (Px.putF l).1.length ≤ 2128 := by
  by_cases h : (Px.putF l).2.2 = 0
  · have hk := (Px.put_ok l).1 h
    rw [Px.put_all hk]
    have := all9_len l hk.2.1
    show (Px.all9 l).length ≤ _
    omega
  · have : (Px.putF l).1 = [] := by
      unfold Px.putF at h ⊢
      split
      · rfl
      · rename_i hn
        rw [if_neg hn] at h
        split
        · rfl
        · rename_i h0
          rw [if_neg h0] at h
          exact absurd rfl h
    rw [this]; decide
theorem recs_len (x : Tr.It) : (recs x).length ≤ 2128 := put_len _ (prs_len _ _)
theorem front_len (x : Tr.It) : (front x).length ≤ 3200 := by
  unfold front
  split
  · decide
  · rw [List.length_append, fill_len]
    have := hB_le (more (recs x).length); have := recs_len x; have := gap_lt (recs x).length; omega
theorem pcs_len (x : Tr.It) : (pcs x).length ≤ 4224 + x.body.length := by
  unfold pcs
  rw [List.length_append, List.length_append, fill_len]
  have := front_len x; have := hB_le (hd x); have := gap_lt x.body.length; omega
theorem may_body {x : Tr.It} (h : Tr.mayE x = 0) : x.body.length ≤ 65536 := by
  unfold Tr.mayE at h
  repeat' split at h
  all_goals omega
/-- the pieces of some items -/
def flat (t : List Tr.It) : B := t.flatMap pcs
theorem flat_snoc (t : List Tr.It) (x : Tr.It) : flat (t ++ [x]) = flat t ++ pcs x := by unfold flat; rw [List.flatMap_append]; simp
theorem flat_mod : ∀ t : List Tr.It, (flat t).length % 512 = 0
  | [] => rfl
  | x :: t => by
    have h1 := flat_mod t
    have h2 := pcs_mod x
    unfold flat at h1 ⊢
    rw [List.flatMap_cons, List.length_append]; omega
theorem flat_take {t : List Tr.It} {k : Nat} {x : Tr.It} (h : t[k]? = some x) : flat (t.take (k + 1)) = flat (t.take k) ++ pcs x := by
  rw [List.take_add_one, h]; exact flat_snoc _ _
/-- going on with a volume behind k items -/
def wrF (out : B) (k : Nat) : List Tr.It → B × Nat × Int
  | [] => (out ++ List.replicate 1024 0, 0, 0)
  | x :: r => if 131072 < (out ++ pcs x).length + 1024 then ([], k, 2) else wrF (out ++ pcs x) (k + 1) r
/-- what Write answers -/
def wr (t : List Tr.It) : B × Nat × Int := if (Tr.chkE t).2 ≠ 0 then ([], (Tr.chkE t).1, (Tr.chkE t).2) else wrF [] 0 t
/-- the first k items have their room -/
def Upto (t : List Tr.It) (k : Nat) : Prop := k ≤ t.length ∧ wrF [] 0 t = wrF (flat (t.take k)) k (t.drop k) ∧ (flat (t.take k)).length + 1024 ≤ 131072
theorem upto_zero (t : List Tr.It) : Upto t 0 := ⟨Nat.zero_le _, rfl, by rw [List.take_zero]; exact of_decide_eq_true rfl⟩
theorem upto_next {t : List Tr.It} {k : Nat} {x : Tr.It} (h : Upto t k) (hx : t[k]? = some x) (hs : ¬ 131072 < (flat (t.take k) ++ pcs x).length + 1024) : Upto t (k + 1) := by
  obtain ⟨hk, hxe⟩ := List.getElem?_eq_some_iff.1 hx
  refine ⟨hk, ?_, ?_⟩
  · rw [h.2.1, List.drop_eq_getElem_cons hk, hxe]
    show (if _ then _ else _) = _
    rw [if_neg hs, flat_take hx]
  · rw [flat_take hx]; omega
theorem upto_stop {t : List Tr.It} {k : Nat} {x : Tr.It} (h : Upto t k) (hx : t[k]? = some x) (hs : 131072 < (flat (t.take k) ++ pcs x).length + 1024) : wrF [] 0 t = ([], k, 2) := by
  obtain ⟨hk, hxe⟩ := List.getElem?_eq_some_iff.1 hx
  rw [h.2.1, List.drop_eq_getElem_cons hk, hxe]
  show (if _ then _ else _) = _
  rw [if_pos hs]
theorem upto_end {t : List Tr.It} (h : Upto t t.length) : wrF [] 0 t = (flat t ++ List.replicate 1024 0, 0, 0) := by
  rw [h.2.1, List.take_length, List.drop_length]; rfl
theorem wr_bad {t : List Tr.It} (h : (Tr.chkE t).2 ≠ 0) : wr t = ([], (Tr.chkE t).1, (Tr.chkE t).2) := by unfold wr; rw [if_pos h]
theorem wr_good {t : List Tr.It} (h : (Tr.chkE t).2 = 0) : wr t = wrF [] 0 t := by unfold wr; rw [if_neg (fun k => k h)]
theorem upto_cases (t : List Tr.It) : ∀ k, k ≤ t.length → Upto t k ∨ ∃ i x, i < k ∧ t[i]? = some x ∧ Upto t i ∧ 131072 < (flat (t.take i) ++ pcs x).length + 1024
  | 0, _ => .inl (upto_zero t)
  | k + 1, hk => by
    rcases upto_cases t k (by omega) with h | ⟨i, x, h1, h2⟩
    · have hx : t[k]? = some t[k] := List.getElem?_eq_getElem (by omega)
      by_cases hs : 131072 < (flat (t.take k) ++ pcs t[k]).length + 1024
      · exact .inr ⟨k, t[k], Nat.lt_succ_self _, hx, h, hs⟩
      · exact .inl (upto_next h hx hs)
    · exact .inr ⟨i, x, by omega, h2⟩
/-- Write's ways -/
theorem wr_cases (t : List Tr.It) : ((Tr.chkE t).2 ≠ 0 ∧ wr t = ([], (Tr.chkE t).1, (Tr.chkE t).2)) ∨ ((Tr.chkE t).2 = 0 ∧ ∃ i, i < t.length ∧ wr t = ([], i, 2)) ∨ ((Tr.chkE t).2 = 0 ∧ Upto t t.length ∧ wr t = (flat t ++ List.replicate 1024 0, 0, 0)) := by
  by_cases h : (Tr.chkE t).2 = 0
  · rcases upto_cases t t.length (Nat.le_refl _) with g | ⟨i, x, h1, h2, h3, h4⟩
    · exact .inr (.inr ⟨h, g, by rw [wr_good h, upto_end g]⟩)
    · exact .inr (.inl ⟨h, i, h1, by rw [wr_good h, upto_stop h3 h2 h4]⟩)
  · exact .inl ⟨h, wr_bad h⟩
theorem wr_len (t : List Tr.It) : (wr t).1.length ≤ 131072 := by
  rcases wr_cases t with ⟨_, e⟩ | ⟨_, i, _, e⟩ | ⟨_, g, e⟩
  · rw [e]; exact Nat.zero_le _
  · rw [e]; exact Nat.zero_le _
  · rw [e]
    have := g.2.2
    rw [List.take_length] at this
    show (flat t ++ List.replicate 1024 0).length ≤ _
    rw [List.length_append, List.length_replicate]; exact this
end Pk
end Go.Proofs.YtldkhbkgmiicbaaGreatDoor

/- What Record, Put, Get and Over answer, in words that any program's answers can be told by. -/
namespace Go.Proofs.YtldkhbkgmiicbaaGreatDoor
open Go.RowKit Go.Deep
set_option linter.unusedVariables false
set_option linter.unusedSimpArgs false

namespace Px
/-- Record's answer -/
def recF (p : Pr) : B × Nat := if fits p ≠ 0 then ([], fits p) else (rcd p, 0)
theorem recF_er (p : Pr) : (recF p).2 ≤ 100 := by
  unfold recF
  have := fits_vals p
  split
  · show fits p ≤ 100; omega
  · exact Nat.zero_le _
theorem put_bad {l : List Pr} (h : (putF l).2.2 ≠ 0) : (putF l).1 = [] := by
  unfold putF at h ⊢
  split
  · rfl
  · split
    · rfl
    · rename_i h1 h2; rw [if_neg h1, if_neg h2] at h; exact absurd rfl h
theorem put_good {l : List Pr} (h : (putF l).2.2 = 0) : putF l = (all9 l, 0, 0) := put_all ((put_ok l).1 h)
theorem put_place (l : List Pr) : (putF l).2.1 ≤ 4611686018427387904 ∧ (putF l).2.1 ≤ 64 := by
  have h : ∀ (l : List Pr) (o : Option B) (i : Nat), (putE o l i).1 ≤ i + l.length := by
    intro l
    induction l with
    | nil => intro o i; exact Nat.zero_le _
    | cons p l ih =>
      intro o i
      unfold putE
      split
      · show i ≤ _; omega
      · split
        · show i ≤ _; omega
        · have := ih (some p.1) (i + 1); rw [List.length_cons]; omega
  have : (putF l).2.1 ≤ 64 := by
    unfold putF
    split
    · exact Nat.le_refl _
    · split
      · have := h l none 0
        show (putE none l 0).1 ≤ 64
        omega
      · exact Nat.zero_le _
  exact ⟨by omega, this⟩
theorem over_bad {l m : List Pr} (h : (overF l m).2 ≠ 0) : (overF l m).1 = [] := by
  unfold overF at h ⊢
  split
  · rfl
  · split
    · rfl
    · split
      · rfl
      · rename_i h1 h2 h3; rw [if_neg h1, if_neg h2, if_neg h3] at h; exact absurd rfl h
theorem over_er (l m : List Pr) : (overF l m).2 ≤ 100 := by
  unfold overF
  split
  · exact put_er l
  · split
    · exact put_er m
    · split
      · exact (by decide : (3 : Nat) ≤ 100)
      · exact Nat.zero_le _
theorem get_er : ∀ (n : Nat) (b : B) (i : Nat) (out : List Pr), b.length ≤ n → (getF b i out).2.2 ≤ 100 := by
  intro n
  induction n with
  | zero =>
    intro b i out h
    have : b = [] := List.eq_nil_of_length_eq_zero (by omega)
    subst this
    rw [getF, dif_pos rfl]; exact Nat.zero_le _
  | succ n ih =>
    intro b i out h
    by_cases hb : b = []
    · subst hb; rw [getF, dif_pos rfl]; exact Nat.zero_le _
    · rw [getF_at hb]
      split
      · exact (by decide : (3 : Nat) ≤ 100)
      · split
        · exact one_er b
        · split
          · exact (by decide : (92 : Nat) ≤ 100)
          · split
            · exact (by decide : (90 : Nat) ≤ 100)
            · rename_i h4
              refine ih _ _ _ ?_
              rw [List.length_drop]
              have := List.length_pos_iff.2 hb
              omega
theorem get_zeroN : ∀ (n : Nat) (b : B) (j : Nat) (out m : List Pr) (i : Nat), b.length ≤ n → getF b j out = (m, i, 0) → i = 0 := by
  intro n
  induction n with
  | zero =>
    intro b j out m i hb hg
    have : b = [] := List.eq_nil_of_length_eq_zero (by omega)
    subst this
    rw [getF, dif_pos rfl] at hg
    cases hg; rfl
  | succ n ih =>
    intro b j out m i hb hg
    by_cases hne : b = []
    · subst hne; rw [getF, dif_pos rfl] at hg; cases hg; rfl
    · rw [getF_at hne] at hg
      split at hg
      · cases hg
      · split at hg
        · rename_i h2
          simp only [Prod.mk.injEq] at hg
          exact absurd hg.2.2 h2
        · split at hg
          · cases hg
          · split at hg
            · cases hg
            · refine ih _ _ _ _ _ ?_ hg
              rw [List.length_drop]
              have := List.length_pos_iff.2 hne
              omega
theorem get_zero {b : B} (h : (getF b 0 []).2.2 = 0) : (getF b 0 []).2.1 = 0 := by
  obtain ⟨m, i, er, hl⟩ : ∃ m i er, getF b 0 [] = (m, i, er) := ⟨_, _, _, rfl⟩
  rw [hl] at h ⊢
  dsimp only at h ⊢
  subst h
  exact get_zeroN _ _ _ _ _ _ (Nat.le_refl _) hl
theorem get_place (b : B) : (getF b 0 []).2.1 ≤ b.length := by
  by_cases h : (getF b 0 []).2.2 = 0
  · rw [get_zero h]; exact Nat.zero_le _
  · have := (get_bad h).2.2
    omega
theorem get_len (b : B) : (getF b 0 []).1.length ≤ 64 := by
  by_cases h : (getF b 0 []).2.2 = 0
  · obtain ⟨m, i, er, hl⟩ : ∃ m i er, getF b 0 [] = (m, i, er) := ⟨_, _, _, rfl⟩
    have hz := get_zero h
    rw [hl] at h hz ⊢
    dsimp only at h hz ⊢
    subst h; subst hz
    exact (get_ok _ b 0 [] m (Nat.le_refl _) (by simp) (fun p hp => by simp at hp) List.Pairwise.nil hl).1
  · rw [(get_bad h).1]; exact Nat.zero_le _
end Px
theorem bw_of_drew {u w' : World} {q : Nat} (h : w' = u.drewN q) : Bw u w' := by rw [h]; exact Bw.drewN u q
/-- a written list of pairs -/
theorem prs_new (W : World) (cs : Array Value) (L : List Px.Pr) (h : cs.toList = Px.cellsPr L) : PrsAt (W.alloc (.cells cs 130)) (some ⟨W.heap.size, 0, none⟩) L := by
  refine .inr ⟨W.heap.size, 0, rfl, fun i p hp => ?_⟩
  have hg := World.alloc_heap_new W (.cells cs 130)
  have hc := Px.cellsPr_get L i p hp
  rw [Nat.zero_add, cell_of_row _ _ _ cs _ _ hg, cell_of_row _ _ _ cs _ _ hg, ← Array.getElem?_toList, ← Array.getElem?_toList, h]
  exact hc
/-- a row of bytes as a list -/
theorem rowat_list {w : World} {A : Option Addr} {n : Nat} {f : Nat → Int} (h : RowAt w A n f) : ∃ b : Px.B, b.length = n ∧ RowAt w A b.length (Px.rowF b) := by
  refine ⟨(List.range n).map fun i => UInt8.ofNat (f i).toNat, by simp, ?_⟩
  have hl : ((List.range n).map fun i => UInt8.ofNat (f i).toNat).length = n := by simp
  rw [hl]
  rcases h.1 with h0 | ⟨b, off, h1, h2⟩
  · exact ⟨.inl h0, Px.rowF_bd _⟩
  · refine ⟨.inr ⟨b, off, h1, fun i hi => ?_⟩, Px.rowF_bd _⟩
    rw [h2 i hi, Px.rowF_at (c := UInt8.ofNat (f i).toNat) (by rw [List.getElem?_map, List.getElem?_range hi]; rfl)]
    have hb := h.2 i
    rw [UInt8.toNat_ofNat']
    congr 2
    omega
theorem RowAt.front {w : World} {A : Option Addr} {a b : Px.B} (h : RowAt w A (a ++ b).length (Px.rowF (a ++ b))) : RowAt w A a.length (Px.rowF a) := by
  refine ⟨?_, Px.rowF_bd _⟩
  rcases h.1 with h0 | ⟨g, off, h1, h2⟩
  · rw [List.length_append] at h0; exact .inl (by omega)
  · refine .inr ⟨g, off, h1, fun i hi => ?_⟩
    rw [h2 i (by rw [List.length_append]; omega), Px.rowF_at (List.getElem?_eq_getElem hi), Px.rowF_at (c := a[i]) (by rw [List.getElem?_append_left hi, List.getElem?_eq_getElem hi])]
theorem rowat_nil (w : World) (A : Option Addr) : RowAt w A ([] : Px.B).length (Px.rowF []) := ⟨.inl rfl, Px.rowF_bd _⟩
/-- bytes that a call answers -/
def RowIs (w : World) (v : Value) (b : Px.B) : Prop := ∃ A c, v = .slice A b.length c ∧ b.length ≤ c ∧ RowAt w A b.length (Px.rowF b)
/-- pairs that a call answers -/
def PrsIs (w : World) (v : Value) (L : List Px.Pr) : Prop := ∃ A c, v = .slice A L.length c ∧ L.length ≤ c ∧ PrsAt w A L
theorem RowIs.keep {w w' : World} {v : Value} {b : Px.B} (h : RowIs w v b) (k : Bw w w') : RowIs w' v b := by
  obtain ⟨A, c, h1, h2, h3⟩ := h
  exact ⟨A, c, h1, h2, h3.keep k⟩
theorem PrsIs.keep {w w' : World} {v : Value} {L : List Px.Pr} (h : PrsIs w v L) (k : Bw w w') : PrsIs w' v L := by
  obtain ⟨A, c, h1, h2, h3⟩ := h
  exact ⟨A, c, h1, h2, h3.keep k⟩
theorem rowis_own {w : World} {base : Nat} {v : Value} {b : Px.B} (h : w.ownsRow base 5 1 v b.length (Px.cellsB b)) : RowIs w v b := by
  rw [← Px.cellsU_rowF] at h
  obtain ⟨A, cap, h1, h2, -, h3, -⟩ := row_of_own (Px.rowF_bd b) h
  exact ⟨A, cap, h1, h2, h3⟩
theorem prsis_own {w : World} {base : Nat} {v : Value} {L : List Px.Pr} (h : w.ownsRow base 130 2 v L.length (Px.cellsPr L)) : PrsIs w v L := by
  obtain ⟨A, cap, h1, h2, h3, -⟩ := prs_of_own h
  exact ⟨A, cap, h1, h2, h3⟩
theorem rowis_none (w : World) : RowIs w (.slice none 0 0) [] := ⟨none, 0, rfl, Nat.le_refl _, rowat_nil _ _⟩
theorem prsis_none (w : World) : PrsIs w (.slice none 0 0) [] := ⟨none, 0, rfl, Nat.le_refl _, .inl rfl⟩
def RecSays (p : Px.Pr) (e : Ending) (w' : World) : Prop := ∃ v, e = .returned (.tuple #[v, .int .i64 ((Px.recF p).2 : Int)]) ∧ RowIs w' v (Px.recF p).1
def PutSays (L : List Px.Pr) (e : Ending) (w' : World) : Prop := ∃ v, e = .returned (.tuple #[v, .int .i64 ((Px.putF L).2.1 : Int), .int .i64 ((Px.putF L).2.2 : Int)]) ∧ RowIs w' v (Px.putF L).1
def GetSays (b : Px.B) (e : Ending) (w' : World) : Prop := ∃ v, e = .returned (.tuple #[v, .int .i64 ((Px.getF b 0 []).2.1 : Int), .int .i64 ((Px.getF b 0 []).2.2 : Int)]) ∧ PrsIs w' v (Px.getF b 0 []).1
def OverSays (L M : List Px.Pr) (e : Ending) (w' : World) : Prop := ∃ v, e = .returned (.tuple #[v, .int .i64 ((Px.overF L M).2 : Int)]) ∧ PrsIs w' v (Px.overF L M).1
theorem rrecord_says (a b : ByteArray) (ha : a.size ≤ 140737488355328) (hb : b.size ≤ 140737488355328) (w : World) :
    Calls Tryz.prog 75 #[.agg #[.string a, .string b]] w fun e w' => RecSays (a.toList, b.toList) e w' ∧ Bw w w' :=
  (rrecord_any a b ha hb w).mono fun e w' ⟨h1, h2⟩ => ⟨by
    rcases h2 with ⟨h3, rfl⟩ | ⟨h3, A, cap, rfl, h4, h5⟩
    · have e : Px.recF (a.toList, b.toList) = ([], Px.fits (a.toList, b.toList)) := by unfold Px.recF; rw [if_pos h3]
      exact ⟨_, by rw [e], by rw [e]; exact rowis_none w'⟩
    · have e : Px.recF (a.toList, b.toList) = (Px.rcd (a.toList, b.toList), 0) := by unfold Px.recF; rw [if_neg (fun h => h h3)]
      exact ⟨_, by rw [e]; rfl, by rw [e]; exact ⟨A, cap, rfl, h4, h5.row⟩⟩, h1⟩
theorem rput_says (A : Option Addr) (cap : Nat) (L : List Px.Pr) (hn : L.length ≤ 4611686018427387904) (hS : ∀ p ∈ L, p.1.length ≤ 140737488355328 ∧ p.2.length ≤ 140737488355328) (w : World) (ha : PrsAt w A L) :
    Calls Tryz.prog 50 #[.slice A L.length cap] w fun e w' => PutSays L e w' ∧ Bw w w' :=
  (rput_any A cap L hn hS w ha).mono fun e w' ⟨h1, h2⟩ => ⟨by
    rcases h1 with ⟨h3, rfl⟩ | ⟨h3, v, rfl, h4⟩
    · exact ⟨_, rfl, by rw [Px.put_bad h3]; exact rowis_none w'⟩
    · have e := Px.put_good h3
      exact ⟨v, by rw [e]; rfl, by rw [e]; exact rowis_own h4⟩, h2⟩
end Go.Proofs.YtldkhbkgmiicbaaGreatDoor
