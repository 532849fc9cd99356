/- Texts of mine, put together. -/
import Derived.Test.YtldkhbkgmiicbaaGreatDoorBu20
import Derived.Test.YtldkhbkgmiicbaaGreatDoorBu21
import Derived.Test.YtldkhbkgmiicbaaGreatDoorBu19
import Derived.Lib.BufferWrite
import Derived.BigRegion

/- Layer 10: bytes in memory as lists; what is laid over an array; the sum, added up. -/
namespace Go.Proofs.YtldkhbkgmiicbaaGreatDoor
open Go.RowKit Go.Deep
set_option linter.unusedVariables false
set_option linter.unusedSimpArgs false

namespace Hd
/-- a row of these bytes -/
def rowF (l : B) (i : Nat) : Int := ((l.getD i 0).toNat : Int)
theorem rowF_bd (l : B) (i : Nat) : 0 ≤ rowF l i ∧ rowF l i < 256 := by
  unfold rowF
  have := (l.getD i 0).toNat_lt
  omega
theorem rowF_at {l : B} {i : Nat} {c : UInt8} (h : l[i]? = some c) : rowF l i = (c.toNat : Int) := by
  unfold rowF; rw [List.getD_eq_getElem?_getD, h]; rfl
/-- the bytes of a row -/
def ofF (f : Nat → Int) (n : Nat) : B := (List.range n).map fun i => UInt8.ofNat (f i).toNat
theorem ofF_len (f : Nat → Int) (n : Nat) : (ofF f n).length = n := by unfold ofF; rw [List.length_map, List.length_range]
theorem rowF_ofF {f : Nat → Int} {n i : Nat} (hf : ∀ i, 0 ≤ f i ∧ f i < 256) (hi : i < n) : rowF (ofF f n) i = f i := by
  have h : (ofF f n)[i]? = some (UInt8.ofNat (f i).toNat) := by unfold ofF; rw [List.getElem?_map, List.getElem?_range hi]; rfl
  rw [rowF_at h, UInt8.toNat_ofNat']
  have := hf i
  omega
theorem nb_form (n W i : Nat) : ((nb n W i : Nat) : Int) = Oct.formF n W i := by
  unfold nb Oct.formF Oct.plainF Oct.wideF
  split
  · rfl
  · rfl
theorem rowF_num {n W i : Nat} (hi : i < W) : rowF (numB n W) i = Oct.formF n W i := by
  rw [rowF_at (numB_at hi), UInt8.toNat_ofNat', Nat.mod_eq_of_lt (nb_lt _ _ _), nb_form]
/-- a text of these bytes -/
def S (l : B) : ByteArray := ⟨l.toArray⟩
theorem toList_S (l : B) : (S l).toList = l := ByteArray.toList_mk l
theorem S_toList (s : ByteArray) : S s.toList = s := by rw [ByteArray.toList_eq]; unfold S; rw [Array.toArray_toList]
theorem size_S (l : B) : (S l).size = l.length := by unfold S; rfl
theorem size_toList (s : ByteArray) : s.toList.length = s.size := by rw [ByteArray.toList_eq, Array.length_toList]; rfl
theorem str_S (l : B) : str (rowF l) l.length = S l := by
  have e : (str (rowF l) l.length).toList = l := by
    rw [ByteArray.toList_eq]
    show (strOfNums _).data.toList = _
    rw [strOfNums_data, List.map_map]
    apply List.ext_getElem
    · simp
    · intro i h1 h2
      simp only [List.getElem_map, List.getElem_range, Function.comp]
      rw [rowF_at (List.getElem?_eq_getElem h2)]
      simp
  rw [← S_toList (str _ _), e]
/-- the cells of bytes -/
def arr (l : B) : Array Value := (Lib.byteCells l).toArray
theorem arr_size (l : B) : (arr l).size = l.length := by unfold arr; rw [List.size_toArray, Lib.byteCells_length]
theorem arr_get {l : B} {i : Nat} {c : UInt8} (h : l[i]? = some c) : (arr l)[i]? = some (.int .u8 (c.toNat : Int)) := by
  unfold arr Lib.byteCells; rw [List.getElem?_toArray, List.getElem?_map, h]; rfl
theorem arr_row {l : B} {i : Nat} (h : i < l.length) : (arr l)[i]? = some (.int .u8 (rowF l i)) := by
  rw [arr_get (List.getElem?_eq_getElem h), rowF_at (List.getElem?_eq_getElem h)]
theorem arr_one (l : B) : (arr l).all (·.oneCell') = true := by
  rw [Array.all_eq_true_iff_forall_mem]
  intro x hx
  unfold arr at hx
  rw [List.mem_toArray] at hx
  exact Lib.byteCells_one l x hx
theorem cells_row (l : B) : cellsU (rowF l) l.length = Lib.byteCells l := by
  unfold cellsU Lib.byteCells
  apply List.ext_getElem
  · simp
  · intro i h1 h2
    simp only [List.length_map, List.length_range] at h1
    simp only [List.getElem_map, List.getElem_range]
    rw [rowF_at (List.getElem?_eq_getElem h1)]
/-- bytes laid over others at a place -/
def ovl (l : B) (o : Nat) (s : B) : B := l.take o ++ s ++ l.drop (o + s.length)
theorem ovl_len {l : B} {o : Nat} {s : B} (h : o + s.length ≤ l.length) : (ovl l o s).length = l.length := by
  unfold ovl; rw [List.length_append, List.length_append, List.length_take, List.length_drop]; omega
theorem arr_ovl (l : B) (o : Nat) (s : B) : ((arr l).toList.take o ++ Lib.byteCells s ++ (arr l).toList.drop (o + s.length)).toArray = arr (ovl l o s) := by
  unfold arr ovl Lib.byteCells
  simp only [List.map_append, List.map_take, List.map_drop]
theorem set_ovl {l : B} {o : Nat} (h : o < l.length) (c : UInt8) : l.set o c = ovl l o [c] := by
  unfold ovl
  rw [List.set_eq_take_append_cons_drop, if_pos h]
  simp
theorem arr_set {l : B} {o : Nat} (h : o < l.length) (c : UInt8) : (arr l).setIfInBounds o (.int .u8 (c.toNat : Int)) = arr (ovl l o [c]) := by
  rw [← set_ovl h]
  unfold arr Lib.byteCells
  rw [List.setIfInBounds_toArray, List.map_set]
theorem pad_full {s : B} {w : Nat} (h : s.length = w) : pad s w = s := by unfold pad; rw [h, Nat.sub_self, List.replicate_zero, List.append_nil]
/-- one field more -/
theorem ovl_step {P s : B} (o w m m' : Nat) (hP : P.length = o) (hs : s.length ≤ w) (hm : m = w + m') : ovl (P ++ List.replicate m 0) o s = (P ++ pad s w) ++ List.replicate m' 0 := by
  unfold ovl pad
  rw [List.take_append_of_le_length (by omega), List.take_of_length_le (by omega), ← List.drop_drop, ← hP, List.drop_left, List.drop_replicate]
  simp only [List.append_assoc]
  congr 2
  rw [List.replicate_append_replicate]
  congr 1
  omega
theorem gap_step {P : B} (w m m' : Nat) (hm : m = w + m') : P ++ List.replicate m 0 = (P ++ pad [] w) ++ List.replicate m' 0 := by
  unfold pad
  simp only [List.append_assoc, List.nil_append, List.length_nil, Nat.sub_zero]
  rw [List.replicate_append_replicate]
  congr 2
def zeros : B := List.replicate 512 0
/-- what the program lays, field by field -/
def lay1 (h : Hdr) : B := ovl zeros 0 h.name
def lay2 (h : Hdr) : B := ovl (lay1 h) 100 (numB h.mode.toNat 8)
def lay3 (h : Hdr) : B := ovl (lay2 h) 108 (numB 0 8)
def lay4 (h : Hdr) : B := ovl (lay3 h) 116 (numB 0 8)
def lay5 (h : Hdr) : B := ovl (lay4 h) 124 (numB h.size.toNat 12)
def lay6 (h : Hdr) : B := ovl (lay5 h) 136 (numB h.time.toNat 12)
def lay7 (h : Hdr) : B := ovl (lay6 h) 156 [h.typ]
def lay8 (h : Hdr) : B := ovl (lay7 h) 157 h.link
def lay9 (h : Hdr) : B := ovl (lay8 h) 257 ustar
def layZ (h : Hdr) : B := ovl (lay9 h) 329 (numB 0 8)
def layA (h : Hdr) : B := ovl (layZ h) 337 (numB 0 8)
def layP (h : Hdr) : B := ovl (layA h) 345 h.pre
theorem layP_raw {h : Hdr} (g : Good h) : layP h = rawB h := by
  have n8 : ∀ n, (numB n 8).length = 8 := fun n => numB_len n 8
  have n12 : ∀ n, (numB n 12).length = 12 := fun n => numB_len n 12
  have p8 : ∀ n, pad (numB n 8) 8 = numB n 8 := fun n => pad_full (n8 n)
  have p12 : ∀ n, pad (numB n 12) 12 = numB n 12 := fun n => pad_full (n12 n)
  have l1 := pad_len g.name
  have l2 := pad_len g.link
  have l3 : (pad ([] : B) 8).length = 8 := by decide
  have l4 : (pad ([] : B) 64).length = 64 := pad_len (by decide)
  have l5 : (pad ustar 8).length = 8 := by decide
  have l6 := pad_len g.pre
  unfold layP layA layZ lay9 lay8 lay7 lay6 lay5 lay4 lay3 lay2 lay1
  have p1 : pad [h.typ] 1 = [h.typ] := pad_full rfl
  have e0 : zeros = [] ++ List.replicate 512 0 := rfl
  rw [e0]
  rw [ovl_step 0 100 512 412 (by simp [l1, p8, n8, p12, n12, l3, l2, l4, l5, p1]) g.name rfl]
  rw [ovl_step 100 8 412 404 (by simp [l1, p8, n8, p12, n12, l3, l2, l4, l5, p1]) (by rw [n8]; omega) rfl]
  rw [ovl_step 108 8 404 396 (by simp [l1, p8, n8, p12, n12, l3, l2, l4, l5, p1]) (by rw [n8]; omega) rfl]
  rw [ovl_step 116 8 396 388 (by simp [l1, p8, n8, p12, n12, l3, l2, l4, l5, p1]) (by rw [n8]; omega) rfl]
  rw [ovl_step 124 12 388 376 (by simp [l1, p8, n8, p12, n12, l3, l2, l4, l5, p1]) (by rw [n12]; omega) rfl]
  rw [ovl_step 136 12 376 364 (by simp [l1, p8, n8, p12, n12, l3, l2, l4, l5, p1]) (by rw [n12]; omega) rfl]
  rw [gap_step 8 364 356 rfl]
  rw [ovl_step 156 1 356 355 (by simp [l1, p8, n8, p12, n12, l3, l2, l4, l5, p1]) (by simp) rfl]
  rw [ovl_step 157 100 355 255 (by simp [l1, p8, n8, p12, n12, l3, l2, l4, l5, p1]) g.link rfl]
  rw [ovl_step 257 8 255 247 (by simp [l1, p8, n8, p12, n12, l3, l2, l4, l5, p1]) (by decide) rfl]
  rw [gap_step 64 247 183 rfl]
  rw [ovl_step 329 8 183 175 (by simp [l1, p8, n8, p12, n12, l3, l2, l4, l5, p1]) (by rw [n8]; omega) rfl]
  rw [ovl_step 337 8 175 167 (by simp [l1, p8, n8, p12, n12, l3, l2, l4, l5, p1]) (by rw [n8]; omega) rfl]
  rw [ovl_step 345 155 167 12 (by simp [l1, p8, n8, p12, n12, l3, l2, l4, l5, p1]) g.pre rfl]
  rw [gap_step 12 12 0 rfl]
  unfold rawB ahead after
  simp only [p8, p12, List.flatten_cons, List.flatten_nil, List.append_assoc, List.nil_append, List.append_nil, p1, Nat.sub_self, List.replicate_zero]
/-- the sum's bytes laid over -/
theorem ovl_seal {l : B} (h : l.length = 512) : ovl (ovl l 148 (numB (sumB l) 7)) 155 [32] = sealB l := by
  unfold ovl sealB
  rw [numB_len]
  have e1 : (l.take 148 ++ numB (sumB l) 7).length = 155 := by rw [List.length_append, List.length_take, numB_len]; omega
  rw [List.take_append_of_le_length (by omega), List.take_of_length_le (by omega), List.drop_append, List.drop_eq_nil_of_le (by omega), List.nil_append, e1, List.drop_drop]
  simp
/-- the sum, added up to a place -/
def sumTo (l : B) : Nat → Nat
  | 0 => 0
  | k + 1 => sumTo l k + (if 148 ≤ k ∧ k < 156 then 32 else (l.getD k 0).toNat)
theorem sumL_take_succ {l : B} {k : Nat} (h : k < l.length) : sumL (l.take (k + 1)) = sumL (l.take k) + (l.getD k 0).toNat := by
  unfold sumL
  rw [List.take_add_one, List.map_append, List.sum_append, List.getD_eq_getElem?_getD, List.getElem?_eq_getElem h]
  simp
theorem sumTo_low {l : B} (h : l.length = 512) : ∀ k, k ≤ 148 → sumTo l k = sumL (l.take k)
  | 0, _ => rfl
  | k + 1, hk => by
    rw [sumL_take_succ (by omega), ← sumTo_low h k (by omega)]
    unfold sumTo
    rw [if_neg (by omega)]
    cases k <;> rfl
theorem sumTo_mid {l : B} (h : l.length = 512) : ∀ k, k ≤ 8 → sumTo l (148 + k) = sumL (l.take 148) + 32 * k
  | 0, _ => sumTo_low h 148 (Nat.le_refl _)
  | k + 1, hk => by
    have := sumTo_mid h k (by omega)
    show sumTo l (148 + k) + (if 148 ≤ 148 + k ∧ 148 + k < 156 then 32 else (l.getD (148 + k) 0).toNat) = _
    rw [if_pos (by omega), this]; omega
theorem sumTo_high {l : B} (h : l.length = 512) : ∀ k, k ≤ 356 → sumTo l (156 + k) = sumL (l.take 148) + 256 + sumL ((l.drop 156).take k)
  | 0, _ => by rw [sumTo_mid h 8 (by omega)]; rfl
  | k + 1, hk => by
    have := sumTo_high h k (by omega)
    rw [sumL_take_succ (l := l.drop 156) (k := k) (by rw [List.length_drop]; omega)]
    show sumTo l (156 + k) + (if 148 ≤ 156 + k ∧ 156 + k < 156 then 32 else (l.getD (156 + k) 0).toNat) = _
    rw [if_neg (by omega), this, List.getD_eq_getElem?_getD, List.getD_eq_getElem?_getD, List.getElem?_drop]
    omega
theorem sumTo_all {l : B} (h : l.length = 512) : sumTo l 512 = sumB l := by
  have := sumTo_high h 356 (by omega)
  rw [List.take_of_length_le (l := l.drop 156) (by rw [List.length_drop]; omega)] at this
  exact this
theorem sumTo_bd (l : B) : ∀ k, sumTo l k ≤ 255 * k
  | 0 => Nat.le_refl _
  | k + 1 => by
    have := sumTo_bd l k
    have hc := (l.getD k 0).toNat_lt
    unfold sumTo
    split <;> omega
end Hd
end Go.Proofs.YtldkhbkgmiicbaaGreatDoor

/- Layer 12: an item's pieces and a list's volume, as lists of bytes. -/
namespace Go.Proofs.YtldkhbkgmiicbaaGreatDoor
set_option linter.unusedVariables false
set_option linter.unusedSimpArgs false

namespace Pk
/-- the last place below n at which a path may be cut -/
def cutOf (l : B) : Nat → Option Nat
  | 0 => none
  | n + 1 => if l[n]? = some 47 ∧ n ≤ 155 ∧ l.length - n - 1 ≤ 100 then some n else cutOf l n
theorem cutOf_some (l : B) : ∀ n i, cutOf l n = some i → i < n ∧ Nm.CutAt l i ∧ ∀ j, i < j → j < n → ¬ Nm.CutAt l j
  | 0, i, h => by cases h
  | n + 1, i, h => by
    unfold cutOf at h
    split at h
    · rename_i hc
      obtain rfl : n = i := Option.some.inj h
      exact ⟨Nat.lt_succ_self _, hc, fun j h1 h2 => by omega⟩
    · rename_i hc
      obtain ⟨h1, h2, h3⟩ := cutOf_some l n i h
      refine ⟨by omega, h2, fun j hj hn => ?_⟩
      by_cases e : j = n
      · rw [e]; exact hc
      · exact h3 j hj (by omega)
theorem cutOf_none (l : B) : ∀ n, cutOf l n = none → ∀ j, j < n → ¬ Nm.CutAt l j
  | 0, _, j, hj => by omega
  | n + 1, h, j, hj => by
    unfold cutOf at h
    split at h
    · cases h
    · rename_i hc
      by_cases e : j = n
      · rw [e]; exact hc
      · exact cutOf_none l n h j (by omega)
/-- what Split answers -/
def spl (l : B) : B × B × Int :=
  if (Nm.check l).2 ≠ 0 then ([], [], (Nm.check l).2)
  else if l.length ≤ 100 then ([], l, 0)
  else match cutOf l l.length with
    | some i => (l.take i, l.drop (i + 1), 0)
    | none => ([], [], 2)
theorem spl_says (l : B) : Nm.SplitSays l (spl l).1 (spl l).2.1 (spl l).2.2 := by
  by_cases h : (Nm.check l).2 = 0
  · by_cases h1 : l.length ≤ 100
    · have e : spl l = ([], l, 0) := by unfold spl; rw [if_neg (fun k => k h), if_pos h1]
      rw [e]
      exact ⟨fun k => absurd h k, fun _ _ => ⟨rfl, rfl, rfl⟩, fun _ k => by omega, fun _ k => by omega⟩
    · cases hc : cutOf l l.length with
      | some i =>
        have e : spl l = (l.take i, l.drop (i + 1), 0) := by unfold spl; rw [if_neg (fun k => k h), if_neg h1, hc]
        obtain ⟨c1, c2, c3⟩ := cutOf_some l _ i hc
        rw [e]
        refine ⟨fun k => absurd h k, fun _ k => absurd k h1, fun _ _ j hj hjn => ?_, fun _ _ k => absurd c2 (k i)⟩
        have : i = j := by
          rcases Nat.lt_trichotomy i j with g | g | g
          · exact absurd hj (c3 j g (Nm.cut_lt hj))
          · exact g
          · exact absurd c2 (hjn i g)
        rw [this]; exact ⟨rfl, rfl, rfl⟩
      | none =>
        have e : spl l = ([], [], 2) := by unfold spl; rw [if_neg (fun k => k h), if_neg h1, hc]
        have c := cutOf_none l _ hc
        rw [e]
        exact ⟨fun k => absurd h k, fun _ k => absurd k h1, fun _ _ j hj => absurd hj (c j (Nm.cut_lt hj)), fun _ _ _ => ⟨rfl, rfl, rfl⟩⟩
  · have e : spl l = ([], [], (Nm.check l).2) := by unfold spl; rw [if_pos h]
    rw [e]
    exact ⟨fun _ => ⟨rfl, rfl, rfl⟩, fun k => absurd k h, fun k => absurd k h, fun k => absurd k h⟩
/-- the type of a kind's head -/
def typ (k : Nat) : UInt8 := if k = 3 then 49 else if k = 4 then 50 else if k = 2 then 53 else 48
/-- how many noughts fill so many bytes -/
def gap (n : Nat) : Nat := (512 - n % 512) % 512
def fill (b : B) : B := b ++ List.replicate (gap b.length) 0
theorem gap_lt (n : Nat) : gap n < 512 := Nat.mod_lt _ (by decide)
theorem gap_add (n : Nat) : (n + gap n) % 512 = 0 := by unfold gap; omega
theorem fill_len (b : B) : (fill b).length = b.length + gap b.length := by unfold fill; rw [List.length_append, List.length_replicate]
theorem fill_nil : fill [] = [] := rfl
theorem fill_full {b : B} (h : b.length % 512 = 0) : fill b = b := by
  unfold fill
  rw [show gap b.length = 0 by unfold gap; omega]
  exact List.append_nil _
/-- a block of 512 bytes, and what is filled behind it -/
theorem fill_cons {a b : B} (h : a.length = 512) : fill (a ++ b) = a ++ fill b := by
  unfold fill
  rw [List.length_append, h, List.append_assoc, show gap (512 + b.length) = gap b.length by unfold gap; omega]
theorem fill_short {b : B} (h0 : b ≠ []) (h : b.length ≤ 512) : fill b = b ++ List.replicate (512 - b.length) 0 := by
  unfold fill
  have : 0 < b.length := List.length_pos_iff.2 h0
  rw [show gap b.length = 512 - b.length by unfold gap; omega]
/-- the head of records, and an item's own -/
def more (n : Nat) : Hd.Hdr := ⟨[109, 111, 114, 101], 0, n, 0, 120, [], []⟩
def hd (x : Tr.It) : Hd.Hdr := ⟨(spl x.path).2.1, x.mode, (x.body.length : Nat), x.time, typ x.kind, if x.to.length ≤ 100 then x.to else [], (spl x.path).1⟩
/-- the bytes that Put of a head answers -/
def hB (h : Hd.Hdr) : B := if Hd.may h = 0 then Hd.layB h else []
theorem hB_len (h : Hd.Hdr) : (hB h).length = 512 ∨ (hB h).length = 0 := by
  unfold hB
  split
  · rename_i e; exact .inl (Hd.lay_len (Hd.may_good e))
  · exact .inr rfl
theorem hB_le (h : Hd.Hdr) : (hB h).length ≤ 512 := by rcases hB_len h with e | e <;> rw [e] <;> decide
/-- an item's pairs and their records -/
def prsOf (x : Tr.It) : List Px.Pr := prs x (spl x.path).2.2
def recs (x : Tr.It) : B := (Px.putF (prsOf x)).1
def front (x : Tr.It) : B := if prsOf x = [] then [] else hB (more (recs x).length) ++ fill (recs x)
def pcs (x : Tr.It) : B := front x ++ (hB (hd x) ++ fill x.body)
theorem all9_len : ∀ (l : List Px.Pr), (∀ p ∈ l, Px.fits p = 0) → (Px.all9 l).length ≤ 1064 * l.length
  | [], _ => by simp [Px.all9]
  | p :: l, h => by
    have h1 := all9_len l (fun q hq => h q (List.mem_cons_of_mem _ hq))
    have h2 := Px.psize_le (h p (List.mem_cons_self ..))
    have h3 := Px.rcd_len p
    rw [Px.all9, List.length_append, List.length_cons]
    omega
theorem put_len (l : List Px.Pr) (h2 : l.length ≤ 2) : (Px.putF l).1.length ≤ 2128 := by
  by_cases h : (Px.putF l).2.2 = 0
  · have hk := (Px.put_ok l).1 h
    rw [Px.put_all hk]
    have := all9_len l hk.2.1
    show (Px.all9 l).length ≤ _
    omega
  · have : (Px.putF l).1 = [] := by
      unfold Px.putF at h ⊢
      split
      · rfl
      · rename_i hn
        rw [if_neg hn] at h
        split
        · rfl
        · rename_i h0
          rw [if_neg h0] at h
          exact absurd rfl h
    rw [this]; decide
theorem recs_len (x : Tr.It) : (recs x).length ≤ 2128 := put_len _ (prs_len _ _)
theorem front_len (x : Tr.It) : (front x).length ≤ 3200 := by
  unfold front
  split
  · decide
  · rw [List.length_append, fill_len]
    have := hB_le (more (recs x).length); have := recs_len x; have := gap_lt (recs x).length; omega
theorem pcs_len (x : Tr.It) : (pcs x).length ≤ 4224 + x.body.length := by
  unfold pcs
  rw [List.length_append, List.length_append, fill_len]
  have := front_len x; have := hB_le (hd x); have := gap_lt x.body.length; omega
theorem may_body {x : Tr.It} (h : Tr.mayE x = 0) : x.body.length ≤ 65536 := by
  unfold Tr.mayE at h
  repeat' split at h
  all_goals omega
/-- the pieces of some items -/
def flat (t : List Tr.It) : B := t.flatMap pcs
theorem flat_snoc (t : List Tr.It) (x : Tr.It) : flat (t ++ [x]) = flat t ++ pcs x := by unfold flat; rw [List.flatMap_append]; simp
theorem flat_take {t : List Tr.It} {k : Nat} {x : Tr.It} (h : t[k]? = some x) : flat (t.take (k + 1)) = flat (t.take k) ++ pcs x := by
  rw [List.take_add_one, h]; exact flat_snoc _ _
/-- going on with a volume behind k items -/
def wrF (out : B) (k : Nat) : List Tr.It → B × Nat × Int
  | [] => (out ++ List.replicate 1024 0, 0, 0)
  | x :: r => if 131072 < (out ++ pcs x).length + 1024 then ([], k, 2) else wrF (out ++ pcs x) (k + 1) r
/-- what Write answers -/
def wr (t : List Tr.It) : B × Nat × Int := if (Tr.chkE t).2 ≠ 0 then ([], (Tr.chkE t).1, (Tr.chkE t).2) else wrF [] 0 t
/-- the first k items have their room -/
def Upto (t : List Tr.It) (k : Nat) : Prop := k ≤ t.length ∧ wrF [] 0 t = wrF (flat (t.take k)) k (t.drop k) ∧ (flat (t.take k)).length + 1024 ≤ 131072
theorem upto_zero (t : List Tr.It) : Upto t 0 := ⟨Nat.zero_le _, rfl, by rw [List.take_zero]; exact of_decide_eq_true rfl⟩
theorem upto_next {t : List Tr.It} {k : Nat} {x : Tr.It} (h : Upto t k) (hx : t[k]? = some x) (hs : ¬ 131072 < (flat (t.take k) ++ pcs x).length + 1024) : Upto t (k + 1) := by
  obtain ⟨hk, hxe⟩ := List.getElem?_eq_some_iff.1 hx
  refine ⟨hk, ?_, ?_⟩
  · rw [h.2.1, List.drop_eq_getElem_cons hk, hxe]
    show (if _ then _ else _) = _
    rw [if_neg hs, flat_take hx]
  · rw [flat_take hx]; omega
theorem upto_stop {t : List Tr.It} {k : Nat} {x : Tr.It} (h : Upto t k) (hx : t[k]? = some x) (hs : 131072 < (flat (t.take k) ++ pcs x).length + 1024) : wrF [] 0 t = ([], k, 2) := by
  obtain ⟨hk, hxe⟩ := List.getElem?_eq_some_iff.1 hx
  rw [h.2.1, List.drop_eq_getElem_cons hk, hxe]
  show (if _ then _ else _) = _
  rw [if_pos hs]
theorem upto_end {t : List Tr.It} (h : Upto t t.length) : wrF [] 0 t = (flat t ++ List.replicate 1024 0, 0, 0) := by
  rw [h.2.1, List.take_length, List.drop_length]; rfl
theorem wr_bad {t : List Tr.It} (h : (Tr.chkE t).2 ≠ 0) : wr t = ([], (Tr.chkE t).1, (Tr.chkE t).2) := by unfold wr; rw [if_pos h]
theorem wr_good {t : List Tr.It} (h : (Tr.chkE t).2 = 0) : wr t = wrF [] 0 t := by unfold wr; rw [if_neg (fun k => k h)]
theorem upto_cases (t : List Tr.It) : ∀ k, k ≤ t.length → Upto t k ∨ ∃ i x, i < k ∧ t[i]? = some x ∧ Upto t i ∧ 131072 < (flat (t.take i) ++ pcs x).length + 1024
  | 0, _ => .inl (upto_zero t)
  | k + 1, hk => by
    rcases upto_cases t k (by omega) with h | ⟨i, x, h1, h2⟩
    · have hx : t[k]? = some t[k] := List.getElem?_eq_getElem (by omega)
      by_cases hs : 131072 < (flat (t.take k) ++ pcs t[k]).length + 1024
      · exact .inr ⟨k, t[k], Nat.lt_succ_self _, hx, h, hs⟩
      · exact .inl (upto_next h hx hs)
    · exact .inr ⟨i, x, by omega, h2⟩
/-- Write's ways -/
theorem wr_cases (t : List Tr.It) : ((Tr.chkE t).2 ≠ 0 ∧ wr t = ([], (Tr.chkE t).1, (Tr.chkE t).2)) ∨ ((Tr.chkE t).2 = 0 ∧ ∃ i, i < t.length ∧ wr t = ([], i, 2)) ∨ ((Tr.chkE t).2 = 0 ∧ Upto t t.length ∧ wr t = (flat t ++ List.replicate 1024 0, 0, 0)) := by
  by_cases h : (Tr.chkE t).2 = 0
  · rcases upto_cases t t.length (Nat.le_refl _) with g | ⟨i, x, h1, h2, h3, h4⟩
    · exact .inr (.inr ⟨h, g, by rw [wr_good h, upto_end g]⟩)
    · exact .inr (.inl ⟨h, i, h1, by rw [wr_good h, upto_stop h3 h2 h4]⟩)
  · exact .inl ⟨h, wr_bad h⟩
end Pk
end Go.Proofs.YtldkhbkgmiicbaaGreatDoor

/- The contract of the document's own Exact; of the statements' own same, of layer 7. -/
namespace Go.Proofs.YtldkhbkgmiicbaaGreatDoor
open Go.RowKit Go.Deep
set_option linter.unusedVariables false
set_option linter.unusedSimpArgs false

/-- a call answers whether something holds -/
def TellsO (e : Ending) (P : Prop) : Prop := ∃ x : Bool, e = .returned (.bool x) ∧ (x = true ↔ P)
theorem TellsO.no {P : Prop} (h : ¬ P) : TellsO (.returned (.bool false)) P := ⟨false, rfl, ⟨fun e => Bool.noConfusion e, fun e => absurd e h⟩⟩
theorem TellsO.yes {P : Prop} (h : P) : TellsO (.returned (.bool true)) P := ⟨true, rfl, ⟨fun _ => h, fun _ => rfl⟩⟩

theorem drewN_add7 (w : World) (q : Nat) : ∀ n, (w.drewN q).drewN n = w.drewN (q + n)
  | 0 => rfl
  | n + 1 => by show ((w.drewN q).drewN n).drew = (w.drewN (q + n)).drew; rw [drewN_add7 w q n]
/-- the bytes are the form of n in as many bytes -/
def IsForm (L : Nat) (f : Nat → Int) (n : Nat) : Prop := (n < 8 ^ (L - 1) ∨ n < 256 ^ (L - 1)) ∧ ∀ i, i < L → Oct.formF n L i = f i
/-- what Exact answers, where Get answers n, a, er -/
structure ExactSays (L : Nat) (f : Nat → Int) (n er : Int) (e : Ending) : Prop where
  bad : er ≠ 0 → e = .returned (.tuple #[.int .i64 0, .int .i64 er])
  no : er = 0 → ¬ IsForm L f n.toNat → e = .returned (.tuple #[.int .i64 0, .int .i64 71])
  yes : er = 0 → IsForm L f n.toNat → e = .returned (.tuple #[.int .i64 n, .int .i64 0])
end Go.Proofs.YtldkhbkgmiicbaaGreatDoor

/- Contracts of the statements' own lent and kept, of layer 7. -/
namespace Go.Proofs.YtldkhbkgmiicbaaGreatDoor
open Go.RowKit Go.Deep
set_option linter.unusedVariables false
set_option linter.unusedSimpArgs false

/-- bytes, and two marks behind them -/
def lentF (f : Nat → Int) (L i : Nat) : Int := if i < L then f i else if i = L then 201 else 202
end Go.Proofs.YtldkhbkgmiicbaaGreatDoor
