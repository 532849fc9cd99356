/- Layer 15: journals as numbers and lists; what stands on a disk, and what becomes of it whenever the power goes. -/
import Derived.Test.YtppknadflmjefaaC9
namespace Go.Proofs.Ytppknadflmjefaa
set_option linter.unusedVariables false
set_option linter.unusedSimpArgs false
namespace Jl

/-- the first k bytes as one number, the greatest first -/
def num (f : Nat → Int) : Nat → Nat
  | 0 => 0
  | k + 1 => num f k * 256 + (f k).toNat
theorem num_congr {f g : Nat → Int} : ∀ {k : Nat}, (∀ i, i < k → f i = g i) → num f k = num g k
  | 0, _ => rfl
  | k + 1, h => by rw [num, num, num_congr (fun i hi => h i (by omega)), h k (by omega)]
theorem num_lt {f : Nat → Int} (h : ∀ i, 0 ≤ f i ∧ f i < 256) : ∀ k, num f k < 256 ^ k
  | 0 => by rw [num]; decide
  | k + 1 => by
    have h1 := num_lt h k
    have h2 := h k
    rw [num, Nat.pow_succ]
    omega
theorem num_mod {f : Nat → Int} {k : Nat} (h : 0 ≤ f k ∧ f k < 256) : num f (k + 1) % 256 = (f k).toNat := by
  rw [num]; omega
/-- a byte of a number -/
def byt (n k : Nat) : Nat := n / 256 ^ k % 256
theorem byt_lt (n k : Nat) : byt n k < 256 := Nat.mod_lt _ (by decide)
theorem num_byt (n m : Nat) : ∀ k, k ≤ m + 1 → num (fun i => ((byt n (m - i) : Nat) : Int)) k = n / 256 ^ (m + 1 - k) % 256 ^ k
  | 0, _ => by rw [num, Nat.pow_zero, Nat.mod_one]
  | k + 1, h => by
    rw [num, num_byt n m k (by omega)]
    have e1 : m + 1 - k = (m - k) + 1 := by omega
    have e2 : m + 1 - (k + 1) = m - k := by omega
    rw [e1, e2, Nat.pow_succ 256 (m - k), ← Nat.div_div_eq_div_mul, Nat.pow_succ 256 k, Nat.mul_comm (256 ^ k) 256, Nat.mod_mul]
    show _ * 256 + (((byt n (m - k) : Nat) : Int)).toNat = _
    rw [Int.toNat_natCast]
    unfold byt
    omega
theorem num_all (n m : Nat) (h : n < 256 ^ (m + 1)) : num (fun i => ((byt n (m - i) : Nat) : Int)) (m + 1) = n := by
  rw [num_byt n m (m + 1) (Nat.le_refl _), Nat.sub_self, Nat.pow_zero, Nat.div_one, Nat.mod_eq_of_lt h]

/-- what a head says -/
structure Hed where
  n : Nat
  area : Nat
  len : Nat
def no : Hed := ⟨0, 0, 0⟩
/-- what the bytes of a head say; zeros, if they are not right -/
def hed (b : Nat → Int) (odd room : Nat) : Hed :=
  if num b 8 = num (fun i => b (56 + i)) 8 ∧ num b 8 % 2 = odd ∧ b 8 ≤ 1 ∧ num (fun i => b (9 + i)) 4 ≤ room then ⟨num b 8, (b 8).toNat, num (fun i => b (9 + i)) 4⟩ else no
def pick (h o : Hed) : Hed := if h.n < o.n then o else h
/-- the head that holds -/
def hold (b : Nat → Int) (room : Nat) : Hed := pick (pick no (hed b 0 room)) (hed (fun i => b (64 + i)) 1 room)
/-- a head's bytes -/
def hb (h : Hed) (i : Nat) : Int :=
  if i < 8 then ((byt h.n (7 - i) : Nat) : Int) else if i = 8 then ((h.area % 256 : Nat) : Int) else if i < 13 then ((byt h.len (12 - i) : Nat) : Int) else if 56 ≤ i ∧ i < 64 then ((byt h.n (63 - i) : Nat) : Int) else 0
theorem hb_bd (h : Hed) (i : Nat) : 0 ≤ hb h i ∧ hb h i < 256 := by
  have h1 := byt_lt h.n (7 - i)
  have h2 := byt_lt h.n (63 - i)
  have h3 := byt_lt h.len (12 - i)
  unfold hb
  split
  · omega
  split
  · omega
  split
  · omega
  split
  · omega
  · decide
theorem hed_congr {b c : Nat → Int} {odd room : Nat} (h : ∀ i, i < 64 → b i = c i) : hed b odd room = hed c odd room := by
  unfold hed
  rw [num_congr (f := b) (g := c) (k := 8) (fun i hi => h i (by omega)), num_congr (f := fun i => b (56 + i)) (g := fun i => c (56 + i)) (k := 8) (fun i hi => h _ (by omega)), num_congr (f := fun i => b (9 + i)) (g := fun i => c (9 + i)) (k := 4) (fun i hi => h _ (by omega)), h 8 (by omega)]
theorem hold_congr {b c : Nat → Int} {room : Nat} (h : ∀ i, i < 128 → b i = c i) : hold b room = hold c room := by
  unfold hold
  rw [hed_congr (b := b) (c := c) (fun i hi => h i (by omega)), hed_congr (b := fun i => b (64 + i)) (c := fun i => c (64 + i)) (fun i hi => h _ (by omega))]
/-- a head's bytes are read as it -/
theorem hed_hb {h : Hed} {odd room : Nat} (hn : h.n < 256 ^ 8) (ho : h.n % 2 = odd) (ha : h.area ≤ 1) (hl : h.len ≤ room) (hr : h.len < 256 ^ 4) : hed (hb h) odd room = h := by
  have e1 : num (hb h) 8 = h.n := by
    rw [num_congr (g := fun i => ((byt h.n (7 - i) : Nat) : Int)) (fun i hi => by unfold hb; rw [if_pos hi]), num_all h.n 7 hn]
  have e2 : num (fun i => hb h (56 + i)) 8 = h.n := by
    rw [num_congr (g := fun i => ((byt h.n (7 - i) : Nat) : Int)) (fun i hi => by
      unfold hb
      rw [if_neg (by omega), if_neg (by omega), if_neg (by omega), if_pos (by omega), show 63 - (56 + i) = 7 - i by omega]), num_all h.n 7 hn]
  have e3 : num (fun i => hb h (9 + i)) 4 = h.len := by
    rw [num_congr (g := fun i => ((byt h.len (3 - i) : Nat) : Int)) (fun i hi => by
      unfold hb
      rw [if_neg (by omega), if_neg (by omega), if_pos (by omega), show 12 - (9 + i) = 3 - i by omega]), num_all h.len 3 hr]
  have e4 : hb h 8 = ((h.area : Nat) : Int) := by
    unfold hb
    rw [if_neg (by decide), if_pos rfl, Nat.mod_eq_of_lt (by omega)]
  unfold hed
  rw [e1, e2, e3, e4, if_pos ⟨rfl, ho, by omega, hl⟩, Int.toNat_natCast]
theorem hed_n (b : Nat → Int) (odd room : Nat) : (hed b odd room).n = 0 ∨ ((hed b odd room).n = num b 8 ∧ num b 8 = num (fun i => b (56 + i)) 8 ∧ num b 8 % 2 = odd) := by
  unfold hed
  by_cases h : num b 8 = num (fun i => b (56 + i)) 8 ∧ num b 8 % 2 = odd ∧ b 8 ≤ 1 ∧ num (fun i => b (9 + i)) 4 ≤ room
  · rw [if_pos h]; exact .inr ⟨rfl, h.1, h.2.1⟩
  · rw [if_neg h]; exact .inl rfl
theorem hed_zero {b : Nat → Int} {odd room : Nat} (h : (hed b odd room).n ≤ 0) : pick no (hed b odd room) = no := if_neg (by show ¬ 0 < (hed b odd room).n; omega)
/-- what holds is within bounds -/
def Fit (h : Hed) (room : Nat) : Prop := h.n < 256 ^ 8 ∧ h.area ≤ 1 ∧ h.len ≤ room
theorem no_fit (room : Nat) : Fit no room := ⟨by decide, by decide, Nat.zero_le _⟩
theorem hed_fit {b : Nat → Int} (hb : ∀ i, 0 ≤ b i ∧ b i < 256) (odd room : Nat) : Fit (hed b odd room) room := by
  unfold hed
  by_cases h : num b 8 = num (fun i => b (56 + i)) 8 ∧ num b 8 % 2 = odd ∧ b 8 ≤ 1 ∧ num (fun i => b (9 + i)) 4 ≤ room
  · rw [if_pos h]
    exact ⟨num_lt hb 8, by show (b 8).toNat ≤ 1; omega, h.2.2.2⟩
  · rw [if_neg h]; exact no_fit room
theorem pick_fit {h o : Hed} {room : Nat} (hh : Fit h room) (ho : Fit o room) : Fit (pick h o) room := by
  unfold pick; split
  · exact ho
  · exact hh
theorem hold_fit {b : Nat → Int} (hb : ∀ i, 0 ≤ b i ∧ b i < 256) (room : Nat) : Fit (hold b room) room :=
  pick_fit (pick_fit (no_fit _) (hed_fit hb _ _)) (hed_fit (fun i => hb (64 + i)) _ _)

/-- records as bytes -/
def packed : List (List Nat) → List Nat
  | [] => []
  | r :: l => (r.length / 256) :: (r.length % 256) :: (r ++ packed l)
theorem packed_append : ∀ (a b : List (List Nat)), packed (a ++ b) = packed a ++ packed b
  | [], b => rfl
  | r :: a, b => by rw [List.cons_append, packed, packed, packed_append a b]; simp
def splF : Nat → List Nat → Option (List (List Nat))
  | _, [] => some []
  | 0, _ :: _ => none
  | _ + 1, [_] => none
  | k + 1, a :: b :: r => if a * 256 + b ≤ r.length then (splF k (r.drop (a * 256 + b))).map (fun l => r.take (a * 256 + b) :: l) else none
/-- bytes as records -/
def spl (l : List Nat) : Option (List (List Nat)) := splF l.length l
theorem splF_more : ∀ (k m : Nat) (l : List Nat), l.length ≤ k → l.length ≤ m → splF k l = splF m l
  | 0, m, l, h, _ => by
    obtain rfl : l = [] := List.length_eq_zero_iff.1 (by omega)
    cases m <;> simp [splF]
  | k + 1, 0, l, _, h => by
    obtain rfl : l = [] := List.length_eq_zero_iff.1 (by omega)
    simp [splF]
  | k + 1, m + 1, [], _, _ => by simp [splF]
  | k + 1, m + 1, [_], _, _ => by simp [splF]
  | k + 1, m + 1, a :: b :: r, h1, h2 => by
    simp only [List.length_cons] at h1 h2
    rw [splF, splF]
    rw [splF_more k m (r.drop (a * 256 + b)) (by rw [List.length_drop]; omega) (by rw [List.length_drop]; omega)]
theorem spl_nil : spl [] = some [] := rfl
theorem spl_one (a : Nat) : spl [a] = none := rfl
theorem spl_two (a b : Nat) (r : List Nat) : spl (a :: b :: r) = if a * 256 + b ≤ r.length then (spl (r.drop (a * 256 + b))).map (fun l => r.take (a * 256 + b) :: l) else none := by
  unfold spl
  rw [List.length_cons, splF]
  rw [splF_more (b :: r).length (r.drop (a * 256 + b)).length (r.drop (a * 256 + b)) (by rw [List.length_drop, List.length_cons]; omega) (Nat.le_refl _)]
theorem spl_packed : ∀ (L : List (List Nat)), (∀ r ∈ L, r.length ≤ 65535) → spl (packed L) = some L
  | [], _ => rfl
  | r :: L, h => by
    have hr := h r List.mem_cons_self
    rw [packed, spl_two, show r.length / 256 * 256 + r.length % 256 = r.length by omega, if_pos (by simp), List.drop_left, List.take_left, spl_packed L (fun x hx => h x (List.mem_cons_of_mem _ hx))]
    rfl
/-- bytes as a list -/
def data (f : Nat → Int) (n : Nat) : List Nat := (List.range n).map fun i => (f i).toNat
theorem data_len (f : Nat → Int) (n : Nat) : (data f n).length = n := by simp [data]
theorem data_at (f : Nat → Int) {n i : Nat} (h : i < n) : (data f n)[i]? = some (f i).toNat := by simp [data, h]
theorem data_congr {f g : Nat → Int} {n : Nat} (h : ∀ i, i < n → f i = g i) : data f n = data g n := List.map_congr_left fun i hi => by rw [h i (List.mem_range.1 hi)]
theorem data_add (f : Nat → Int) (n m : Nat) : data f (n + m) = data f n ++ data (fun i => f (n + i)) m := by
  apply List.ext_getElem?
  intro i
  by_cases h : i < n
  · rw [data_at f (by omega), List.getElem?_append_left (by rw [data_len]; exact h), data_at f h]
  · by_cases h2 : i < n + m
    · rw [data_at f h2, List.getElem?_append_right (by rw [data_len]; omega), data_len, data_at _ (by omega), show n + (i - n) = i by omega]
    · rw [List.getElem?_eq_none (by rw [data_len]; omega), List.getElem?_eq_none (by rw [List.length_append, data_len, data_len]; omega)]
/-- a list as a row's bytes -/
def rowL (l : List Nat) (i : Nat) : Int := ((l.getD i 0 : Nat) : Int)
theorem data_rowL (l : List Nat) : data (rowL l) l.length = l := by
  apply List.ext_getElem?
  intro i
  by_cases h : i < l.length
  · rw [data_at _ h, List.getElem?_eq_getElem h]
    simp [rowL, h]
  · rw [List.getElem?_eq_none (by rw [data_len]; omega), List.getElem?_eq_none (by omega)]
theorem rowL_data (f : Nat → Int) (hf : ∀ i, 0 ≤ f i) {n i : Nat} (h : i < n) : rowL (data f n) i = f i := by
  unfold rowL
  rw [List.getD_eq_getElem?_getD, data_at f h, Option.getD_some]
  have := hf i
  omega
def Byt (l : List Nat) : Prop := ∀ b ∈ l, b < 256
theorem rowL_bd {l : List Nat} (h : Byt l) (i : Nat) : 0 ≤ rowL l i ∧ rowL l i < 256 := by
  unfold rowL
  rcases Nat.lt_or_ge i l.length with hi | hi
  · have := h l[i] (List.getElem_mem hi)
    rw [List.getD_eq_getElem?_getD, List.getElem?_eq_getElem hi, Option.getD_some]
    omega
  · rw [List.getD_eq_getElem?_getD, List.getElem?_eq_none hi]
    decide
theorem data_byt {f : Nat → Int} (hf : ∀ i, 0 ≤ f i ∧ f i < 256) (n : Nat) : Byt (data f n) := fun b hb => by
  obtain ⟨i, _, rfl⟩ := List.mem_map.1 hb
  have := hf i
  show (f i).toNat < 256
  omega

/-- a journal: its region, the head that holds, its records, whether the power left it -/
structure Jn where
  r0 : Nat
  rc : Nat
  h : Hed
  L : List (List Nat)
  dead : Bool
def half (rc : Nat) : Nat := (rc - 2) / 2
def room (rc : Nat) : Nat := half rc * 64
def start (r0 rc area : Nat) : Nat := r0 + 2 + area * half rc
def holds (S : Dsk) (r0 rc : Nat) : Hed := hold (fun i => S.read (64 * r0 + i)) (room rc)
def dat (S : Dsk) (r0 rc : Nat) : List Nat := data (fun i => S.read (64 * start r0 rc (holds S r0 rc).area + i)) (holds S r0 rc).len
/-- the journal that stands in a region -/
def opn (S : Dsk) (r0 rc : Nat) : Option Jn := (spl (dat S r0 rc)).map fun L => ⟨r0, rc, holds S r0 rc, L, false⟩
/-- a Write and a Sync -/
def last (S : Dsk) (x k : Nat) (f : Nat → Int) : Int × Dsk := if S.dead then (140, S) else if S.fuse = 0 then (140, S.killed) else (S.burnt.put x k f).syncs
def secs (n : Nat) : Nat := (n + 63) / 64
/-- bytes behind the first ones of a row -/
def rowB (old : Nat → Int) (ahead : Nat) (B : List Nat) (i : Nat) : Int := if i < ahead then old i else rowL B (i - ahead)
def putB (S : Dsk) (r0 rc area at_ : Nat) (B : List Nat) : Int × Dsk :=
  if B.length = 0 then (0, S) else if S.dead then (140, S) else last S (start r0 rc area + at_ / 64) (secs (at_ % 64 + B.length)) (rowB (fun i => S.read (64 * (start r0 rc area + at_ / 64) + i)) (at_ % 64) B)
def next (J : Jn) (area at_ : Nat) (B : List Nat) : Hed := ⟨(J.h.n + 1) % 18446744073709551616, area, at_ + B.length⟩
def put2 (J : Jn) (P : Int × Dsk) (nx : Hed) : Int × Dsk := if P.1 = 0 then last P.2 (J.r0 + nx.n % 2) 1 (hb nx) else P
def put3 (J : Jn) (P : Int × Dsk) (nx : Hed) : Int × Dsk × Jn := (P.1, P.2, if P.1 = 0 then { J with h := nx } else { J with dead := true })
/-- records made to last, and the head behind them -/
def put (J : Jn) (S : Dsk) (B : List Nat) (area at_ : Nat) : Int × Dsk × Jn := put3 J (put2 J (putB S J.r0 J.rc area at_ B) (next J area at_ B)) (next J area at_ B)
def long (l : List (List Nat)) : Bool := l.any fun r => decide (65535 < r.length)
def may (J : Jn) (l : List (List Nat)) (rm : Nat) : Int := if J.dead then 140 else if long l then 2 else if rm < (packed l).length then 3 else 0
def withL (J : Jn) (P : Int × Dsk × Jn) (L : List (List Nat)) : Int × Dsk × Jn := (P.1, P.2.1, if P.1 = 0 then { P.2.2 with L := L } else P.2.2)
def add (J : Jn) (S : Dsk) (l : List (List Nat)) : Int × Dsk × Jn :=
  if may J l (room J.rc - J.h.len) ≠ 0 then (may J l (room J.rc - J.h.len), S, J) else if l.length = 0 then (0, S, J) else withL J (put J S (packed l) J.h.area J.h.len) (J.L ++ l)
def rew (J : Jn) (S : Dsk) (l : List (List Nat)) : Int × Dsk × Jn :=
  if may J l (room J.rc) ≠ 0 then (may J l (room J.rc), S, J) else withL J (put J S (packed l) (1 - J.h.area) 0) l
end Jl
end Go.Proofs.Ytppknadflmjefaa
