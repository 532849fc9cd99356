/- Layer 15: lay, sector, isThere; headOf. -/
import Derived.Test.YtppknadflmjefaaC9
namespace Go.Proofs.Ytppknadflmjefaa
set_option linter.unusedVariables false
set_option linter.unusedSimpArgs false
namespace Jl

/-- the first k bytes as one number, the greatest first -/
def num (f : Nat → Int) : Nat → Nat
  | 0 => 0
  | k + 1 => num f k * 256 + (f k).toNat
theorem num_congr {f g : Nat → Int} : ∀ {k : Nat}, (∀ i, i < k → f i = g i) → num f k = num g k
  | 0, _ => rfl
  | k + 1, h => by rw [num, num, num_congr (fun i hi => h i (by omega)), h k (by omega)]
theorem num_lt {f : Nat → Int} (h : ∀ i, 0 ≤ f i ∧ f i < 256) : ∀ k, num f k < 256 ^ k
  | 0 => by rw [num]; decide
  | k + 1 => by
    have h1 := num_lt h k
    have h2 := h k
    rw [num, Nat.pow_succ]
    omega
theorem num_mod {f : Nat → Int} {k : Nat} (h : 0 ≤ f k ∧ f k < 256) : num f (k + 1) % 256 = (f k).toNat := by
  rw [num]; omega
/-- a byte of a number -/
def byt (n k : Nat) : Nat := n / 256 ^ k % 256
theorem byt_lt (n k : Nat) : byt n k < 256 := Nat.mod_lt _ (by decide)
theorem num_byt (n m : Nat) : ∀ k, k ≤ m + 1 → num (fun i => ((byt n (m - i) : Nat) : Int)) k = n / 256 ^ (m + 1 - k) % 256 ^ k
  | 0, _ => by rw [num, Nat.pow_zero, Nat.mod_one]
  | k + 1, h => by
    rw [num, num_byt n m k (by omega)]
    have e1 : m + 1 - k = (m - k) + 1 := by omega
    have e2 : m + 1 - (k + 1) = m - k := by omega
    rw [e1, e2, Nat.pow_succ 256 (m - k), ← Nat.div_div_eq_div_mul, Nat.pow_succ 256 k, Nat.mul_comm (256 ^ k) 256, Nat.mod_mul]
    show _ * 256 + (((byt n (m - k) : Nat) : Int)).toNat = _
    rw [Int.toNat_natCast]
    unfold byt
    omega
theorem num_all (n m : Nat) (h : n < 256 ^ (m + 1)) : num (fun i => ((byt n (m - i) : Nat) : Int)) (m + 1) = n := by
  rw [num_byt n m (m + 1) (Nat.le_refl _), Nat.sub_self, Nat.pow_zero, Nat.div_one, Nat.mod_eq_of_lt h]

/-- what a head says -/
structure Hed where
  n : Nat
  area : Nat
  len : Nat
def no : Hed := ⟨0, 0, 0⟩
/-- what the bytes of a head say; zeros, if they are not right -/
def hed (b : Nat → Int) (odd room : Nat) : Hed :=
  if num b 8 = num (fun i => b (56 + i)) 8 ∧ num b 8 % 2 = odd ∧ b 8 ≤ 1 ∧ num (fun i => b (9 + i)) 4 ≤ room then ⟨num b 8, (b 8).toNat, num (fun i => b (9 + i)) 4⟩ else no
def pick (h o : Hed) : Hed := if h.n < o.n then o else h
/-- the head that holds -/
def hold (b : Nat → Int) (room : Nat) : Hed := pick (pick no (hed b 0 room)) (hed (fun i => b (64 + i)) 1 room)
/-- a head's bytes -/
def hb (h : Hed) (i : Nat) : Int :=
  if i < 8 then ((byt h.n (7 - i) : Nat) : Int) else if i = 8 then ((h.area % 256 : Nat) : Int) else if i < 13 then ((byt h.len (12 - i) : Nat) : Int) else if 56 ≤ i ∧ i < 64 then ((byt h.n (63 - i) : Nat) : Int) else 0
theorem hb_bd (h : Hed) (i : Nat) : 0 ≤ hb h i ∧ hb h i < 256 := by
  have h1 := byt_lt h.n (7 - i)
  have h2 := byt_lt h.n (63 - i)
  have h3 := byt_lt h.len (12 - i)
  unfold hb
  split
  · omega
  split
  · omega
  split
  · omega
  split
  · omega
  · decide
theorem hed_congr {b c : Nat → Int} {odd room : Nat} (h : ∀ i, i < 64 → b i = c i) : hed b odd room = hed c odd room := by
  unfold hed
  rw [num_congr (f := b) (g := c) (k := 8) (fun i hi => h i (by omega)), num_congr (f := fun i => b (56 + i)) (g := fun i => c (56 + i)) (k := 8) (fun i hi => h _ (by omega)), num_congr (f := fun i => b (9 + i)) (g := fun i => c (9 + i)) (k := 4) (fun i hi => h _ (by omega)), h 8 (by omega)]
theorem hold_congr {b c : Nat → Int} {room : Nat} (h : ∀ i, i < 128 → b i = c i) : hold b room = hold c room := by
  unfold hold
  rw [hed_congr (b := b) (c := c) (fun i hi => h i (by omega)), hed_congr (b := fun i => b (64 + i)) (c := fun i => c (64 + i)) (fun i hi => h _ (by omega))]
/-- a head's bytes are read as it -/
theorem hed_hb {h : Hed} {odd room : Nat} (hn : h.n < 256 ^ 8) (ho : h.n % 2 = odd) (ha : h.area ≤ 1) (hl : h.len ≤ room) (hr : h.len < 256 ^ 4) : hed (hb h) odd room = h := by
  have e1 : num (hb h) 8 = h.n := by
    rw [num_congr (g := fun i => ((byt h.n (7 - i) : Nat) : Int)) (fun i hi => by unfold hb; rw [if_pos hi]), num_all h.n 7 hn]
  have e2 : num (fun i => hb h (56 + i)) 8 = h.n := by
    rw [num_congr (g := fun i => ((byt h.n (7 - i) : Nat) : Int)) (fun i hi => by
      unfold hb
      rw [if_neg (by omega), if_neg (by omega), if_neg (by omega), if_pos (by omega), show 63 - (56 + i) = 7 - i by omega]), num_all h.n 7 hn]
  have e3 : num (fun i => hb h (9 + i)) 4 = h.len := by
    rw [num_congr (g := fun i => ((byt h.len (3 - i) : Nat) : Int)) (fun i hi => by
      unfold hb
      rw [if_neg (by omega), if_neg (by omega), if_pos (by omega), show 12 - (9 + i) = 3 - i by omega]), num_all h.len 3 hr]
  have e4 : hb h 8 = ((h.area : Nat) : Int) := by
    unfold hb
    rw [if_neg (by decide), if_pos rfl, Nat.mod_eq_of_lt (by omega)]
  unfold hed
  rw [e1, e2, e3, e4, if_pos ⟨rfl, ho, by omega, hl⟩, Int.toNat_natCast]
theorem hed_n (b : Nat → Int) (odd room : Nat) : (hed b odd room).n = 0 ∨ ((hed b odd room).n = num b 8 ∧ num b 8 = num (fun i => b (56 + i)) 8 ∧ num b 8 % 2 = odd) := by
  unfold hed
  by_cases h : num b 8 = num (fun i => b (56 + i)) 8 ∧ num b 8 % 2 = odd ∧ b 8 ≤ 1 ∧ num (fun i => b (9 + i)) 4 ≤ room
  · rw [if_pos h]; exact .inr ⟨rfl, h.1, h.2.1⟩
  · rw [if_neg h]; exact .inl rfl
theorem hed_zero {b : Nat → Int} {odd room : Nat} (h : (hed b odd room).n ≤ 0) : pick no (hed b odd room) = no := if_neg (by show ¬ 0 < (hed b odd room).n; omega)
/-- what holds is within bounds -/
def Fit (h : Hed) (room : Nat) : Prop := h.n < 256 ^ 8 ∧ h.area ≤ 1 ∧ h.len ≤ room
theorem no_fit (room : Nat) : Fit no room := ⟨by decide, by decide, Nat.zero_le _⟩
theorem hed_fit {b : Nat → Int} (hb : ∀ i, 0 ≤ b i ∧ b i < 256) (odd room : Nat) : Fit (hed b odd room) room := by
  unfold hed
  by_cases h : num b 8 = num (fun i => b (56 + i)) 8 ∧ num b 8 % 2 = odd ∧ b 8 ≤ 1 ∧ num (fun i => b (9 + i)) 4 ≤ room
  · rw [if_pos h]
    exact ⟨num_lt hb 8, by show (b 8).toNat ≤ 1; omega, h.2.2.2⟩
  · rw [if_neg h]; exact no_fit room
theorem pick_fit {h o : Hed} {room : Nat} (hh : Fit h room) (ho : Fit o room) : Fit (pick h o) room := by
  unfold pick; split
  · exact ho
  · exact hh
theorem hold_fit {b : Nat → Int} (hb : ∀ i, 0 ≤ b i ∧ b i < 256) (room : Nat) : Fit (hold b room) room :=
  pick_fit (pick_fit (no_fit _) (hed_fit hb _ _)) (hed_fit (fun i => hb (64 + i)) _ _)

/-- records as bytes -/
def packed : List (List Nat) → List Nat
  | [] => []
  | r :: l => (r.length / 256) :: (r.length % 256) :: (r ++ packed l)
theorem packed_append : ∀ (a b : List (List Nat)), packed (a ++ b) = packed a ++ packed b
  | [], b => rfl
  | r :: a, b => by rw [List.cons_append, packed, packed, packed_append a b]; simp
def splF : Nat → List Nat → Option (List (List Nat))
  | _, [] => some []
  | 0, _ :: _ => none
  | _ + 1, [_] => none
  | k + 1, a :: b :: r => if a * 256 + b ≤ r.length then (splF k (r.drop (a * 256 + b))).map (fun l => r.take (a * 256 + b) :: l) else none
/-- bytes as records -/
def spl (l : List Nat) : Option (List (List Nat)) := splF l.length l
theorem splF_more : ∀ (k m : Nat) (l : List Nat), l.length ≤ k → l.length ≤ m → splF k l = splF m l
  | 0, m, l, h, _ => by
    obtain rfl : l = [] := List.length_eq_zero_iff.1 (by omega)
    cases m <;> simp [splF]
  | k + 1, 0, l, _, h => by
    obtain rfl : l = [] := List.length_eq_zero_iff.1 (by omega)
    simp [splF]
  | k + 1, m + 1, [], _, _ => by simp [splF]
  | k + 1, m + 1, [_], _, _ => by simp [splF]
  | k + 1, m + 1, a :: b :: r, h1, h2 => by
    simp only [List.length_cons] at h1 h2
    rw [splF, splF]
    rw [splF_more k m (r.drop (a * 256 + b)) (by rw [List.length_drop]; omega) (by rw [List.length_drop]; omega)]
theorem spl_nil : spl [] = some [] := rfl
theorem spl_one (a : Nat) : spl [a] = none := rfl
theorem spl_two (a b : Nat) (r : List Nat) : spl (a :: b :: r) = if a * 256 + b ≤ r.length then (spl (r.drop (a * 256 + b))).map (fun l => r.take (a * 256 + b) :: l) else none := by
  unfold spl
  rw [List.length_cons, splF]
  rw [splF_more (b :: r).length (r.drop (a * 256 + b)).length (r.drop (a * 256 + b)) (by rw [List.length_drop, List.length_cons]; omega) (Nat.le_refl _)]
theorem spl_packed : ∀ (L : List (List Nat)), (∀ r ∈ L, r.length ≤ 65535) → spl (packed L) = some L
  | [], _ => rfl
  | r :: L, h => by
    have hr := h r List.mem_cons_self
    rw [packed, spl_two, show r.length / 256 * 256 + r.length % 256 = r.length by omega, if_pos (by simp), List.drop_left, List.take_left, spl_packed L (fun x hx => h x (List.mem_cons_of_mem _ hx))]
    rfl
/-- bytes as a list -/
def data (f : Nat → Int) (n : Nat) : List Nat := (List.range n).map fun i => (f i).toNat
theorem data_len (f : Nat → Int) (n : Nat) : (data f n).length = n := by simp [data]
theorem data_at (f : Nat → Int) {n i : Nat} (h : i < n) : (data f n)[i]? = some (f i).toNat := by simp [data, h]
theorem data_congr {f g : Nat → Int} {n : Nat} (h : ∀ i, i < n → f i = g i) : data f n = data g n := List.map_congr_left fun i hi => by rw [h i (List.mem_range.1 hi)]
theorem data_add (f : Nat → Int) (n m : Nat) : data f (n + m) = data f n ++ data (fun i => f (n + i)) m := by
  apply List.ext_getElem?
  intro i
  by_cases h : i < n
  · rw [data_at f (by omega), List.getElem?_append_left (by rw [data_len]; exact h), data_at f h]
  · by_cases h2 : i < n + m
    · rw [data_at f h2, List.getElem?_append_right (by rw [data_len]; omega), data_len, data_at _ (by omega), show n + (i - n) = i by omega]
    · rw [List.getElem?_eq_none (by rw [data_len]; omega), List.getElem?_eq_none (by rw [List.length_append, data_len, data_len]; omega)]
/-- a list as a row's bytes -/
def rowL (l : List Nat) (i : Nat) : Int := ((l.getD i 0 : Nat) : Int)
theorem data_rowL (l : List Nat) : data (rowL l) l.length = l := by
  apply List.ext_getElem?
  intro i
  by_cases h : i < l.length
  · rw [data_at _ h, List.getElem?_eq_getElem h]
    simp [rowL, h]
  · rw [List.getElem?_eq_none (by rw [data_len]; omega), List.getElem?_eq_none (by omega)]
theorem rowL_data (f : Nat → Int) (hf : ∀ i, 0 ≤ f i) {n i : Nat} (h : i < n) : rowL (data f n) i = f i := by
  unfold rowL
  rw [List.getD_eq_getElem?_getD, data_at f h, Option.getD_some]
  have := hf i
  omega
def Byt (l : List Nat) : Prop := ∀ b ∈ l, b < 256
theorem rowL_bd {l : List Nat} (h : Byt l) (i : Nat) : 0 ≤ rowL l i ∧ rowL l i < 256 := by
  unfold rowL
  rcases Nat.lt_or_ge i l.length with hi | hi
  · have := h l[i] (List.getElem_mem hi)
    rw [List.getD_eq_getElem?_getD, List.getElem?_eq_getElem hi, Option.getD_some]
    omega
  · rw [List.getD_eq_getElem?_getD, List.getElem?_eq_none hi]
    decide
theorem data_byt {f : Nat → Int} (hf : ∀ i, 0 ≤ f i ∧ f i < 256) (n : Nat) : Byt (data f n) := fun b hb => by
  obtain ⟨i, _, rfl⟩ := List.mem_map.1 hb
  have := hf i
  show (f i).toNat < 256
  omega

/-- a journal: its region, the head that holds, its records, whether the power left it -/
structure Jn where
  r0 : Nat
  rc : Nat
  h : Hed
  L : List (List Nat)
  dead : Bool
def half (rc : Nat) : Nat := (rc - 2) / 2
def room (rc : Nat) : Nat := half rc * 64
def start (r0 rc area : Nat) : Nat := r0 + 2 + area * half rc
def holds (S : Dsk) (r0 rc : Nat) : Hed := hold (fun i => S.read (64 * r0 + i)) (room rc)
def dat (S : Dsk) (r0 rc : Nat) : List Nat := data (fun i => S.read (64 * start r0 rc (holds S r0 rc).area + i)) (holds S r0 rc).len
/-- the journal that stands in a region -/
def opn (S : Dsk) (r0 rc : Nat) : Option Jn := (spl (dat S r0 rc)).map fun L => ⟨r0, rc, holds S r0 rc, L, false⟩
/-- a Write and a Sync -/
def last (S : Dsk) (x k : Nat) (f : Nat → Int) : Int × Dsk := if S.dead then (140, S) else if S.fuse = 0 then (140, S.killed) else (S.burnt.put x k f).syncs
def secs (n : Nat) : Nat := (n + 63) / 64
/-- bytes behind the first ones of a row -/
def rowB (old : Nat → Int) (ahead : Nat) (B : List Nat) (i : Nat) : Int := if i < ahead then old i else rowL B (i - ahead)
def putB (S : Dsk) (r0 rc area at_ : Nat) (B : List Nat) : Int × Dsk :=
  if B.length = 0 then (0, S) else if S.dead then (140, S) else last S (start r0 rc area + at_ / 64) (secs (at_ % 64 + B.length)) (rowB (fun i => S.read (64 * (start r0 rc area + at_ / 64) + i)) (at_ % 64) B)
def next (J : Jn) (area at_ : Nat) (B : List Nat) : Hed := ⟨(J.h.n + 1) % 18446744073709551616, area, at_ + B.length⟩
def put2 (J : Jn) (P : Int × Dsk) (nx : Hed) : Int × Dsk := if P.1 = 0 then last P.2 (J.r0 + nx.n % 2) 1 (hb nx) else P
def put3 (J : Jn) (P : Int × Dsk) (nx : Hed) : Int × Dsk × Jn := (P.1, P.2, if P.1 = 0 then { J with h := nx } else { J with dead := true })
/-- records made to last, and the head behind them -/
def put (J : Jn) (S : Dsk) (B : List Nat) (area at_ : Nat) : Int × Dsk × Jn := put3 J (put2 J (putB S J.r0 J.rc area at_ B) (next J area at_ B)) (next J area at_ B)
def long (l : List (List Nat)) : Bool := l.any fun r => decide (65535 < r.length)
def may (J : Jn) (l : List (List Nat)) (rm : Nat) : Int := if J.dead then 140 else if long l then 2 else if rm < (packed l).length then 3 else 0
def withL (J : Jn) (P : Int × Dsk × Jn) (L : List (List Nat)) : Int × Dsk × Jn := (P.1, P.2.1, if P.1 = 0 then { P.2.2 with L := L } else P.2.2)
def add (J : Jn) (S : Dsk) (l : List (List Nat)) : Int × Dsk × Jn :=
  if may J l (room J.rc - J.h.len) ≠ 0 then (may J l (room J.rc - J.h.len), S, J) else if l.length = 0 then (0, S, J) else withL J (put J S (packed l) J.h.area J.h.len) (J.L ++ l)
def rew (J : Jn) (S : Dsk) (l : List (List Nat)) : Int × Dsk × Jn :=
  if may J l (room J.rc) ≠ 0 then (may J l (room J.rc), S, J) else withL J (put J S (packed l) (1 - J.h.area) 0) l
end Jl
end Go.Proofs.Ytppknadflmjefaa
namespace Go.Proofs.Ytppknadflmjefaa
set_option linter.unusedVariables false
set_option linter.unusedSimpArgs false
namespace Jl

/-- the bytes of a sector, as they last -/
def sec (S : Dsk) (s i : Nat) : Int := S.last (64 * s + i)
/-- the first c bytes are y's -/
def tear (y x : Nat → Int) (c i : Nat) : Int := if i < c then y i else x i
/-- bytes that have a count at both ends -/
def Ends (y : Nat → Int) (n : Nat) : Prop := ∀ i, i < 8 → y i = ((byt n (7 - i) : Nat) : Int) ∧ y (56 + i) = ((byt n (7 - i) : Nat) : Int)
/-- no torn head of the next count is a greater one -/
def Weak (n : Nat) (x : Nat → Int) : Prop := ∀ (y : Nat → Int) (c : Nat), c ≤ 63 → Ends y (n + 1) → num (tear y x c) 8 = num (fun i => tear y x c (56 + i)) 8 → num (tear y x c) 8 ≤ n
theorem ends_hb (h : Hed) : Ends (hb h) h.n := fun i hi => by
  refine ⟨by unfold hb; rw [if_pos hi], ?_⟩
  unfold hb
  rw [if_neg (by omega), if_neg (by omega), if_neg (by omega), if_pos (by omega), show 63 - (56 + i) = 7 - i by omega]
theorem weak_of {x : Nat → Int} {n m : Nat} (hx : ∀ i, 0 ≤ x i ∧ x i < 256) (h1 : num x 8 = m) (h2 : num (fun i => x (56 + i)) 8 = m) (hm : m ≤ n) (hne : m % 256 ≠ (n + 1) % 256) (hn : n + 1 < 256 ^ 8) : Weak n x := fun y c hc hy e => by
  by_cases h8 : 8 ≤ c
  · exfalso
    have e1 : num (tear y x c) 8 = n + 1 := by
      rw [num_congr (g := fun i => ((byt (n + 1) (7 - i) : Nat) : Int)) (fun i hi => by unfold tear; rw [if_pos (by omega)]; exact (hy i hi).1), num_all (n + 1) 7 hn]
    have hl : tear y x c (56 + 7) = x 63 := by unfold tear; rw [if_neg (by omega)]
    have e2 := num_mod (f := fun i => tear y x c (56 + i)) (k := 7) (by rw [hl]; exact hx 63)
    have e3 := num_mod (f := fun i => x (56 + i)) (k := 7) (hx 63)
    rw [hl] at e2
    rw [h2] at e3
    rw [← e, e1] at e2
    exact hne (e3.trans e2.symm)
  · have e2 : num (fun i => tear y x c (56 + i)) 8 = m := by
      rw [← h2]
      exact num_congr (fun i hi => by show tear y x c (56 + i) = _; unfold tear; rw [if_neg (by omega)])
    rw [e, e2]; exact hm
theorem Weak.tear {x y0 : Nat → Int} {n c0 : Nat} (h : Weak n x) (hc0 : c0 ≤ 63) (hy0 : Ends y0 (n + 1)) : Weak n (tear y0 x c0) := fun y c hc hy e => by
  have key : ∀ i, (i < 8 ∨ 56 ≤ i ∧ i < 64) → Jl.tear y (Jl.tear y0 x c0) c i = Jl.tear y x (max c c0) i := fun i hi => by
    have hyy : y i = y0 i := by
      rcases hi with hi | hi
      · rw [(hy i hi).1, (hy0 i hi).1]
      · have a := (hy (i - 56) (by omega)).2
        have b := (hy0 (i - 56) (by omega)).2
        rw [show 56 + (i - 56) = i by omega] at a b
        rw [a, b]
    unfold Jl.tear
    by_cases h1 : i < c
    · rw [if_pos h1, if_pos (by omega)]
    · rw [if_neg h1]
      by_cases h2 : i < c0
      · rw [if_pos h2, if_pos (by omega), hyy]
      · rw [if_neg h2, if_neg (by omega)]
  have k1 : num (Jl.tear y (Jl.tear y0 x c0) c) 8 = num (Jl.tear y x (max c c0)) 8 := num_congr (fun i hi => key i (.inl hi))
  have k2 : num (fun i => Jl.tear y (Jl.tear y0 x c0) c (56 + i)) 8 = num (fun i => Jl.tear y x (max c c0) (56 + i)) 8 := num_congr (fun i hi => key (56 + i) (.inr (by omega)))
  rw [k1, k2] at e
  rw [k1]
  exact h y (max c c0) (by omega) hy e
theorem Weak.congr {x x' : Nat → Int} {n : Nat} (h : Weak n x) (e : ∀ i, i < 64 → x' i = x i) : Weak n x' := fun y c hc hy eq => by
  have key : ∀ i, i < 64 → Jl.tear y x' c i = Jl.tear y x c i := fun i hi => by unfold Jl.tear; rw [e i hi]
  have k1 : num (Jl.tear y x' c) 8 = num (Jl.tear y x c) 8 := num_congr (fun i hi => key i (by omega))
  have k2 : num (fun i => Jl.tear y x' c (56 + i)) 8 = num (fun i => Jl.tear y x c (56 + i)) 8 := num_congr (fun i hi => key (56 + i) (by omega))
  rw [k1, k2] at eq
  rw [k1]
  exact h y c hc hy eq

/-- a disk with power on which nothing waits -/
structure Calm (S : Dsk) : Prop where
  alive : S.dead = false
  none : ∀ s, S.is s = false
  lb : ∀ i, 0 ≤ S.last i ∧ S.last i < 256
  n1 : S.n ≤ 65536
theorem Calm.read {S : Dsk} (h : Calm S) (p : Nat) : S.read p = S.last p := by unfold Dsk.read; rw [h.none]; rfl
/-- what stands on a disk is a journal's -/
structure Inv (J : Jn) (S : Dsk) : Prop where
  calm : Calm S
  dead : J.dead = false
  rc4 : 4 ≤ J.rc
  inR : J.r0 + J.rc ≤ S.n
  n : J.h.n < 1000000
  area : J.h.area ≤ 1
  len : J.h.len ≤ room J.rc
  lens : ∀ r ∈ J.L, r.length ≤ 65535
  dat : data (fun i => S.last (64 * start J.r0 J.rc J.h.area + i)) J.h.len = packed J.L
  held : hed (sec S (J.r0 + J.h.n % 2)) (J.h.n % 2) (room J.rc) = J.h
  e1 : num (sec S (J.r0 + J.h.n % 2)) 8 = J.h.n
  e2 : num (fun i => sec S (J.r0 + J.h.n % 2) (56 + i)) 8 = J.h.n
  zero : J.h.n = 0 → J.h = no
  weak : Weak J.h.n (sec S (J.r0 + (J.h.n + 1) % 2))
theorem tear_zero (y x : Nat → Int) : tear y x 0 = x := funext fun i => if_neg (by omega)
theorem Weak.le {x : Nat → Int} {n : Nat} (h : Weak n x) (room odd : Nat) : (hed x odd room).n ≤ n := by
  rcases hed_n x odd room with h0 | ⟨h1, h2, _⟩
  · omega
  · have := h (hb ⟨n + 1, 0, 0⟩) 0 (by omega) (ends_hb ⟨n + 1, 0, 0⟩)
    rw [tear_zero] at this
    have := this h2
    omega
theorem Inv.holds {J : Jn} {S : Dsk} (h : Inv J S) : holds S J.r0 J.rc = J.h := by
  unfold Jl.holds
  rw [hold_congr (c := fun i => S.last (64 * J.r0 + i)) (fun i _ => h.calm.read _)]
  unfold hold
  have hs0 : (fun i => S.last (64 * J.r0 + i)) = sec S J.r0 := rfl
  have hs1 : (fun i => S.last (64 * J.r0 + (64 + i))) = sec S (J.r0 + 1) := funext fun i => by unfold sec; congr 1; omega
  show pick (pick no (hed (fun i => S.last (64 * J.r0 + i)) 0 (room J.rc))) (hed (fun i => S.last (64 * J.r0 + (64 + i))) 1 (room J.rc)) = J.h
  rw [hs0, hs1]
  have hw := h.weak
  have hh := h.held
  rcases Nat.mod_two_eq_zero_or_one J.h.n with e | e
  · rw [show (J.h.n + 1) % 2 = 1 by omega] at hw
    rw [e, Nat.add_zero] at hh
    rw [hh]
    have ho := hw.le (room J.rc) 1
    have hp : pick no J.h = J.h := by
      unfold pick
      by_cases h0 : J.h.n = 0
      · rw [if_neg (by rw [h0]; exact Nat.lt_irrefl _), h.zero h0]
      · rw [if_pos (by show 0 < J.h.n; omega)]
    rw [hp]
    exact if_neg (by omega)
  · rw [show (J.h.n + 1) % 2 = 0 by omega, Nat.add_zero] at hw
    rw [e] at hh
    rw [hh]
    have ho := hw.le (room J.rc) 0
    have hne : (hed (sec S J.r0) 0 (room J.rc)).n < J.h.n := by
      rcases hed_n (sec S J.r0) 0 (room J.rc) with h0 | ⟨h1, _, h3⟩ <;> omega
    have hp : (pick no (hed (sec S J.r0) 0 (room J.rc))).n < J.h.n := by
      unfold pick
      split
      · exact hne
      · show 0 < J.h.n; omega
    exact if_pos hp
theorem Inv.opn {J : Jn} {S : Dsk} (h : Inv J S) : opn S J.r0 J.rc = some J := by
  have hd : Jl.dat S J.r0 J.rc = packed J.L := by
    unfold Jl.dat
    rw [h.holds, ← h.dat]
    exact data_congr (fun i _ => h.calm.read _)
  unfold Jl.opn
  rw [hd, spl_packed _ h.lens, h.holds]
  have := h.dead
  cases J
  simp only at this
  subst this
  rfl
/-- nothing changed that matters -/
theorem Inv.congr {J : Jn} {S S' : Dsk} (h : Inv J S) (c : Calm S') (hn : S'.n = S.n) (hh : ∀ p, 64 * J.r0 ≤ p → p < 64 * (J.r0 + 2) → S'.last p = S.last p) (hd : ∀ i, i < J.h.len → S'.last (64 * start J.r0 J.rc J.h.area + i) = S.last (64 * start J.r0 J.rc J.h.area + i)) : Inv J S' := by
  have hs : ∀ q, q < 2 → ∀ i, i < 64 → sec S' (J.r0 + q) i = sec S (J.r0 + q) i := fun q hq i hi => hh _ (by omega) (by omega)
  have m1 : J.h.n % 2 < 2 := Nat.mod_lt _ (by decide)
  have m2 : (J.h.n + 1) % 2 < 2 := Nat.mod_lt _ (by decide)
  refine ⟨c, h.dead, h.rc4, by rw [hn]; exact h.inR, h.n, h.area, h.len, h.lens, ?_, ?_, ?_, ?_, h.zero, ?_⟩
  · refine Eq.trans ?_ h.dat; exact data_congr hd
  · refine Eq.trans ?_ h.held; exact hed_congr (hs _ m1)
  · refine Eq.trans ?_ h.e1; exact num_congr (fun i hi => hs _ m1 i (by omega))
  · refine Eq.trans ?_ h.e2; exact num_congr (fun i hi => hs _ m1 (56 + i) (by omega))
  · exact h.weak.congr (hs _ m2)
/-- the head is torn -/
theorem Inv.torn {J : Jn} {S S' : Dsk} (h : Inv J S) (c : Calm S') (hn : S'.n = S.n) (y : Nat → Int) (hy : Ends y (J.h.n + 1)) (k : Nat) (hk : k ≤ 63)
    (hx : ∀ i, i < 64 → sec S' (J.r0 + (J.h.n + 1) % 2) i = tear y (sec S (J.r0 + (J.h.n + 1) % 2)) k i) (hh : ∀ i, i < 64 → sec S' (J.r0 + J.h.n % 2) i = sec S (J.r0 + J.h.n % 2) i) (hd : ∀ i, i < J.h.len → S'.last (64 * start J.r0 J.rc J.h.area + i) = S.last (64 * start J.r0 J.rc J.h.area + i)) : Inv J S' := by
  refine ⟨c, h.dead, h.rc4, by rw [hn]; exact h.inR, h.n, h.area, h.len, h.lens, ?_, ?_, ?_, ?_, h.zero, ?_⟩
  · refine Eq.trans ?_ h.dat; exact data_congr hd
  · refine Eq.trans ?_ h.held; exact hed_congr hh
  · refine Eq.trans ?_ h.e1; exact num_congr (fun i hi => hh i (by omega))
  · refine Eq.trans ?_ h.e2; exact num_congr (fun i hi => hh (56 + i) (by omega))
  · exact (h.weak.tear hk hy).congr hx
/-- the head is written -/
theorem Inv.nexts {J : Jn} {S S' : Dsk} (h : Inv J S) (c : Calm S') (hn : S'.n = S.n) (nx : Hed) (L' : List (List Nat)) (e : nx.n = J.h.n + 1) (hb' : J.h.n + 1 < 1000000) (ha : nx.area ≤ 1) (hl : nx.len ≤ room J.rc) (hL : ∀ r ∈ L', r.length ≤ 65535)
    (hx : ∀ i, i < 64 → sec S' (J.r0 + (J.h.n + 1) % 2) i = hb nx i) (hh : ∀ i, i < 64 → sec S' (J.r0 + J.h.n % 2) i = sec S (J.r0 + J.h.n % 2) i) (hd : data (fun i => S'.last (64 * start J.r0 J.rc nx.area + i)) nx.len = packed L') : Inv ⟨J.r0, J.rc, nx, L', false⟩ S' := by
  have hrc : J.rc ≤ 65536 := by have := h.inR; have := h.calm.n1; omega
  have hroom : room J.rc < 256 ^ 4 := by unfold room half; omega
  have en := ends_hb nx
  have m2 : (J.h.n + 1 + 1) % 2 = J.h.n % 2 := by omega
  refine ⟨c, rfl, h.rc4, by rw [hn]; exact h.inR, by show nx.n < _; omega, ha, hl, hL, hd, ?_, ?_, ?_, fun e0 => ?_, ?_⟩
  · show hed (sec S' (J.r0 + nx.n % 2)) (nx.n % 2) (room J.rc) = nx
    rw [e, hed_congr hx]
    exact hed_hb (by omega) (by rw [e]) ha hl (by omega)
  · show num (sec S' (J.r0 + nx.n % 2)) 8 = nx.n
    rw [e, num_congr (g := fun i => ((byt nx.n (7 - i) : Nat) : Int)) (fun i hi => (hx i (by omega)).trans (en i hi).1), num_all nx.n 7 (by omega), e]
  · show num (fun i => sec S' (J.r0 + nx.n % 2) (56 + i)) 8 = nx.n
    rw [e, num_congr (g := fun i => ((byt nx.n (7 - i) : Nat) : Int)) (fun i hi => (hx (56 + i) (by omega)).trans (en i hi).2), num_all nx.n 7 (by omega), e]
  · exfalso
    have : nx.n = 0 := e0
    omega
  · show Weak nx.n (sec S' (J.r0 + (nx.n + 1) % 2))
    rw [e, m2]
    refine weak_of (m := J.h.n) (fun i => c.lb _) ?_ ?_ (by omega) (by omega) (by omega)
    · refine Eq.trans ?_ h.e1; exact num_congr (fun i hi => hh i (by omega))
    · refine Eq.trans ?_ h.e2; exact num_congr (fun i hi => hh (56 + i) (by omega))

/-- what a Write and a Sync make of a calm disk: done, or cut, and then some first bytes of each sector at the restart -/
structure Done (S S' : Dsk) (x k : Nat) (f : Nat → Int) : Prop where
  calm : Calm S'
  n : S'.n = S.n
  last : ∀ p, S'.last p = if x ≤ p / 64 ∧ p / 64 < x + k then f (p - 64 * x) else S.last p
structure Cut (S S' : Dsk) (x k : Nat) (f : Nat → Int) : Prop where
  dead : S'.dead = true
  n : S'.n = S.n
  back : ∀ K m, Calm (S'.again K m) ∧ ∃ C : Nat → Nat, (∀ s, C s ≤ 64) ∧ ∀ p, (S'.again K m).last p = if (x ≤ p / 64 ∧ p / 64 < x + k) ∧ p % 64 < C (p / 64) then f (p - 64 * x) else S.last p
theorem last_cases {S : Dsk} (h : Calm S) (x k : Nat) (f : Nat → Int) (hf : ∀ i, 0 ≤ f i ∧ f i < 256) :
    ((last S x k f).1 = 0 ∧ Done S (last S x k f).2 x k f ∧ (S.fuse = -1 → (last S x k f).2.fuse = -1)) ∨ ((last S x k f).1 = 140 ∧ S.fuse ≠ -1 ∧ Cut S (last S x k f).2 x k f) := by
  have bdc : ∀ (c : Prop) [Decidable c] (a b : Int), (0 ≤ a ∧ a < 256) → (0 ≤ b ∧ b < 256) → 0 ≤ (if c then a else b) ∧ (if c then a else b) < 256 := fun c _ a b ha hb => by split; exact ha; exact hb
  unfold last
  rw [h.alive, if_neg (by decide)]
  by_cases hf0 : S.fuse = 0
  · rw [if_pos hf0]
    refine .inr ⟨rfl, by omega, ⟨rfl, rfl, fun K m => ?_⟩⟩
    have e : ∀ p, (S.killed.again K m).last p = S.last p := fun p => by
      exact if_neg (fun c => by have c1 : S.is (p / 64) = true := c.1; rw [h.none] at c1; cases c1)
    exact ⟨⟨rfl, fun _ => rfl, fun i => by rw [e]; exact h.lb i, h.n1⟩, fun _ => 0, fun _ => Nat.zero_le _, fun p => by rw [e, if_neg (fun c => absurd c.2 (Nat.not_lt_zero _))]⟩
  · rw [if_neg hf0]
    obtain ⟨S1, hS1⟩ : ∃ S1, S.burnt.put x k f = S1 := ⟨_, rfl⟩
    have h1d : S1.dead = false := by rw [← hS1]; exact h.alive
    have h1n : S1.n = S.n := by rw [← hS1]; rfl
    have h1i : ∀ s, S1.is s = if x ≤ s ∧ s < x + k then true else false := fun s => by
      rw [← hS1]
      show (if x ≤ s ∧ s < x + k then true else S.is s) = _
      rw [h.none]
    have h1w : ∀ p, x ≤ p / 64 ∧ p / 64 < x + k → S1.wait p = f (p - 64 * x) := fun p hp => by
      rw [← hS1]
      show (if 64 * x ≤ p ∧ p < 64 * (x + k) then f (p - 64 * x) else S.wait p) = _
      rw [if_pos (by omega)]
    have h1l : ∀ p, S1.last p = S.last p := fun p => by rw [← hS1]; rfl
    have h1f : S1.fuse = max (S.fuse - 1) (-1) := by rw [← hS1]; rfl
    rw [hS1]
    unfold Dsk.syncs
    rw [h1d, if_neg (by decide)]
    by_cases hf1 : S1.fuse = 0
    · rw [if_pos hf1]
      refine .inr ⟨rfl, by omega, ⟨rfl, h1n, fun K m => ?_⟩⟩
      have e : ∀ p, (S1.killed.again K m).last p = if (x ≤ p / 64 ∧ p / 64 < x + k) ∧ p % 64 < Dsk.kept K m (Dsk.cnt S1.is (p / 64)) then f (p - 64 * x) else S.last p := fun p => by
        show (if S1.is (p / 64) = true ∧ p % 64 < Dsk.kept K m (Dsk.cnt S1.is (p / 64)) then S1.wait p else S1.last p) = _
        rw [h1i, h1l]
        by_cases hp : x ≤ p / 64 ∧ p / 64 < x + k
        · rw [if_pos hp]
          by_cases hq : p % 64 < Dsk.kept K m (Dsk.cnt S1.is (p / 64))
          · rw [if_pos ⟨rfl, hq⟩, if_pos ⟨hp, hq⟩, h1w p hp]
          · rw [if_neg (fun c => hq c.2), if_neg (fun c => hq c.2)]
        · rw [if_neg hp, if_neg (fun c => by cases c.1), if_neg (fun c => hp c.1)]
      exact ⟨⟨rfl, fun _ => rfl, fun i => by rw [e]; exact bdc _ _ _ (hf _) (h.lb _), by show S1.n ≤ _; rw [h1n]; exact h.n1⟩, fun s => Dsk.kept K m (Dsk.cnt S1.is s), fun s => Dsk.kept_le _ _ _, e⟩
    · rw [if_neg hf1]
      have e : ∀ p, S1.burnt.synced.last p = if x ≤ p / 64 ∧ p / 64 < x + k then f (p - 64 * x) else S.last p := fun p => by
        show (if S1.is (p / 64) then S1.wait p else S1.last p) = _
        rw [h1i, h1l]
        by_cases hp : x ≤ p / 64 ∧ p / 64 < x + k
        · rw [if_pos hp, if_pos rfl, if_pos hp, h1w p hp]
        · rw [if_neg hp, if_neg (by decide), if_neg hp]
      refine .inl ⟨rfl, ⟨⟨h1d, fun _ => rfl, fun i => by rw [e]; exact bdc _ _ _ (hf _) (h.lb _), by show S1.n ≤ _; rw [h1n]; exact h.n1⟩, h1n, e⟩, fun e0 => ?_⟩
      show max (S1.fuse - 1) (-1) = -1
      rw [h1f, e0]; decide
end Jl
end Go.Proofs.Ytppknadflmjefaa
namespace Go.Proofs.Ytppknadflmjefaa
open Go.RowKit Go.Deep Go.Maps
set_option linter.unusedVariables false
set_option linter.unusedSimpArgs false

theorem shl_or15 {n c : Nat} (hn : n * 256 + c < 18446744073709551616) (hc : c < 256) : bits .or .u64 (IntKind.u64.wrap ((n : Int) * 256)) (c : Int) = ((n * 256 + c : Nat) : Int) := by
  have e : IntKind.u64.wrap ((n : Int) * 256) = ((n * 256 : Nat) : Int) := by
    rw [IntKind.wrap_u64, Int.emod_eq_of_lt (by omega) (by omega)]; simp
  rw [e, u64_or_nat (n * 256) c (Nat.lt_of_le_of_lt (Nat.le_add_right _ _) hn) (Nat.lt_trans hc (by decide))]
  congr 1
  have h := Nat.shiftLeft_add_eq_or_of_lt (i := 8) (b := c) (by omega) n
  rw [Nat.shiftLeft_eq] at h
  exact h.symm
theorem num_or15 {f : Nat → Int} (hf : ∀ i, 0 ≤ f i ∧ f i < 256) {k : Nat} (hk : k < 8) : bits .or .u64 (IntKind.u64.wrap ((Jl.num f k : Int) * 256)) (f k) = ((Jl.num f (k + 1) : Nat) : Int) := by
  have h1 := hf k
  have h2 := Jl.num_lt hf (k + 1)
  have h3 : 256 ^ (k + 1) ≤ 256 ^ 8 := Nat.pow_le_pow_right (by decide) (by omega)
  have h4 : (256 : Nat) ^ 8 = 18446744073709551616 := by decide
  rw [Jl.num] at h2
  have := shl_or15 (n := Jl.num f k) (c := (f k).toNat) (by omega) (by omega)
  rw [show (((f k).toNat : Nat) : Int) = f k by omega] at this
  rw [this, Jl.num]
theorem num_lt15 {f : Nat → Int} (hf : ∀ i, 0 ≤ f i ∧ f i < 256) {k : Nat} (hk : k ≤ 8) : Jl.num f k < 18446744073709551616 := by
  have h2 := Jl.num_lt hf k
  have h3 : 256 ^ k ≤ 256 ^ 8 := Nat.pow_le_pow_right (by decide) (by omega)
  have h4 : (256 : Nat) ^ 8 = 18446744073709551616 := by decide
  omega
theorem jnumber_any (A : Option Addr) (L ca : Nat) (f : Nat → Int) (hL : L ≤ 8) (w : World) (hrow : RowAt w A L f) :
    Calls Try.prog 82 #[.slice A L ca] w fun e w' => e = .returned (.int .u64 (Jl.num f L : Nat)) ∧ w' = w := by
  go_enter Try.func82, Try.ntmps82
  go_wp2
  go_loop [3, 8] (fun r i => ∃ k : Nat, k ≤ L ∧ i = .int .i64 k ∧ r = .int .u64 (Jl.num f k : Nat)) (fun _ i => L - (intOf i).toNat)
  case atStart => exact ⟨0, Nat.zero_le _, rfl, rfl⟩
  case round =>
    obtain ⟨k, hk, rfl, rfl⟩ := hrel
    by_cases hlt : k < L
    · obtain ⟨b1, o1, rfl, hc1⟩ := hrow.at hlt
      have h1 := hc1 k hlt
      have h2 := hrow.2 k
      have h2a := h2.1
      have h2b := h2.2
      have h3 := num_lt15 hrow.2 (k := k) (by omega)
      have h7 := num_or15 (k := k) hrow.2 (by omega)
      clear hc1
      go_wp2
      go_round
      case rel => exact ⟨k + 1, by omega, by go_num, by rw [← h7]⟩
      case measure => simp [intOf]; omega
    · have ek : k = L := by omega
      subst ek
      go_wp2
      go_ret
      exact ⟨rfl, rfl⟩
theorem rjnumber_any (A : Option Addr) (L ca : Nat) (f : Nat → Int) (hL : L ≤ 8) (w : World) (hrow : RowAt w A L f) :
    Calls Try.prog 76 #[.slice A L ca] w fun e w' => e = .returned (.int .u64 (Jl.num f L : Nat)) ∧ w' = w := by
  go_enter Try.func76, Try.ntmps76
  go_wp2
  go_loop [3, 4] (fun r i => ∃ k : Nat, k ≤ L ∧ i = .int .i64 k ∧ r = .int .u64 (Jl.num f k : Nat)) (fun _ i => L - (intOf i).toNat)
  case atStart => exact ⟨0, Nat.zero_le _, rfl, rfl⟩
  case round =>
    obtain ⟨k, hk, rfl, rfl⟩ := hrel
    by_cases hlt : k < L
    · obtain ⟨b1, o1, rfl, hc1⟩ := hrow.at hlt
      have h1 := hc1 k hlt
      have h2 := hrow.2 k
      have h2a := h2.1
      have h2b := h2.2
      have h3 := num_lt15 hrow.2 (k := k) (by omega)
      have h7 := num_or15 (k := k) hrow.2 (by omega)
      clear hc1
      go_wp2
      go_round
      case rel => exact ⟨k + 1, by omega, by go_num, by rw [← h7]⟩
      case measure => simp [intOf]; omega
    · have ek : k = L := by omega
      subst ek
      go_wp2
      go_ret
      exact ⟨rfl, rfl⟩
theorem keep_two15 {w2 u v : World} {g : Nat} {a b : Value} (h : u.cell? ⟨g, 0, none⟩ = some a ∧ u.cell? ⟨g, 1, none⟩ = some b ∧ Bw w2 u) (k : Bw u v) : v.cell? ⟨g, 0, none⟩ = some a ∧ v.cell? ⟨g, 1, none⟩ = some b ∧ Bw w2 v :=
  ⟨(k.cell (p := ⟨g, 0, none⟩) (block_lt_of_cell h.1)).trans h.1, (k.cell (p := ⟨g, 1, none⟩) (block_lt_of_cell h.2.1)).trans h.2.1, h.2.2.trans k⟩
theorem areaof_any (x : Int) (rc : Nat) (h0 : 4 ≤ rc) (h1 : rc ≤ 65536) (w : World) :
    Calls Try.prog 75 #[.agg #[.int .i64 x, .int .i64 (rc : Int)]] w fun e w' => e = .returned (.int .i64 ((Jl.half rc : Nat) : Int)) ∧ Bw w w' := by
  have e1 : ((rc : Int) - 2) / 2 = ((Jl.half rc : Nat) : Int) := by unfold Jl.half; omega
  go_enter Try.func75, Try.ntmps75
  go_wp2
  go_ret
  exact ⟨ret_int e1, Below.alloc (Bw.refl _) (Nat.le_refl _) _⟩
theorem half_le (rc : Nat) (h1 : rc ≤ 65536) : Jl.half rc ≤ 32767 := by unfold Jl.half; omega
theorem roomof_any (x : Int) (rc : Nat) (h0 : 4 ≤ rc) (h1 : rc ≤ 65536) (w : World) :
    Calls Try.prog 54 #[.agg #[.int .i64 x, .int .i64 (rc : Int)]] w fun e w' => e = .returned (.int .i64 ((Jl.room rc : Nat) : Int)) ∧ Bw w w' := by
  have e1 : ((Jl.half rc : Nat) : Int) * 64 = ((Jl.room rc : Nat) : Int) := by unfold Jl.room; omega
  have hl := half_le rc h1
  have hb : Bw w (w.alloc (.cells #[.int .i64 x, .int .i64 (rc : Int)] 23)) := Below.alloc (Bw.refl _) (Nat.le_refl _) _
  go_enter Try.func54, Try.ntmps54
  go_wp2_with (go_at_call 75; refine (areaof_any x rc h0 h1 _).mono ?_; rintro e w1 ⟨rfl, hb1⟩)
  go_ret
  exact ⟨ret_int e1, hb.trans hb1⟩
theorem startof_any (r0 rc area : Nat) (h0 : 4 ≤ rc) (h1 : rc ≤ 65536) (h2 : r0 ≤ 65536) (ha : area ≤ 1) (w : World) :
    Calls Try.prog 66 #[.agg #[.int .i64 (r0 : Int), .int .i64 (rc : Int)], .int .i64 (area : Int)] w fun e w' => e = .returned (.int .i64 ((Jl.start r0 rc area : Nat) : Int)) ∧ Bw w w' := by
  have hl := half_le rc h1
  have e1 : (r0 : Int) + 2 + (area : Int) * ((Jl.half rc : Nat) : Int) = ((Jl.start r0 rc area : Nat) : Int) := by unfold Jl.start; rcases Nat.le_one_iff_eq_zero_or_eq_one.1 ha with rfl | rfl <;> simp
  obtain ⟨p, hp⟩ : ∃ p : Nat, area * Jl.half rc = p := ⟨_, rfl⟩
  have hp' : (area : Int) * ((Jl.half rc : Nat) : Int) = (p : Int) := by rw [← hp]; simp
  have hpb : p ≤ 32767 := by rw [← hp]; rcases Nat.le_one_iff_eq_zero_or_eq_one.1 ha with rfl | rfl <;> omega
  have hb : Bw w (w.alloc (.cells #[.int .i64 (r0 : Int), .int .i64 (rc : Int)] 23)) := Below.alloc (Bw.refl _) (Nat.le_refl _) _
  rw [hp'] at e1
  clear hp
  obtain ⟨z, hz⟩ : ∃ z, Hid (w.heap.size = z) := ⟨_, rfl⟩
  have c0 : (w.alloc (.cells #[.int .i64 (r0 : Int), .int .i64 (rc : Int)] 23)).cell? ⟨z, 0, none⟩ = some (.int .i64 (r0 : Int)) := by rw [← hz.out]; exact cell_of_row _ _ 0 _ _ _ (heap_alloc_new _ _)
  have c1 : (w.alloc (.cells #[.int .i64 (r0 : Int), .int .i64 (rc : Int)] 23)).cell? ⟨z, 1, none⟩ = some (.int .i64 (rc : Int)) := by rw [← hz.out]; exact cell_of_row _ _ 1 _ _ _ (heap_alloc_new _ _)
  obtain ⟨W1, hW1⟩ : ∃ W, Hid (w.alloc (.cells #[.int .i64 (r0 : Int), .int .i64 (rc : Int)] 23) = W) := ⟨_, rfl⟩
  rw [hW1.out] at c0 c1 hb
  go_enter Try.func66, Try.ntmps66
  go_wp2_with (rw [hW1.out, hz.out])
  go_region_held3 (fun w' => w'.cell? ⟨z, 0, none⟩ = some (.int .i64 (r0 : Int)) ∧ w'.cell? ⟨z, 1, none⟩ = some (.int .i64 (rc : Int)) ∧ Bw W1 w')
    (first | exact ⟨c0, c1, Below.drew (Bw.refl _)⟩ | assumption | (exact keep_two15 (by assumption) (by assumption)))
    (first | (go_at_call 75; refine (areaof_any _ rc h0 h1 _).mono ?_; rintro e w3 ⟨rfl, hw3⟩))
  rename_i hSe
  have hw4 := hSe.2.2
  go_wp2
  go_ret
  exact ⟨ret_int (by simp only [IntKind.wrap_i64]; omega), hb.trans hw4⟩
theorem jsectors_any (n : Nat) (h : n ≤ 1099511627776) (w : World) :
    Calls Try.prog 67 #[.int .i64 (n : Int)] w fun e w' => e = .returned (.int .i64 ((Jl.secs n : Nat) : Int)) ∧ w' = w := by
  have e1 : ((n : Int) + 64 - 1) / 64 = ((Jl.secs n : Nat) : Int) := by unfold Jl.secs; omega
  go_enter Try.func67, Try.ntmps67
  go_wp2
  go_ret
  exact ⟨ret_int e1, rfl⟩
end Go.Proofs.Ytppknadflmjefaa
namespace Go.Proofs.Ytppknadflmjefaa
open Go.RowKit Go.Deep Go.Maps
set_option linter.unusedVariables false
set_option linter.unusedSimpArgs false

theorem byt_zero (n : Nat) : Jl.byt n 0 = n % 256 := by unfold Jl.byt; rw [Nat.pow_zero, Nat.div_one]
set_option maxRecDepth 100000 in
theorem jlay_any (g o N L ca : Nat) (F : Nat → Int) (n : Nat) (hL : L ≤ 8) (hN : o + L ≤ N) (hn : n < 18446744073709551616) (w : World) (hB : BlockIs w g N F) :
    Calls Try.prog 84 #[.slice (some ⟨g, o, none⟩) L ca, .int .u64 (n : Int)] w fun e w' => e = .returned (.tuple #[]) ∧ BlockIs w' g N (cpyF F o L (fun i => ((Jl.byt n (L - 1 - i) : Nat) : Int))) ∧ Bx (· = g) w w' := by
  go_enter Try.func84, Try.ntmps84
  go_wp2
  go_loopw [1, 7] (fun v i wr => ∃ k m : Nat, k ≤ L ∧ i = .int .i64 k ∧ v = .int .u64 (m : Int) ∧ Hid (m = n / 256 ^ k) ∧ BlockIs wr g N (fun c => if o + L - k ≤ c ∧ c < o + L then ((Jl.byt n (o + L - 1 - c) : Nat) : Int) else F c) ∧ Bx (· = g) w wr) (fun _ i _ => L - (intOf i).toNat)
  case atStart => exact ⟨0, n, Nat.zero_le _, rfl, rfl, (by rw [Nat.pow_zero, Nat.div_one] : n = n / 256 ^ 0), hB.congr (fun c _ => if_neg (by omega)), Bx.refl _ _⟩
  case round =>
    obtain ⟨k, m, hk, rfl, rfl, hm, hb, hx⟩ := hrel
    by_cases hlt : k < L
    · have m0 : m < 18446744073709551616 := by rw [hm.out]; exact Nat.lt_of_le_of_lt (Nat.div_le_self _ _) hn
      obtain ⟨q, hq⟩ : ∃ q, Hid (q + k + 1 = L) := ⟨L - 1 - k, by show L - 1 - k + k + 1 = L; omega⟩
      have eq : (L : Int) - 1 - (k : Int) = (q : Int) := by have := hq.out; omega
      have q0 : (q : Int) < (L : Int) := by have := hq.out; omega
      have q1 : (0 : Int) ≤ (q : Int) := Int.natCast_nonneg _
      obtain ⟨l1, l2⟩ := hb.cell (c := o + q) (by have := hq.out; omega)
      have hb2 : BlockIs (wr.setCell ⟨g, o + q, none⟩ (.int .u8 ((m : Int) % 256))) g N (fun c => if o + L - (k + 1) ≤ c ∧ c < o + L then ((Jl.byt n (o + L - 1 - c) : Nat) : Int) else F c) := by
        have := hq.out
        refine hb.set (by omega) ?_ (fun c hc hne => ?_)
        · show (if o + L - (k + 1) ≤ o + q ∧ o + q < o + L then ((Jl.byt n (o + L - 1 - (o + q)) : Nat) : Int) else F (o + q)) = _
          rw [if_pos (by omega), show o + L - 1 - (o + q) = k by omega, hm.out]
          unfold Jl.byt
          omega
        · show (if o + L - (k + 1) ≤ c ∧ c < o + L then ((Jl.byt n (o + L - 1 - c) : Nat) : Int) else F c) = if o + L - k ≤ c ∧ c < o + L then ((Jl.byt n (o + L - 1 - c) : Nat) : Int) else F c
          by_cases e : o + L - k ≤ c ∧ c < o + L
          · rw [if_pos e, if_pos (by omega)]
          · rw [if_neg e, if_neg (by omega)]
      have hx2 : Bx (· = g) w (wr.setCell ⟨g, o + q, none⟩ (.int .u8 ((m : Int) % 256))) := hx.put rfl
      clear hb hx hB
      go_wp2
      go_roundw
      case rel => exact ⟨k + 1, m / 256, by omega, by go_num, by simp, (by rw [hm.out, Nat.div_div_eq_div_mul, ← Nat.pow_succ] : m / 256 = n / 256 ^ (k + 1)), hb2, hx2⟩
      case measure => simp [intOf]; omega
    · have ek : k = L := by omega
      subst ek
      go_wp2
      go_end0
      refine ⟨rfl, hb.congr (fun c hc => ?_), hx⟩
      unfold cpyF
      by_cases e : o ≤ c ∧ c < o + k
      · rw [if_pos e, if_pos (by omega)]
        show ((Jl.byt n (k - 1 - (c - o)) : Nat) : Int) = _
        rw [show k - 1 - (c - o) = o + k - 1 - c by omega]
      · rw [if_neg e, if_neg (by omega)]
theorem isthere_any (x y : Int) (n : Nat) (hn : n ≤ 65536) (bx : x < 9223372036854775808) (w : World) :
    Calls Try.prog 48 #[.agg #[.int .i64 x, .int .i64 y], .int .i64 (n : Int)] w fun e w' => e = .returned (.bool (decide (0 ≤ x ∧ y ≤ (n : Int) - x))) ∧ Bw w w' := by
  have hb : Bw w (w.alloc (.cells #[.int .i64 x, .int .i64 y] 23)) := Below.alloc (Bw.refl _) (Nat.le_refl _) _
  by_cases h1 : 0 ≤ x
  · by_cases h2 : y ≤ (n : Int) - x
    · rw [decide_eq_true (⟨h1, h2⟩ : 0 ≤ x ∧ y ≤ (n : Int) - x)]
      go_enter Try.func48, Try.ntmps48
      go_wp2
      go_ret
      exact ⟨rfl, hb⟩
    · rw [decide_eq_false (fun c : 0 ≤ x ∧ y ≤ (n : Int) - x => h2 c.2)]
      go_enter Try.func48, Try.ntmps48
      go_wp2
      go_ret
      exact ⟨rfl, hb⟩
  · rw [decide_eq_false (fun c : 0 ≤ x ∧ y ≤ (n : Int) - x => h1 c.1)]
    go_enter Try.func48, Try.ntmps48
    go_wp2
    go_ret
    exact ⟨rfl, hb⟩
/-- a head's three cells -/
def hcell (h : Jl.Hed) : Array Value := #[.int .u64 (h.n : Int), .int .i64 (h.area : Int), .int .i64 (h.len : Int)]
theorem hb_laid (h : Jl.Hed) (ha : h.area ≤ 1) (hl : h.len ≤ 4294967295) (c : Nat) (hc : c < 64) (G : Nat → Int) (hG : ∀ c, G c = if c = 8 then (h.area : Int) else cpyF (fun _ => 0) 0 8 (fun i => ((Jl.byt h.n (8 - 1 - i) : Nat) : Int)) c) :
    Jl.hb h c = cpyF (cpyF G 9 4 (fun i => ((Jl.byt h.len (4 - 1 - i) : Nat) : Int))) 56 8 (fun i => ((Jl.byt h.n (8 - 1 - i) : Nat) : Int)) c := by
  unfold Jl.hb
  by_cases h1 : c < 8
  · rw [if_pos h1]
    unfold cpyF
    rw [if_neg (by omega), if_neg (by omega), hG, if_neg (by omega)]
    unfold cpyF
    rw [if_pos (by omega)]
    show _ = ((Jl.byt h.n (8 - 1 - (c - 0)) : Nat) : Int)
    rw [show 8 - 1 - (c - 0) = 7 - c by omega]
  · rw [if_neg h1]
    by_cases h2 : c = 8
    · subst h2
      unfold cpyF
      rw [if_pos rfl, if_neg (by omega), if_neg (by omega), hG, if_pos rfl, Nat.mod_eq_of_lt (by omega)]
    · rw [if_neg h2]
      by_cases h3 : c < 13
      · unfold cpyF
        rw [if_pos h3, if_neg (by omega), if_pos (by omega)]
        show _ = ((Jl.byt h.len (4 - 1 - (c - 9)) : Nat) : Int)
        rw [show 4 - 1 - (c - 9) = 12 - c by omega]
      · rw [if_neg h3]
        by_cases h4 : 56 ≤ c ∧ c < 64
        · unfold cpyF
          rw [if_pos h4, if_pos (by omega)]
          show _ = ((Jl.byt h.n (8 - 1 - (c - 56)) : Nat) : Int)
          rw [show 8 - 1 - (c - 56) = 63 - c by omega]
        · unfold cpyF
          rw [if_neg h4, if_neg (by omega), if_neg (by omega), hG, if_neg h2]
          unfold cpyF
          rw [if_neg (by omega)]
set_option maxRecDepth 100000 in
theorem jsector_any (h : Jl.Hed) (h1 : h.n < 18446744073709551616) (h2 : h.area ≤ 1) (h3 : h.len ≤ 4294967295) (w : World) :
    Calls Try.prog 74 #[.agg (hcell h)] w fun e w' => ∃ b, e = .returned (.slice (some ⟨b, 0, none⟩) 64 64) ∧ w.heap.size ≤ b ∧ BlockIs w' b 64 (Jl.hb h) ∧ Bw w w' := by
  unfold hcell
  obtain ⟨M, hM, hM0, hmk⟩ := made_bytes 64 (by omega)
  replace hmk : ∀ w, (Instr.makeSlice 37 (.int .i64 64) (.int .i64 64)).run Try.prog w = .ok (.slice (some ⟨w.heap.size, 0, none⟩) 64 64) (w.alloc (.cells M 5)) := hmk
  obtain ⟨z, hz⟩ : ∃ z, Hid (w.heap.size = z) := ⟨_, rfl⟩
  obtain ⟨W2, hW2⟩ : ∃ W, Hid ((w.alloc (.cells #[.int .u64 (h.n : Int), .int .i64 (h.area : Int), .int .i64 (h.len : Int)] 85)).alloc (.cells M 5) = W) := ⟨_, rfl⟩
  have hg0 : W2.heap[z]? = some (.cells #[.int .u64 (h.n : Int), .int .i64 (h.area : Int), .int .i64 (h.len : Int)] 85 (0, 0)) := by rw [← hW2.out, ← hz.out]; exact heap_alloc2_old _ _ _
  have hB : BlockIs W2 (z + 1) 64 (fun _ => 0) := by
    rw [← hW2.out, ← hz.out]
    exact ⟨M, heap_alloc2_new _ _ _, hM, hM0⟩
  have hbw : Bw w W2 := by
    rw [← hW2.out]
    exact Below.alloc (Below.alloc (Bw.refl _) (Nat.le_refl _) _) (by rw [size_alloc]; omega) _
  have HC : Hid (∀ W, Bx (· = z + 1) W2 W → W.cell? ⟨z, 0, none⟩ = some (.int .u64 (h.n : Int)) ∧ W.cell? ⟨z, 1, none⟩ = some (.int .i64 (h.area : Int)) ∧ W.cell? ⟨z, 2, none⟩ = some (.int .i64 (h.len : Int))) := fun W k => by
    have hg := (k.block z (Array.getElem?_eq_some_iff.1 hg0).1 (by omega)).trans hg0
    exact ⟨cell_of_row W z 0 _ _ _ hg, cell_of_row W z 1 _ _ _ hg, cell_of_row W z 2 _ _ _ hg⟩
  obtain ⟨c0, c1, c2⟩ := HC.out W2 (Bx.refl _ _)
  obtain ⟨n, hn⟩ : ∃ n, Hid (h.n = n) := ⟨_, rfl⟩
  obtain ⟨ar, har⟩ : ∃ n, Hid (h.area = n) := ⟨_, rfl⟩
  obtain ⟨le, hle⟩ : ∃ n, Hid (h.len = n) := ⟨_, rfl⟩
  have HL1 := jlay_any (z + 1) 0 64 8 64 (fun _ => 0) n (by omega) (by omega) (by rw [← hn.out]; exact h1) W2.drew (hB.keep ((Bw.refl _).drew))
  have HL2 : Hid (∀ W F, BlockIs W (z + 1) 64 F → Calls Try.prog 84 #[.slice (some ⟨z + 1, 9, none⟩) 4 55, .int .u64 (le : Int)] W fun e w' => e = .returned (.tuple #[]) ∧ BlockIs w' (z + 1) 64 (cpyF F 9 4 (fun i => ((Jl.byt le (4 - 1 - i) : Nat) : Int))) ∧ Bx (· = z + 1) W w') := fun W F hb => jlay_any (z + 1) 9 64 4 55 F le (by omega) (by omega) (by rw [← hle.out]; omega) W hb
  have HL3 : Hid (∀ W F, BlockIs W (z + 1) 64 F → Calls Try.prog 84 #[.slice (some ⟨z + 1, 56, none⟩) 8 8, .int .u64 (n : Int)] W fun e w' => e = .returned (.tuple #[]) ∧ BlockIs w' (z + 1) 64 (cpyF F 56 8 (fun i => ((Jl.byt n (8 - 1 - i) : Nat) : Int))) ∧ Bx (· = z + 1) W w') := fun W F hb => jlay_any (z + 1) 56 64 8 8 F n (by omega) (by omega) (by rw [← hn.out]; exact h1) W hb
  have HE : Hid (∀ c, c < 64 → ∀ G : Nat → Int, (∀ c, G c = if c = 8 then (ar : Int) else cpyF (fun _ => 0) 0 8 (fun i => ((Jl.byt n (8 - 1 - i) : Nat) : Int)) c) → Jl.hb h c = cpyF (cpyF G 9 4 (fun i => ((Jl.byt le (4 - 1 - i) : Nat) : Int))) 56 8 (fun i => ((Jl.byt n (8 - 1 - i) : Nat) : Int)) c) := fun c hc G hG => by
    rw [← hn.out, ← har.out, ← hle.out] at *
    exact hb_laid h h2 h3 c hc G hG
  have Hz : Hid (w.heap.size ≤ z + 1) := by rw [hz.out]; exact Nat.le_succ z
  have a1 : ar ≤ 1 := by rw [← har.out]; exact h2
  have l1 : le ≤ 4294967295 := by rw [← hle.out]; exact h3
  rw [hn.out] at c0
  rw [har.out] at c1
  rw [hle.out] at c2
  rw [hn.out, har.out, hle.out] at HC
  clear hM hM0 hg0 h1 h2 h3
  go_enter Try.func74, Try.ntmps74
  go_wp2_with (rw [hW2.out, hz.out])
  go_region_held3 (fun w' => w'.cell? ⟨z, 0, none⟩ = some (.int .u64 (n : Int)))
    (first | exact c0 | exact d0 | assumption)
    (first | (go_at_call 84; refine HL1.mono ?_; rintro e w3 ⟨rfl, hB3, hx3⟩; have hx3' : Bx (· = z + 1) W2 w3 := Bx.trans (Bx.of_bw ((Bw.refl W2).drew)) hx3; obtain ⟨d0, d1, d2⟩ := HC.out w3 hx3'))
  clear HL1
  have hD3 := hB3.set (j := 8) (x := (ar : Int)) (f' := fun c => if c = 8 then (ar : Int) else cpyF (fun _ => 0) 0 8 (fun i => ((Jl.byt n (8 - 1 - i) : Nat) : Int)) c) (by omega) (if_pos rfl) (fun c _ hc => if_neg hc)
  have hx4 : Bx (· = z + 1) W2 (w3.setCell ⟨z + 1, 8, none⟩ (.int .u8 (ar : Int))) := hx3'.put rfl
  obtain ⟨k1, k2⟩ := hB3.cell (c := 8) (by omega)
  have e8 : (ar : Int) % 256 = (ar : Int) := by omega
  obtain ⟨W4, hW4⟩ : ∃ W, Hid (w3.setCell ⟨z + 1, 8, none⟩ (.int .u8 (ar : Int)) = W) := ⟨_, rfl⟩
  rw [hW4.out] at hD3 hx4
  obtain ⟨d0, d1, d2⟩ := HC.out W4 hx4
  clear hB3 hx3 hB hx3'
  go_wp2_with (first | rw [e8, hW4.out] | rw [hW4.out])
  have HM2 := HL2.out W4.drew _ (hD3.keep ((Bw.refl _).drew))
  have lw : IntKind.u64.wrap (le : Int) = (le : Int) := by rw [IntKind.wrap_u64]; omega
  clear HL2
  go_region_held3 (fun w' => w'.cell? ⟨z, 2, none⟩ = some (.int .i64 (le : Int)))
    (first | exact d2 | exact f2 | assumption)
    (first | (go_at_call 84; refine HM2.mono ?_; rintro e w5 ⟨rfl, hB5, hx5⟩; have hx5' : Bx (· = z + 1) W2 w5 := Bx.trans (hx4.trans (Bx.of_bw ((Bw.refl W4).drew))) hx5; obtain ⟨f0, f1, f2⟩ := HC.out w5 hx5'))
  go_wp2
  have HM3 := HL3.out w5.drew _ (hB5.keep ((Bw.refl _).drew))
  clear HL3 HM2
  go_region_held3 (fun w' => w'.cell? ⟨z, 0, none⟩ = some (.int .u64 (n : Int)))
    (first | exact f0 | exact j0 | assumption)
    (first | (go_at_call 84; refine HM3.mono ?_; rintro e w6 ⟨rfl, hB6, hx6⟩; have hx6' : Bx (· = z + 1) W2 w6 := Bx.trans (hx5'.trans (Bx.of_bw ((Bw.refl w5).drew))) hx6; obtain ⟨j0, j1, j2⟩ := HC.out w6 hx6'))
  go_wp2
  go_ret
  exact ⟨z + 1, rfl, Hz.out, hB6.congr (fun c hc => HE.out c hc _ (fun _ => rfl)), Below.trans hbw (hx6'.below hbw.size (fun b e => by have := Hz.out; omega))⟩
set_option maxRecDepth 100000 in
theorem jheadof_any (b1 o1 i room : Nat) (b : Nat → Int) (hi : i ≤ 1) (hr : room ≤ 4294967295) (w : World) (h : RowAt w (some ⟨b1, o1, none⟩) 64 b) :
    Calls Try.prog 80 #[.slice (some ⟨b1, o1, none⟩) 64 64, .int .i64 (i : Int), .int .i64 (room : Int)] w fun e w' => e = .returned (.agg (hcell (Jl.hed b i room))) ∧ Bw w w' := by
  obtain ⟨b1', o1', e, hc1⟩ := h.at (k := 0) (by omega)
  cases e
  obtain ⟨z, hz⟩ : ∃ z, Hid (w.heap.size = z) := ⟨_, rfl⟩
  obtain ⟨W1, hW1⟩ : ∃ W, Hid (w.alloc (.cells #[.int .u64 0, .int .i64 0, .int .i64 0] 85) = W) := ⟨_, rfl⟩
  have hb1 : Bw w W1 := by rw [← hW1.out]; exact Below.alloc (Bw.refl _) (Nat.le_refl _) _
  have hg1 : W1.heap[z]? = some (.cells #[.int .u64 0, .int .i64 0, .int .i64 0] 85 (0, 0)) := by rw [← hW1.out, ← hz.out]; exact heap_alloc_new _ _
  have c8 : W1.cell? ⟨b1, o1 + 8, none⟩ = some (.int .u8 (b 8)) := (hb1.cell (p := ⟨b1, o1 + 8, none⟩) (block_lt_of_cell (hc1 8 (by omega)))).trans (hc1 8 (by omega))
  have hrow : ∀ o n, o + n ≤ 64 → RowAt W1 (some ⟨b1, o1 + o, none⟩) n (fun i => b (o + i)) := fun o n hn => ⟨Or.inr ⟨b1, o1 + o, rfl, fun i hi => by
    have := hc1 (o + i) (by omega)
    rw [Nat.add_assoc]
    exact (hb1.cell (p := ⟨b1, o1 + (o + i), none⟩) (block_lt_of_cell this)).trans this⟩, fun i => h.2 _⟩
  obtain ⟨a, ha⟩ : ∃ a, Hid (Jl.num b 8 = a) := ⟨_, rfl⟩
  obtain ⟨c, hc⟩ : ∃ c, Hid (Jl.num (fun i => b (56 + i)) 8 = c) := ⟨_, rfl⟩
  obtain ⟨l, hl⟩ : ∃ l, Hid (Jl.num (fun i => b (9 + i)) 4 = l) := ⟨_, rfl⟩
  have H8 : Hid (∀ n, Calls Try.prog 82 #[.slice (some ⟨b1, o1, none⟩) 8 64] (W1.drewN n) fun e w' => e = .returned (.int .u64 (a : Int)) ∧ w' = W1.drewN n) := fun n => by
    rw [← ha.out]
    have := hrow 0 8 (by omega)
    simp only [Nat.add_zero, Nat.zero_add] at this
    exact jnumber_any _ 8 64 _ (by omega) _ (this.keep (Bw.drewN _ _))
  have H4 : Hid (∀ n, Calls Try.prog 82 #[.slice (some ⟨b1, o1 + 9, none⟩) 4 55] (W1.drewN n) fun e w' => e = .returned (.int .u64 (l : Int)) ∧ w' = W1.drewN n) := fun n => by
    rw [← hl.out]
    exact jnumber_any _ 4 55 _ (by omega) _ ((hrow 9 4 (by omega)).keep (Bw.drewN _ _))
  have HL : Hid (∀ n, Calls Try.prog 82 #[.slice (some ⟨b1, o1 + 56, none⟩) 8 8] (W1.drewN n) fun e w' => e = .returned (.int .u64 (c : Int)) ∧ w' = W1.drewN n) := fun n => by
    rw [← hc.out]
    exact jnumber_any _ 8 8 _ (by omega) _ ((hrow 56 8 (by omega)).keep (Bw.drewN _ _))
  have b8 := h.2 8
  have b80 := b8.1
  have b81 := b8.2
  have ab : a < 18446744073709551616 := by rw [← ha.out]; exact num_lt15 h.2 (by omega)
  have cb : c < 18446744073709551616 := by rw [← hc.out]; exact num_lt15 (fun i => h.2 _) (by omega)
  have lb : l < 18446744073709551616 := by rw [← hl.out]; exact num_lt15 (fun i => h.2 _) (by omega)
  clear hrow b8
  obtain ⟨y, hy⟩ : ∃ y, Hid (b 8 = y) := ⟨_, rfl⟩
  rw [hy.out] at c8 b80 b81
  obtain ⟨H, hH⟩ : ∃ H, Hid (Jl.hed b i room = H) := ⟨_, rfl⟩
  rw [hH.out]
  have HE : Hid (H = if a = c ∧ a % 2 = i ∧ y ≤ 1 ∧ l ≤ room then ⟨a, y.toNat, l⟩ else Jl.no) := by
    show _ = _
    rw [← hH.out]
    unfold Jl.hed
    rw [ha.out, hc.out, hl.out, hy.out]
  clear hc1 h
  go_enter Try.func80, Try.ntmps80
  go_wp2_with (rw [hW1.out, hz.out])
  go_quiet ((go_at_call 82; with_reducible (first | exact Calls.quiet_of_same (H8.out _) | exact Calls.quiet_of_same (H4.out _))))
  have hg2 : (W1.drewN nq).heap[z]? = some (.cells #[.int .u64 0, .int .i64 0, .int .i64 0] 85 (0, 0)) := by rw [(Bw.drewN W1 nq).block z (Array.getElem?_eq_some_iff.1 hg1).1]; exact hg1
  have hb2 : Bw w (W1.drewN nq) := hb1.trans (Bw.drewN W1 nq)
  have Hz : Hid (w.heap.size ≤ z) := by rw [hz.out]; exact Nat.le_refl z
  have HL' := HL.out nq
  generalize W1.drewN nq = W2 at hg2 hb2 HL' ⊢
  have hi0 : (Try.prog.info? 85).map (·.size) = some 3 := by kernel_rfl
  have HF : Hid (∀ vs : Array Value, vs.size = 3 → (W2.setRow z vs).heap[z]? = some (.cells vs 85 (0, 0)) ∧ Bw w (W2.setRow z vs)) := fun vs hs => ⟨setRow_heap W2 z _ _ _ _ hg2, Below.trans hb2 (Bx.below (S := (· = z)) ⟨rfl, rfl, rfl, by simp [World.setRow], fun k _ hk => setRow_other W2 z k _ (fun e => hk e)⟩ hb2.size (fun b e => by have := Hz.out; omega))⟩
  clear H8 H4 HL c8 hg1 hb1
  have yn : (y.toNat : Int) = y := by omega
  by_cases hac : a = c
  · obtain rfl := hac
    have m0 : Hid ((a : Int) % 2 = ((a % 2 : Nat) : Int)) := by show _ = _; omega
    by_cases h2 : a % 2 = i
    · have h2' : (a : Int) % 2 = (i : Int) := by omega
      by_cases h3 : y ≤ 1
      · have h3' : ¬ (2 : Int) ≤ y := by omega
        by_cases h4 : l ≤ room
        · have hH2 := HE.out
          rw [if_pos ⟨rfl, h2, h3, h4⟩] at hH2
          go_wp2_with (first
            | (go_at_call 82; refine HL'.mono ?_; rintro e w3 ⟨rfl, hw⟩; obtain rfl := hw.symm)
            | (refine wpList_store_row rfl 85 _ _ rfl z #[.int .u64 (a : Int), .int .i64 y, .int .i64 (l : Int)] rfl rfl 85 _ hg2 hi0 rfl (by kernel_rfl) ?_))
          obtain ⟨f1, f2⟩ := HF.out #[.int .u64 (a : Int), .int .i64 y, .int .i64 (l : Int)] rfl
          refine bodyPost_ret (results_cell_row rfl _ _ z _ #[.int .u64 (a : Int), .int .i64 y, .int .i64 (l : Int)] _ _ (by rfl) f1 Try.underlying85 rfl hi0) rfl ?_
          exact ⟨by rw [hH2]; unfold hcell; rw [yn], f2⟩
        · have hH2 := HE.out
          rw [if_neg (fun c => h4 c.2.2.2)] at hH2
          go_wp2_with (first
            | (go_at_call 82; refine HL'.mono ?_; rintro e w3 ⟨rfl, hw⟩; obtain rfl := hw.symm)
            | (refine wpList_store_row rfl 85 _ _ rfl z #[.int .u64 0, .int .i64 0, .int .i64 0] rfl rfl 85 _ hg2 hi0 rfl (by kernel_rfl) ?_))
          obtain ⟨f1, f2⟩ := HF.out #[.int .u64 0, .int .i64 0, .int .i64 0] rfl
          refine bodyPost_ret (results_cell_row rfl _ _ z _ #[.int .u64 0, .int .i64 0, .int .i64 0] _ _ (by rfl) f1 Try.underlying85 rfl hi0) rfl ?_
          exact ⟨by rw [hH2]; rfl, f2⟩
      · have h3' : (2 : Int) ≤ y := by omega
        have hH2 := HE.out
        rw [if_neg (fun c => h3 c.2.2.1)] at hH2
        go_wp2_with (first
          | (go_at_call 82; refine HL'.mono ?_; rintro e w3 ⟨rfl, hw⟩; obtain rfl := hw.symm)
          | (refine wpList_store_row rfl 85 _ _ rfl z #[.int .u64 0, .int .i64 0, .int .i64 0] rfl rfl 85 _ hg2 hi0 rfl (by kernel_rfl) ?_))
        obtain ⟨f1, f2⟩ := HF.out #[.int .u64 0, .int .i64 0, .int .i64 0] rfl
        refine bodyPost_ret (results_cell_row rfl _ _ z _ #[.int .u64 0, .int .i64 0, .int .i64 0] _ _ (by rfl) f1 Try.underlying85 rfl hi0) rfl ?_
        exact ⟨by rw [hH2]; rfl, f2⟩
    · have h2' : ¬ (a : Int) % 2 = (i : Int) := by omega
      have hH2 := HE.out
      rw [if_neg (fun c => h2 c.2.1)] at hH2
      go_wp2_with (first
        | (go_at_call 82; refine HL'.mono ?_; rintro e w3 ⟨rfl, hw⟩; obtain rfl := hw.symm)
        | (refine wpList_store_row rfl 85 _ _ rfl z #[.int .u64 0, .int .i64 0, .int .i64 0] rfl rfl 85 _ hg2 hi0 rfl (by kernel_rfl) ?_))
      obtain ⟨f1, f2⟩ := HF.out #[.int .u64 0, .int .i64 0, .int .i64 0] rfl
      refine bodyPost_ret (results_cell_row rfl _ _ z _ #[.int .u64 0, .int .i64 0, .int .i64 0] _ _ (by rfl) f1 Try.underlying85 rfl hi0) rfl ?_
      exact ⟨by rw [hH2]; rfl, f2⟩
  · have hac' : ((a : Int) != (c : Int)) = true := by simp; omega
    have hH2 := HE.out
    rw [if_neg (fun c => hac c.1)] at hH2
    clear hac
    go_wp2_with (first
      | (go_at_call 82; refine HL'.mono ?_; rintro e w3 ⟨rfl, hw⟩; obtain rfl := hw.symm)
      | (refine wpList_store_row rfl 85 _ _ rfl z #[.int .u64 0, .int .i64 0, .int .i64 0] rfl rfl 85 _ hg2 hi0 rfl (by kernel_rfl) ?_))
    obtain ⟨f1, f2⟩ := HF.out #[.int .u64 0, .int .i64 0, .int .i64 0] rfl
    refine bodyPost_ret (results_cell_row rfl _ _ z _ #[.int .u64 0, .int .i64 0, .int .i64 0] _ _ (by rfl) f1 Try.underlying85 rfl hi0) rfl ?_
    exact ⟨by rw [hH2]; rfl, f2⟩
end Go.Proofs.Ytppknadflmjefaa
