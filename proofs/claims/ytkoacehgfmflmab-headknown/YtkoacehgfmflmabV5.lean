/- Written rows of bytes; the contract of the statements' own awake; Put with and without a form. -/
import Derived.Test.YtkoacehgfmflmabOT
import Derived.Great.BuildSlice
namespace Go.Proofs.Ytkoacehgfmflmab
open Go.RowKit Go.Deep
set_option linter.unusedVariables false
set_option linter.unusedSimpArgs false

namespace Oct
/-- a written row of bytes -/
def lit (l : List Nat) (i : Nat) : Int := ((l.getD i 0 : Nat) : Int)
theorem lit_bd {l : List Nat} (h : ∀ x ∈ l, x < 256) (i : Nat) : 0 ≤ lit l i ∧ lit l i < 256 := by
  unfold lit
  rcases Nat.lt_or_ge i l.length with hi | hi
  · have := h l[i] (List.getElem_mem hi)
    rw [List.getD_eq_getElem?_getD, List.getElem?_eq_getElem hi]
    simp only [Option.getD_some]
    omega
  · rw [List.getD_eq_getElem?_getD, List.getElem?_eq_none hi]
    decide
theorem run_mk {P : Int → Prop} {f : Nat → Int} {L p q : Nat} (h1 : p ≤ q) (h2 : q ≤ L) (h3 : ∀ i, i < q → p ≤ i → P (f i)) (h4 : q < L → ¬ P (f q)) : Run P f L p q := ⟨h1, h2, fun i a b => h3 i b a, h4⟩
theorem says_of {L : Nat} {f : Nat → Int} {p q r : Nat} {n a e : Int} (h1 : 2 ≤ L) (h2 : L ≤ 12) (h0 : ¬ f 0 = 128) (hp : Run Blank f L 0 p) (hq : Run Digit f L p q) (hr : Run Tail f L q r)
    (h : (r = L → n = oct f p (q - p) ∧ a = 0 ∧ e = 0) ∧ (r < L → n = 0 ∧ a = (r : Int) ∧ e = 70)) : Says L f n a e := by
  refine ⟨fun h' => absurd ⟨h1, h2⟩ h', fun _ _ h' => absurd h' h0, fun _ _ h' => absurd h' h0, fun _ _ _ p' q' r' hp' hq' hr' => ?_⟩
  obtain rfl := run_unique hp' hp
  obtain rfl := run_unique hq' hq
  obtain rfl := run_unique hr' hr
  exact h
/-- there is a form -/
def Has (n z : Int) : Prop := 2 ≤ z ∧ z ≤ 12 ∧ 0 ≤ n ∧ (n.toNat < 8 ^ (z.toNat - 1) ∨ n.toNat < 256 ^ (z.toNat - 1))
/-- Put's error where there is none -/
def errP (n z : Int) : Int := if (2 ≤ z ∧ z ≤ 12) ∧ 0 ≤ n then 2 else 1
theorem errP_ne (n z : Int) : (errP n z != 0) = true ∧ (errP n z == 0) = false := by unfold errP; split <;> decide
theorem errP_bd (n z : Int) : 1 ≤ errP n z ∧ errP n z ≤ 2 := by unfold errP; split <;> decide
end Oct

theorem oput_yes (n : Int) (W : Nat) (hn : n ≤ 9223372036854775807) (h : Oct.Has n (W : Int)) (w : World) : Calls Try.prog 27 #[.int .i64 n, .int .i64 (W : Int)] w fun e w' =>
    ∃ g, e = .returned (.tuple #[.slice (some ⟨g, 0, none⟩) W W, .int .i64 0]) ∧ BlockIs w' g W (Oct.formF n.toNat W) ∧ w.heap.size ≤ g ∧ Bw w w' := by
  refine (oput_any n (W : Int) hn w).mono ?_
  rintro e w' hp
  obtain ⟨g, he, ho, hg⟩ := hp.form h.1 h.2.1 h.2.2.1 h.2.2.2
  rw [Int.toNat_natCast] at he ho
  exact ⟨g, he, ho, hg, hp.keeps⟩
theorem oput_no (n z : Int) (hn : n ≤ 9223372036854775807) (h : ¬ Oct.Has n z) (w : World) : Calls Try.prog 27 #[.int .i64 n, .int .i64 z] w fun e w' =>
    e = .returned (.tuple #[.slice none 0 0, .int .i64 (Oct.errP n z)]) ∧ Bw w w' := by
  refine (oput_any n z hn w).mono ?_
  rintro e w' hp
  refine ⟨?_, hp.keeps⟩
  unfold Oct.errP
  by_cases h1 : (2 ≤ z ∧ z ≤ 12) ∧ 0 ≤ n
  · rw [if_pos h1]
    exact hp.long h1.1.1 h1.1.2 h1.2 (fun h2 => h ⟨h1.1.1, h1.1.2, h1.2, h2⟩)
  · rw [if_neg h1]
    exact hp.arg (by omega)

theorem says_644 : Oct.Says 5 (Oct.lit [32, 54, 52, 52, 0]) 420 0 0 :=
  Oct.says_of (p := 1) (q := 4) (r := 5) (by decide) (by decide) (by decide)
    (Oct.run_mk (by decide) (by decide) (by unfold Oct.Blank; decide) (by unfold Oct.Blank; decide))
    (Oct.run_mk (by decide) (by decide) (by unfold Oct.Digit; decide) (by unfold Oct.Digit; decide))
    (Oct.run_mk (by decide) (by decide) (by unfold Oct.Tail; decide) (by unfold Oct.Tail; decide))
    ⟨fun _ => ⟨by decide, rfl, rfl⟩, fun h => by omega⟩
theorem says_7 : Oct.Says 2 (Oct.lit [55, 0]) 7 0 0 :=
  Oct.says_of (p := 0) (q := 1) (r := 2) (by decide) (by decide) (by decide)
    (Oct.run_mk (by decide) (by decide) (by unfold Oct.Blank; decide) (by unfold Oct.Blank; decide))
    (Oct.run_mk (by decide) (by decide) (by unfold Oct.Digit; decide) (by unfold Oct.Digit; decide))
    (Oct.run_mk (by decide) (by decide) (by unfold Oct.Tail; decide) (by unfold Oct.Tail; decide))
    ⟨fun _ => ⟨by decide, rfl, rfl⟩, fun h => by omega⟩
theorem form_7 : IsForm 2 (Oct.lit [55, 0]) 7 := ⟨by decide, by unfold Oct.formF; decide⟩
theorem form_420 : ∀ i, i < 8 → Oct.formF 420 8 i = Oct.lit [48, 48, 48, 48, 54, 52, 52, 0] i := by unfold Oct.formF; decide
theorem has_420 : Oct.Has 420 ((8 : Nat) : Int) := by unfold Oct.Has; decide
/-- a written row that has just been laid -/
theorem row_lit (W : World) (l : List Nat) (cs : Array Value) (n : Nat) (hb : ∀ x ∈ l, x < 256) (h : cs.toList = l.map (fun x : Nat => Value.int .u8 (x : Int))) (hn : n ≤ l.length) : RowAt (W.alloc (.cells cs 5)) (some ⟨W.heap.size, 0, none⟩) n (Oct.lit l) :=
  row_new W cs _ n (Oct.lit l) (Oct.lit_bd hb) (fun i hi => by
    have hi' : i < l.length := by omega
    rw [← Array.getElem?_toList, h, List.getElem?_map, List.getElem?_eq_getElem hi']
    unfold Oct.lit
    rw [List.getD_eq_getElem?_getD, List.getElem?_eq_getElem hi']
    rfl)
theorem bw_alloc7 {w w' : World} (h : Bw w w') (o : Obj) : Bw w (w'.alloc o) := Below.alloc h h.size o

/-- a written row of bytes, behind a guard that holds -/
theorem wpList_lit7 {ops : Array Oper} {rest : List Oper} {o : Oper} {a : Act} {w : World} {Q : Exit → Act → World → Prop} (hgd : Region.wanted o (yielded ops a.tmps) = true) (len : Nat) (parts : Array (Nat × Operand)) (ho : o.op = .buildSlice 25 len parts)
    (zs : List Int) (hlen : len = zs.length) (hpos : 0 < len) (hsmall : len ≤ 2 ^ 24)
    (hparts : parts.toList = (zs.zipIdx 0).map fun x => (x.2, Operand.const (Value.int .u8 x.1)))
    (h : wpList Try.prog ops Q rest (a.put o.dst (.slice (some ⟨w.heap.size, 0, none⟩) len len)) (w.alloc (.cells (zs.map (Value.int .u8)).toArray 5))) : wpList Try.prog ops Q (o :: rest) a w := by
  obtain ⟨i0, hi0, hz0, hz1, hz2⟩ := info_parts info_u8
  refine wpList_step fun _ hK => ?_
  rw [if_pos hgd]
  refine wp_buildSlice 25 5 len parts ho _ i0 _ Try.underlying25 hi0 hz0 (by rw [hz1]; omega) (by rw [hz1]; omega) ?_ (hK _ _ h)
  rw [parts_eval a parts .u8 zs hparts, hz1]
  exact Great.fill_flat _ _ (fun v hv => by obtain ⟨n, _, rfl⟩ := List.mem_map.1 hv; rfl) (by simp [hlen])
end Go.Proofs.Ytkoacehgfmflmab
