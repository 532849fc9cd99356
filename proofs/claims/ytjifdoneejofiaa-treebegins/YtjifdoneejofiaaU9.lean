/- What stands beneath a path, and what is left without it; the document's own Beneath and Without, of layer 11 (written by mku10.py). -/
import Derived.Test.YtjifdoneejofiaaU6
import Derived.Test.YtjifdoneejofiaaU7
namespace Go.Proofs.Ytjifdoneejofiaa
open Go.RowKit Go.Deep
set_option linter.unusedVariables false
set_option linter.unusedSimpArgs false

namespace Tr
def frontB (xs ys : List B) : Bool := decide (xs.length < ys.length) && decide (ys.take xs.length = xs)
theorem frontB_iff (xs ys : List B) : frontB xs ys = true ↔ Nm.Front xs ys := by
  unfold frontB Nm.Front
  rw [Bool.and_eq_true, decide_eq_true_eq, decide_eq_true_eq]
  refine and_congr_right fun hl => ⟨fun h i h1 h2 => ?_, fun h => ?_⟩
  · have : (ys.take xs.length)[i]? = xs[i]? := by rw [h]
    rw [List.getElem?_take, if_pos h1, List.getElem?_eq_getElem h1, List.getElem?_eq_getElem h2] at this
    exact (Option.some.inj this).symm
  · apply List.ext_getElem?
    intro i
    rw [List.getElem?_take]
    by_cases h1 : i < xs.length
    · rw [if_pos h1, List.getElem?_eq_getElem h1, List.getElem?_eq_getElem (show i < ys.length by omega), h i h1 (by omega)]
    · rw [if_neg h1, List.getElem?_eq_none (by omega)]
/-- does a path stand beneath a root? -/
def bnB (root p : B) : Bool := decide ((Nm.check p).2 = 0) && (decide (root = []) || (decide ((Nm.check root).2 = 0) && frontB (Nm.pieces root) (Nm.pieces p)))
theorem bnB_iff (root p : B) : bnB root p = true ↔ Nm.Beneath root p := by
  unfold bnB Nm.Beneath
  rw [Bool.and_eq_true, Bool.or_eq_true, Bool.and_eq_true, decide_eq_true_eq, decide_eq_true_eq, decide_eq_true_eq, frontB_iff]
/-- does an item stay? -/
def wout (path : B) (x : It) : Bool := decide (x.path ≠ path) && !bnB path x.path
/-- the items that are wanted -/
def sel (P : It → Bool) (L : List Iv) : List Iv := L.filter fun y => P y.it
theorem its_sel (P : It → Bool) (L : List Iv) : its (sel P L) = (its L).filter P := by
  unfold its sel; rw [List.filter_map]; rfl
theorem sel_len (P : It → Bool) (L : List Iv) : (sel P L).length ≤ L.length := List.length_filter_le _ _
theorem sel_snoc (P : It → Bool) {L : List Iv} {i : Nat} {y : Iv} (h : L[i]? = some y) : sel P (L.take (i + 1)) = sel P (L.take i) ++ (if P y.it = true then [y] else []) := by
  unfold sel
  rw [take_snoc h, List.filter_append, List.filter_cons, List.filter_nil]
theorem sel_mem {P : It → Bool} {L : List Iv} {y : Iv} (h : y ∈ sel P L) : y ∈ L := (List.mem_filter.1 h).1
/-- what Without answers -/
def woutE (t : List It) (path : B) : Int := if (chkE t).2 ≠ 0 then (chkE t).2 else if (findE t path).2 ≠ 0 then (findE t path).2 else (chkE (t.filter (wout path))).2
end Tr
/-- an answer that is a list and an error -/
def SayIts (t : List Tr.It) (er : Int) (e : Ending) (w' : World) : Prop :=
  (er ≠ 0 → e = .returned (.tuple #[.slice none 0 0, .int .i64 er])) ∧ (er = 0 → ∃ A c M, e = .returned (.tuple #[.slice A M.length c, .int .i64 0]) ∧ Tr.its M = t ∧ M.length ≤ c ∧ ItsAt w' A M)
theorem TellsN.is {e : Ending} {P : Prop} {b : Bool} (h : TellsN e P) (hb : b = true ↔ P) : e = .returned (.bool b) := by
  obtain ⟨x, rfl, hx⟩ := h
  have : x = b := by
    cases x <;> cases b
    · rfl
    · exact absurd (hx.2 (hb.1 rfl)) (by simp)
    · exact absurd (hb.2 (hx.1 rfl)) (by simp)
    · rfl
  rw [this]
theorem its_sel_at {w : World} {H : Nat} {v : Value} {P : Tr.It → Bool} {L : List Tr.Iv} {k : Nat} (h : w.ownsRow H 26 6 v (Tr.sel P (L.take k)).length (Tr.cellsI (Tr.sel P (L.take k)))) (hb : ∀ y ∈ L, BodyAt w y) :
    ∃ A cap, v = .slice A (Tr.sel P (L.take k)).length cap ∧ (Tr.sel P (L.take k)).length ≤ cap ∧ ItsAt w A (Tr.sel P (L.take k)) ∧ (A = none → cap = 0 ∧ (Tr.sel P (L.take k)) = []) ∧ (∀ a, A = some a → a = ⟨a.block, 0, none⟩ ∧ H ≤ a.block) :=
  its_of_own h (fun y hy => hb y (List.mem_of_mem_take (Tr.sel_mem hy)))
set_option maxRecDepth 100000 in
set_option maxHeartbeats 4000000 in
theorem rbeneath11_any (A : Option Addr) (cap : Nat) (L : List Tr.Iv) (root : Tr.B) (hn : L.length * 80 ≤ 140737488355328) (hr : root.length ≤ 140737488351232) (w : World) (ha : ItsAt w A L) :
    Calls Try.prog 21 #[.slice A L.length cap, .string (Nm.S root)] w fun e w' => ∃ A' c M, e = .returned (.slice A' M.length c) ∧ Tr.its M = (Tr.its L).filter (fun x => Tr.bnB root x.path) ∧ ItsAt w' A' M ∧ Bw w w' := by
  obtain ⟨n, hnn⟩ : ∃ n, Hid (L.length = n) := ⟨_, rfl⟩
  rw [hnn.out] at hn ⊢
  have HA : Hid (ItsAt w A L) := ha
  clear ha
  obtain ⟨j0, hj0, hy0, hy1, hy2⟩ := info_parts info_item
  obtain ⟨H, hH⟩ : ∃ H, Hid (w.heap.size = H) := ⟨_, rfl⟩
  obtain ⟨P, hP⟩ : ∃ P : Tr.It → Bool, Hid (P = fun x => Tr.bnB root x.path) := ⟨_, rfl⟩
  rw [← hP.out]
  go_enter Try.func21, Try.ntmps21
  go_wp2
  go_loopw [5, 6] (fun v i wr => ∃ (k : Nat), k ≤ n ∧ i = .int .i64 (k : Int) ∧ Hid (wr.ownsRow H 26 6 v (Tr.sel P (L.take k)).length (Tr.cellsI (Tr.sel P (L.take k)))) ∧ Bw w wr) (fun _ i _ => n - (intOf i).toNat)
  case atStart => exact ⟨0, Nat.zero_le _, rfl, World.ownsRow_nil _ _ _ _, Bw.refl _⟩
  case round =>
    obtain ⟨i, hi, rfl, hown, hbw⟩ := hrel
    have i0' : (0 : Int) ≤ (i : Int) := Int.natCast_nonneg _
    by_cases hlt : i < n
    · have i1 : (i : Int) < (n : Int) := by omega
      obtain ⟨y, hy⟩ : ∃ y, Hid (L[i]? = some y) := ⟨_, List.getElem?_eq_getElem (by rw [hnn.out]; exact hlt)⟩
      obtain ⟨b, off, rfl, hY, hB⟩ := (HA.out.keep hbw).at hy.out
      have HY : Hid (ItAt wr b (off + i * 6) y) := hY
      have HB : Hid (BodyAt wr y) := hB
      have hfp := hB.fit.path
      have c0 := hY.c0
      clear hY hB
      obtain ⟨d, hd⟩ : ∃ d, Hid (P y.it = d) := ⟨_, rfl⟩
      have HF : Hid (∀ u, Calls Try.prog 49 #[.string (Nm.S root), .string (Nm.S y.it.path)] u fun e w' => e = .returned (.bool d) ∧ Bw u w') := fun u => by
        refine (rbeneathL root y.it.path (by omega) (by omega) u).mono fun e w' h => ⟨?_, h.2⟩
        rw [← hd.out, hP.out]; exact h.1.is (Tr.bnB_iff root y.it.path)
      have hsl : (Tr.sel P (L.take i)).length ≤ i := Nat.le_trans (Tr.sel_len _ _) (by rw [List.length_take]; omega)
      have hHw : H ≤ wr.heap.size := by rw [← hH.out]; exact hbw.size
      have hsn := Tr.sel_snoc P hy.out
      rw [hd.out] at hsn
      obtain ⟨m, hm⟩ : ∃ m, Hid ((Tr.sel P (L.take i)).length = m) := ⟨_, rfl⟩
      rw [hm.out] at hsl hown
      cases d with
      | false =>
        have HSN : Hid (Tr.sel P (L.take (i + 1)) = Tr.sel P (L.take i)) := by show _ = _; rw [hsn, if_neg (by decide), List.append_nil]
        clear hsn
        go_wp2_with (go_at_call 49; refine (HF.out _).mono ?_; rintro e w1 ⟨rfl, hw1⟩)
        go_roundw
        case rel => exact ⟨i + 1, by omega, by go_num, by rw [HSN.out, hm.out]; exact own_keep hown.out hw1, hbw.trans hw1⟩
        case measure => simp [intOf]; omega
      | true =>
        have HSN : Hid (Tr.sel P (L.take (i + 1)) = Tr.sel P (L.take i) ++ [y]) := by show _ = _; rw [hsn, if_pos rfl]
        clear hsn
        go_wp2_with (first
          | (go_at_call 49; refine (HF.out _).mono ?_; rintro e w1 ⟨rfl, hw1⟩; have HY1 : Hid (ItAt w1 b (off + i * 6) y) := HY.out.keep hw1; have hbw1 := hbw.trans hw1; have HO1 : Hid _ := own_keep hown.out hw1; obtain ⟨w5, hw5⟩ : ∃ V, V = w1.alloc (.cells y.arr 26) := ⟨_, rfl⟩; have hb5 : Bw w1 w5 := (by rw [hw5]; exact bw_alloc11 (Bw.refl _) _); have HI5 : Hid (ItsAt w5 (some ⟨w1.heap.size, 0, none⟩) [y]) := (by rw [hw5]; exact its_one (BoxAt.new _ _) ((HB.out.keep hw1).keep (bw_alloc11 (Bw.refl _) _))); have hbw5 := hbw1.trans hb5; have hH5 : H ≤ w5.heap.size := (by rw [← hH.out]; exact hbw5.size); have HO5 : Hid _ := own_keep HO1.out hb5)
          | refine wpList_load_it (by rfl) (.tmp 23) rfl b (off + i * 6) rfl y HY1.out ?_
          | (refine wpList_build_it rfl (.tmp 24) rfl y rfl ?_; rw [← hw5]; clear hw5)
          | (at_builtin; refine wpList_append_its _ (by rfl) (.tmp 20) (.tmp 25) _ (by rfl) H 26 j0 _ 80 Try.underlying22 hj0 hy0 hy1 hy2 rfl _ _ _ (by rfl) HO5.out (some ⟨w1.heap.size, 0, none⟩) 1 [y] 1 rfl (by rfl) HI5.out (fun e => by cases e) (by unfold maxLen; omega) (by omega) hH5 ?_; intro v6 w6 hown6 hgrow6))
        go_roundw
        case rel => exact ⟨i + 1, by omega, by go_num, by rw [HSN.out, Tr.cellsI_append, List.length_append, hm.out]; exact hown6, by
          have := bw_grow hgrow6 (base := H) (by rw [← hH.out]; exact hbw5) hH5 HO5.out
          rw [← hH.out] at this; exact this⟩
        case measure => simp [intOf]; omega
    · have ei : i = n := by omega
      subst ei
      have HT : Hid (L.take i = L) := List.take_of_length_le (by rw [hnn.out]; exact Nat.le_refl _)
      have hb := fun y hy => (HA.out.keep hbw).body y hy
      obtain ⟨A', c', hv, hle, hI, -, -⟩ := its_sel_at hown.out hb
      subst hv
      rw [HT.out] at hI
      have HI : Hid (ItsAt wr A' (Tr.sel P L)) := hI
      rw [HT.out]
      clear hI hle hb
      go_wp2
      go_ret
      exact ⟨A', c', Tr.sel P L, rfl, Tr.its_sel P L, HI.out, hbw⟩
set_option maxRecDepth 100000 in
set_option maxHeartbeats 4000000 in
theorem rwithout11_any (A : Option Addr) (cap : Nat) (L : List Tr.Iv) (p : Tr.B) (hn : L.length * 80 ≤ 140737488355328) (hcap : L.length ≤ cap) (hr : p.length ≤ 140737488351232) (w : World) (ha : ItsAt w A L) :
    Calls Try.prog 26 #[.slice A L.length cap, .string (Nm.S p)] w fun e w' => SayIts ((Tr.its L).filter (Tr.wout p)) (Tr.woutE (Tr.its L) p) e w' ∧ Bw w w' := by
  unfold Tr.woutE
  obtain ⟨cA, cE, hC⟩ : ∃ a b, Hid (Tr.chkE (Tr.its L) = (a, b)) := ⟨_, _, show Tr.chkE (Tr.its L) = _ from rfl⟩
  obtain ⟨fA, fE, hF⟩ : ∃ a b, Hid (Tr.findE (Tr.its L) p = (a, b)) := ⟨_, _, show Tr.findE (Tr.its L) p = _ from rfl⟩
  obtain ⟨dA, dE, hD⟩ : ∃ a b, Hid (Tr.chkE ((Tr.its L).filter (Tr.wout p)) = (a, b)) := ⟨_, _, show Tr.chkE ((Tr.its L).filter (Tr.wout p)) = _ from rfl⟩
  have HCh : Hid (∀ u, Bw w u → Calls Try.prog 11 #[.slice A L.length cap] u fun e w' => e = .returned (.tuple #[.int .i64 (cA : Int), .int .i64 cE]) ∧ Bw u w') := fun u hu => by
    have := rcheck11_any A cap L (by omega) hcap u (ha.keep hu)
    rwa [hC.out] at this
  have HFi : Hid (∀ u, Bw w u → Calls Try.prog 18 #[.slice A L.length cap, .string (Nm.S p)] u fun e w' => e = .returned (.tuple #[.int .i64 (fA : Int), .int .i64 fE]) ∧ w' = u) := fun u hu => by
    have := rfind11_any A cap L p (by omega) u (ha.keep hu)
    rwa [hF.out] at this
  rw [hC.out, hF.out, hD.out]
  dsimp only
  obtain ⟨n, hnn⟩ : ∃ n, Hid (L.length = n) := ⟨_, rfl⟩
  rw [hnn.out] at hn hcap HCh HFi ⊢
  have HA : Hid (ItsAt w A L) := ha
  clear ha
  obtain ⟨j0, hj0, hy0, hy1, hy2⟩ := info_parts info_item
  by_cases h1 : cE = 0
  · subst h1
    rw [if_neg (by simp)]
    by_cases h2 : fE = 0
    · subst h2
      rw [if_neg (by simp)]
      go_enter Try.func26, Try.ntmps26
      go_upto_region 7 with (first
        | (go_at_call 11; refine (HCh.out _ (Bw.refl _)).mono ?_; rintro e w1 ⟨rfl, hw1⟩)
        | (go_at_call 18; refine (HFi.out _ hw1).mono ?_; rintro e w2 ⟨rfl, rfl⟩))
      rename_i hw1
      obtain ⟨H, hH⟩ : ∃ H, Hid (w.heap.size = H) := ⟨_, rfl⟩
      obtain ⟨P, hP⟩ : ∃ P : Tr.It → Bool, Hid (P = Tr.wout p) := ⟨_, rfl⟩
      go_wp2
      go_loopw [8, 9] (fun v i wr => ∃ (k : Nat), k ≤ n ∧ i = .int .i64 (k : Int) ∧ Hid (wr.ownsRow H 26 6 v (Tr.sel P (L.take k)).length (Tr.cellsI (Tr.sel P (L.take k)))) ∧ Bw w wr) (fun _ i _ => n - (intOf i).toNat)
      case atStart => exact ⟨0, Nat.zero_le _, rfl, World.ownsRow_nil _ _ _ _, hw1⟩
      case round =>
        obtain ⟨i, hi, rfl, hown, hbw⟩ := hrel
        have i0' : (0 : Int) ≤ (i : Int) := Int.natCast_nonneg _
        by_cases hlt : i < n
        · have i1 : (i : Int) < (n : Int) := by omega
          obtain ⟨y, hy⟩ : ∃ y, Hid (L[i]? = some y) := ⟨_, List.getElem?_eq_getElem (by rw [hnn.out]; exact hlt)⟩
          obtain ⟨b, off, rfl, hY, hB⟩ := (HA.out.keep hbw).at hy.out
          have HY : Hid (ItAt wr b (off + i * 6) y) := hY
          have HB : Hid (BodyAt wr y) := hB
          have hfp := hB.fit.path
          have c0 := hY.c0
          clear hY hB
          obtain ⟨d, hd⟩ : ∃ d, Hid (Tr.bnB p y.it.path = d) := ⟨_, rfl⟩
          have HF : Hid (∀ u, Calls Try.prog 49 #[.string (Nm.S p), .string (Nm.S y.it.path)] u fun e w' => e = .returned (.bool d) ∧ Bw u w') := fun u => by
            refine (rbeneathL p y.it.path (by omega) (by omega) u).mono fun e w' h => ⟨?_, h.2⟩
            rw [← hd.out]; exact h.1.is (Tr.bnB_iff p y.it.path)
          have hsl : (Tr.sel P (L.take i)).length ≤ i := Nat.le_trans (Tr.sel_len _ _) (by rw [List.length_take]; omega)
          have hHw : H ≤ wr.heap.size := by rw [← hH.out]; exact hbw.size
          have hsn := Tr.sel_snoc P hy.out
          have hpv : P y.it = (decide (y.it.path ≠ p) && !d) := by rw [hP.out, ← hd.out]; rfl
          rw [hpv] at hsn
          obtain ⟨m, hm⟩ : ∃ m, Hid ((Tr.sel P (L.take i)).length = m) := ⟨_, rfl⟩
          rw [hm.out] at hsl hown
          have es := Tr.S_eql y.it.path p
          clear hpv
          by_cases hpp : y.it.path = p
          · rw [decide_eq_true hpp] at es
            have HSN : Hid (Tr.sel P (L.take (i + 1)) = Tr.sel P (L.take i)) := by show _ = _; rw [hsn, decide_eq_false (show ¬ (y.it.path ≠ p) from fun h => h hpp), if_neg (by simp), List.append_nil]
            clear hsn hpp
            go_wp2
            go_roundw
            case rel => exact ⟨i + 1, by omega, by go_num, by rw [HSN.out, hm.out]; exact hown.out, hbw⟩
            case measure => simp [intOf]; omega
          rw [decide_eq_false hpp] at es
          rw [decide_eq_true (show y.it.path ≠ p from hpp)] at hsn
          clear hpp
          cases d with
          | true =>
            have HSN : Hid (Tr.sel P (L.take (i + 1)) = Tr.sel P (L.take i)) := by show _ = _; rw [hsn, if_neg (by decide), List.append_nil]
            clear hsn
            go_wp2_with (go_at_call 49; refine (HF.out _).mono ?_; rintro e w1 ⟨rfl, hw1⟩)
            rename_i hw1
            go_roundw
            case rel => exact ⟨i + 1, by omega, by go_num, by rw [HSN.out, hm.out]; exact own_keep hown.out hw1, hbw.trans hw1⟩
            case measure => simp [intOf]; omega
          | false =>
            have HSN : Hid (Tr.sel P (L.take (i + 1)) = Tr.sel P (L.take i) ++ [y]) := by show _ = _; rw [hsn]; rfl
            clear hsn
            go_wp2_with (first
              | (go_at_call 49; refine (HF.out _).mono ?_; rintro e w3 ⟨rfl, hw3⟩; have HY1 : Hid (ItAt w3 b (off + i * 6) y) := HY.out.keep hw3; have hbw1 := hbw.trans hw3; have HO1 : Hid _ := own_keep hown.out hw3; obtain ⟨w5, hw5⟩ : ∃ V, V = w3.alloc (.cells y.arr 26) := ⟨_, rfl⟩; have hb5 : Bw w3 w5 := (by rw [hw5]; exact bw_alloc11 (Bw.refl _) _); have HI5 : Hid (ItsAt w5 (some ⟨w3.heap.size, 0, none⟩) [y]) := (by rw [hw5]; exact its_one (BoxAt.new _ _) ((HB.out.keep hw3).keep (bw_alloc11 (Bw.refl _) _))); have hbw5 := hbw1.trans hb5; have hH5 : H ≤ w5.heap.size := (by rw [← hH.out]; exact hbw5.size); have HO5 : Hid _ := own_keep HO1.out hb5)
              | refine wpList_load_it (by rfl) (.tmp 53) rfl b (off + i * 6) rfl y HY1.out ?_
              | (refine wpList_build_it rfl (.tmp 54) rfl y rfl ?_; rw [← hw5]; clear hw5)
              | (at_builtin; refine wpList_append_its _ (by rfl) (.tmp 50) (.tmp 55) _ (by rfl) H 26 j0 _ 80 Try.underlying22 hj0 hy0 hy1 hy2 rfl _ _ _ (by rfl) HO5.out (some ⟨w3.heap.size, 0, none⟩) 1 [y] 1 rfl (by rfl) HI5.out (fun e => by cases e) (by unfold maxLen; omega) (by omega) hH5 ?_; intro v6 w6 hown6 hgrow6))
            go_roundw
            case rel => exact ⟨i + 1, by omega, by go_num, by rw [HSN.out, Tr.cellsI_append, List.length_append, hm.out]; exact hown6, by
              have := bw_grow hgrow6 (base := H) (by rw [← hH.out]; exact hbw5) hH5 HO5.out
              rw [← hH.out] at this; exact this⟩
            case measure => simp [intOf]; omega
        · have ei : i = n := by omega
          subst ei
          have HT : Hid (L.take i = L) := List.take_of_length_le (by rw [hnn.out]; exact Nat.le_refl _)
          have hb := fun y hy => (HA.out.keep hbw).body y hy
          obtain ⟨A', c', hv, hle, hI, -, -⟩ := its_sel_at hown.out hb
          subst hv
          rw [HT.out] at hI hle
          have HI : Hid (ItsAt wr A' (Tr.sel P L)) := hI
          have HSel : Hid (Tr.its (Tr.sel P L) = (Tr.its L).filter (Tr.wout p)) := by show _ = _; rw [Tr.its_sel, hP.out]
          have hsl : (Tr.sel P L).length ≤ 4611686018427387904 := by have := Tr.sel_len P L; rw [hnn.out] at this; omega
          have HC2 : Hid (∀ u, Bw wr u → Calls Try.prog 11 #[.slice A' (Tr.sel P L).length c'] u fun e w' => e = .returned (.tuple #[.int .i64 (dA : Int), .int .i64 dE]) ∧ Bw u w') := fun u hu => by
            have := rcheck11_any A' c' (Tr.sel P L) hsl hle u (HI.out.keep hu)
            rwa [HSel.out, hD.out] at this
          have HLE : Hid ((Tr.sel P L).length ≤ c') := hle
          rw [HT.out]
          clear hI hle hb hsl
          obtain ⟨m, hm⟩ : ∃ m, Hid ((Tr.sel P L).length = m) := ⟨_, rfl⟩
          rw [hm.out] at HC2 ⊢
          by_cases h3 : dE = 0
          · subst h3
            go_wp2_with (go_at_call 11; refine (HC2.out _ (Bw.refl _)).mono ?_; rintro e w7 ⟨rfl, hw7⟩)
            go_ret2
            exact ⟨⟨fun e => absurd rfl e, fun _ => ⟨A', c', Tr.sel P L, by rw [hm.out]; rfl, HSel.out, HLE.out, HI.out.keep hw7⟩⟩, hbw.trans hw7⟩
          · have q1 := Tr.i_no h3
            have H3 : Hid (dE ≠ 0) := h3
            clear h3
            go_wp2_with (go_at_call 11; refine (HC2.out _ (Bw.refl _)).mono ?_; rintro e w7 ⟨rfl, hw7⟩)
            go_ret2
            exact ⟨⟨fun _ => rfl, fun e => absurd e H3.out⟩, hbw.trans hw7⟩
    · rw [if_pos h2]
      have q1 := Tr.i_no h2
      have H2 : Hid (fE ≠ 0) := h2
      clear h2
      go_enter Try.func26, Try.ntmps26
      go_wp2_with (first
        | (go_at_call 11; refine (HCh.out _ (Bw.refl _)).mono ?_; rintro e w1 ⟨rfl, hw1⟩)
        | (go_at_call 18; refine (HFi.out _ hw1).mono ?_; rintro e w2 ⟨rfl, rfl⟩))
      go_ret2
      exact ⟨⟨fun _ => rfl, fun e => absurd e H2.out⟩, by assumption⟩
  · rw [if_pos h1]
    have q1 := Tr.i_no h1
    have H1 : Hid (cE ≠ 0) := h1
    clear h1
    go_enter Try.func26, Try.ntmps26
    go_wp2_with (go_at_call 11; refine (HCh.out _ (Bw.refl _)).mono ?_; rintro e w1 ⟨rfl, hw1⟩)
    go_ret2
    exact ⟨⟨fun _ => rfl, fun e => absurd e H1.out⟩, hw1⟩
end Go.Proofs.Ytjifdoneejofiaa
