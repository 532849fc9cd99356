/- Texts of mine, put together. -/
import Derived.Test.YtldkhbkgmiicbaaGreatDoorBu2

/- Texts as lists of bytes; the contract of the document's own Pieces. -/
namespace Go.Proofs.YtldkhbkgmiicbaaGreatDoor
open Go.RowKit Go.Deep
set_option linter.unusedVariables false
set_option linter.unusedSimpArgs false

namespace Nm
/-- a text of these bytes -/
def S (l : B) : ByteArray := ⟨l.toArray⟩
theorem toList_S (l : B) : (S l).toList = l := ByteArray.toList_mk l
theorem S_toList (s : ByteArray) : S s.toList = s := by
  rw [ByteArray.toList_eq]; unfold S; rw [Array.toArray_toList]
theorem size_S (l : B) : (S l).size = l.length := by unfold S; rfl
theorem size_toList (s : ByteArray) : s.toList.length = s.size := by rw [ByteArray.toList_eq, Array.length_toList]; rfl
theorem extract_S (s : ByteArray) (a b : Nat) : s.extract a b = S ((s.toList.drop a).take (b - a)) := by
  have h := ByteArray.extract_mk s.toList a b
  rw [show ByteArray.mk s.toList.toArray = s from S_toList s] at h
  exact h
theorem extract_from (s : ByteArray) (a : Nat) : s.extract a s.size = S (s.toList.drop a) := by
  rw [extract_S, List.take_of_length_le]
  rw [List.length_drop, size_toList]; exact Nat.le_refl _
theorem extract_cut (s : ByteArray) (a b : Nat) : s.extract a b = S ((s.toList.take b).drop a) := by
  rw [extract_S, List.drop_take]
theorem extract_to (s : ByteArray) (b : Nat) : s.extract 0 b = S (s.toList.take b) := by rw [extract_cut]; rfl
theorem get_toList (s : ByteArray) (i : Nat) (h : i < s.size) (h' : i < s.toList.length) : s[i] = s.toList[i] := by
  have e : s.toList = s.data.toList := ByteArray.toList_eq s
  have e2 : s.toList[i]? = s.data.toList[i]? := by rw [e]
  rw [List.getElem?_eq_getElem h', Array.getElem?_toList, Array.getElem?_eq_getElem h] at e2
  exact (Option.some.inj e2).symm
theorem append_S (a b : B) : S a ++ S b = S (a ++ b) := ByteArray.mk_append_mk a b
theorem byte_eq (x y : UInt8) : ((x.toNat : Int) = (y.toNat : Int)) ↔ x = y := by
  constructor
  · intro h; exact UInt8.toNat_inj.1 (by omega)
  · intro h; rw [h]
/-- the cells of a list of pieces -/
def cellsP : List (Nat × B) → List Value
  | [] => []
  | x :: xs => .int .i64 (x.1 : Int) :: .string (S x.2) :: cellsP xs
theorem cellsP_append : ∀ a b, cellsP (a ++ b) = cellsP a ++ cellsP b
  | [], b => rfl
  | x :: a, b => by simp only [List.cons_append, cellsP, cellsP_append a b]
theorem cellsP_get : ∀ (a : List (Nat × B)) (j : Nat) (x : Nat × B), a[j]? = some x → (cellsP a)[j * 2]? = some (.int .i64 (x.1 : Int)) ∧ (cellsP a)[j * 2 + 1]? = some (.string (S x.2))
  | [], j, x, h => by simp at h
  | y :: a, 0, x, h => by simp at h; subst h; exact ⟨rfl, rfl⟩
  | y :: a, j + 1, x, h => by
    have := cellsP_get a j x (by simpa using h)
    rw [show (j + 1) * 2 = j * 2 + 1 + 1 by omega]
    exact this
end Nm

theorem info_piece : (Tryz.prog.info? 128).map (fun i => (i.zero, i.size, i.bytes)) = some (some (.agg #[.int .i64 0, .string ⟨#[]⟩]), 2, 24) := by kernel_rfl

set_option maxRecDepth 100000 in
set_option maxHeartbeats 2000000 in
theorem rpieces_own (s : ByteArray) (hs : s.size ≤ 1099511627776) (w : World) :
    Calls Tryz.prog 74 #[.string s] w fun e w' => ∃ v, e = .returned v ∧ w'.ownsRow w.heap.size 128 2 v (Nm.pieces s.toList).length (Nm.cellsP (Nm.ats 0 (Nm.pieces s.toList))) ∧ Bw w w' := by
  obtain ⟨i0, hi0, hz0, hz1, hz2⟩ := info_parts info_piece
  have hsz : s.toList.length = s.size := Nm.size_toList s
  have HSZ : Hid (s.toList.length = s.size) := hsz
  clear hsz
  go_enter Tryz.func74, Tryz.ntmps74
  go_wp2
  go_loopw [3, 4, 5] (fun v f i wr => ∃ (k q : Nat) (out : List Nm.B), k ≤ s.size ∧ i = .int .i64 (k : Int) ∧ f = .int .i64 (q : Int) ∧ q ≤ k ∧ Hid (Nm.Cut s.toList k out q) ∧ out.length ≤ k ∧ wr.ownsRow w.heap.size 128 2 v out.length (Nm.cellsP (Nm.ats 0 out)) ∧ Bw w wr) (fun _ _ i _ => s.size - (intOf i).toNat)
  case atStart => exact ⟨0, 0, [], Nat.zero_le _, rfl, rfl, Nat.le_refl _, Nm.cut_start _, Nat.le_refl _, World.ownsRow_nil _ _ _ _, Bw.refl _⟩
  case round =>
    obtain ⟨k, q, out, hk, rfl, rfl, hq, hcut, hlen, hown, hbw⟩ := hrel
    have k0 : (0 : Int) ≤ (k : Int) := Int.natCast_nonneg _
    have q0 : (0 : Int) ≤ (q : Int) := Int.natCast_nonneg _
    have qk : (q : Int) ≤ (k : Int) := by omega
    have szr := hbw.size
    by_cases hlt : k < s.size
    · have t1 : (k : Int) < (s.size : Int) := by omega
      have hg : Hid (s[k] = s.toList[k]'(by rw [HSZ.out]; exact hlt)) := Nm.get_toList s k hlt _
      by_cases h47 : s[k] = 47
      · have e1 : ((s[k].toNat : Int) == 47) = true := by rw [h47]; rfl
        have hc2 : Hid (Nm.Cut s.toList (k + 1) (out ++ [(s.toList.take k).drop q]) (k + 1)) := Nm.cut_stroke hcut.out (by rw [HSZ.out]; exact hlt) (by rw [← hg.out]; exact h47)
        have hcq : Hid (q = Nm.tot out) := hcut.out.2.2.1
        clear h47
        go_wp2_with (at_builtin; refine wpList_append_lies _ (by rfl) (.tmp 16) (.tmp 23) _ (by rfl) w.heap.size 128 i0 _ 2 24 Tryz.underlying125 hi0 hz0 hz1 hz2 rfl (by omega) _ _ _ (by rfl) (hown.alloc _) ⟨wr.heap.size, 0, none⟩ 1 1 [_, _] (by rfl) (by rfl) (World.news_of_block (cs := #[_, _]) (t := 128) (fr := (0, 0)) (heap_alloc_new wr _)) (by simp [Value.oneCell']) (by omega) (by unfold maxLen; omega) (by omega) (by simp; omega) (wr.heap.size + 1) (by simp) ?_; intro g4 c4 w4 hown4 hgrow4 hat4 hlt4)
        go_roundw
        case rel => exact ⟨k + 1, k + 1, _, by omega, by go_num, by go_num, Nat.le_refl _, hc2, by simp only [List.length_append, List.length_cons, List.length_nil]; omega, by
          rw [List.length_append, Nm.ats_append, Nm.cellsP_append, Nat.zero_add, ← hcq.out]
          rw [Nm.extract_cut] at hown4
          exact hown4, bw_grow hgrow4 (Below.alloc hbw szr _) (by rw [size_alloc]; omega) (hown.alloc _)⟩
        case measure => simp [intOf]; omega
      · have e1 : ((s[k].toNat : Int) == 47) = false := by
          rw [beq_eq_false_iff_ne]
          exact fun h => h47 ((Nm.byte_eq _ 47).1 h)
        have hc2 : Hid (Nm.Cut s.toList (k + 1) out q) := Nm.cut_other hcut.out (by rw [HSZ.out]; exact hlt) (by rw [← hg.out]; exact h47)
        clear h47
        go_wp2
        go_roundw
        case rel => exact ⟨k + 1, q, out, by omega, by go_num, rfl, by omega, hc2, by omega, hown, hbw⟩
        case measure => simp [intOf]; omega
    · have ek : k = s.size := by omega
      subst ek
      have hpe : Hid (Nm.pieces s.toList = out ++ [s.toList.drop q]) := Nm.cut_end (by rw [HSZ.out]; exact hcut.out)
      have hcq : Hid (q = Nm.tot out) := hcut.out.2.2.1
      go_wp2_with (at_builtin; refine wpList_append_lies _ (by rfl) (.tmp 27) (.tmp 33) _ (by rfl) w.heap.size 128 i0 _ 2 24 Tryz.underlying125 hi0 hz0 hz1 hz2 rfl (by omega) _ _ _ (by rfl) (hown.alloc _) ⟨wr.heap.size, 0, none⟩ 1 1 [_, _] (by rfl) (by rfl) (World.news_of_block (cs := #[_, _]) (t := 128) (fr := (0, 0)) (heap_alloc_new wr _)) (by simp [Value.oneCell']) (by omega) (by unfold maxLen; omega) (by omega) (by simp; omega) (wr.heap.size + 1) (by simp) ?_; intro g4 c4 w4 hown4 hgrow4 hat4 hlt4)
      go_ret
      refine ⟨_, rfl, ?_, bw_grow hgrow4 (Below.alloc hbw szr _) (by rw [size_alloc]; omega) (hown.alloc _)⟩
      rw [hpe.out, List.length_append, Nm.ats_append, Nm.cellsP_append, Nat.zero_add, ← hcq.out]
      rw [Nm.extract_from] at hown4
      exact hown4

/-- a list of pieces in memory -/
def PcsAt (w : World) (v : Value) (ps : List Nm.B) : Prop := ∃ g cap, v = .slice (some ⟨g, 0, none⟩) ps.length cap ∧ ps.length ≤ cap ∧ g < w.heap.size ∧ ∀ j (h : j < ps.length), w.cell? ⟨g, j * 2, none⟩ = some (.int .i64 ((Nm.tot (ps.take j) : Nat) : Int)) ∧ w.cell? ⟨g, j * 2 + 1, none⟩ = some (.string (Nm.S ps[j]))
theorem pcs_of_own {w : World} {base : Nat} {v : Value} {ps : List Nm.B} (hne : ps ≠ []) (h : w.ownsRow base 128 2 v ps.length (Nm.cellsP (Nm.ats 0 ps))) : PcsAt w v ps := by
  rcases h.2 with ⟨_, h0⟩ | ⟨g, cap, cur, hv, hb, hg, h1, h2, h3, h4⟩
  · exact absurd (List.eq_nil_of_length_eq_zero h0) hne
  · refine ⟨g, cap, hv, h1, (Array.getElem?_eq_some_iff.1 hg).1, fun j hj => ?_⟩
    have hc := Nm.cellsP_get (Nm.ats 0 ps) j _ (Nm.ats_get 0 ps j hj)
    rw [Nat.zero_add] at hc
    have e : ∀ i, i < ps.length * 2 → cur[i]? = (Nm.cellsP (Nm.ats 0 ps))[i]? := fun i hi => by
      rw [← h4, List.getElem?_take, if_pos hi, Array.getElem?_toList]
    rw [cell_of_row w g _ cur _ _ hg, cell_of_row w g _ cur _ _ hg, e _ (by omega), e _ (by omega)]
    exact hc
theorem PcsAt.keep {w w' : World} {v : Value} {ps : List Nm.B} (h : PcsAt w v ps) (b : Bw w w') : PcsAt w' v ps := by
  obtain ⟨g, cap, hv, h1, h2, h3⟩ := h
  refine ⟨g, cap, hv, h1, Nat.lt_of_lt_of_le h2 b.size, fun j hj => ?_⟩
  rw [b.cell (p := ⟨g, j * 2, none⟩) h2, b.cell (p := ⟨g, j * 2 + 1, none⟩) h2]
  exact h3 j hj
theorem rpieces_any (s : ByteArray) (hs : s.size ≤ 1099511627776) (w : World) :
    Calls Tryz.prog 74 #[.string s] w fun e w' => ∃ v, e = .returned v ∧ PcsAt w' v (Nm.pieces s.toList) ∧ Bw w w' :=
  (rpieces_own s hs w).mono fun e w' ⟨v, he, ho, hb⟩ => ⟨v, he, pcs_of_own (Nm.pieces_ne _) ho, hb⟩
end Go.Proofs.YtldkhbkgmiicbaaGreatDoor

/- The document's own Nul, part and Check. -/
namespace Go.Proofs.YtldkhbkgmiicbaaGreatDoor
open Go.RowKit Go.Deep
set_option linter.unusedVariables false
set_option linter.unusedSimpArgs false

namespace Nm
/-- where the first byte 0 is -/
def nul : B → Option Nat
  | [] => none
  | c :: l => if c = 0 then some 0 else (nul l).map (· + 1)
theorem nul_some : ∀ (l : B) (i : Nat), l[i]? = some 0 → (∀ j, j < i → l[j]? ≠ some 0) → nul l = some i
  | [], i, h, _ => by simp at h
  | c :: l, 0, h, _ => by
    simp at h
    unfold nul; rw [if_pos h]
  | c :: l, i + 1, h, k => by
    have h0 : c ≠ 0 := fun e => k 0 (by omega) (by simp [e])
    unfold nul
    rw [if_neg h0, nul_some l i (by simpa using h) (fun j hj => by have := k (j + 1) (by omega); simpa using this)]; rfl
theorem nul_none : ∀ (l : B), (∀ j, j < l.length → l[j]? ≠ some 0) → nul l = none
  | [], _ => rfl
  | c :: l, k => by
    have h0 : c ≠ 0 := fun e => k 0 (by simp) (by simp [e])
    unfold nul
    rw [if_neg h0, nul_none l (fun j hj => by have := k (j + 1) (by simpa using hj); simpa using this)]; rfl
theorem nul_lt : ∀ (l : B) (i : Nat), nul l = some i → i < l.length
  | [], i, h => by simp [nul] at h
  | c :: l, i, h => by
    unfold nul at h
    by_cases h0 : c = 0
    · rw [if_pos h0] at h; cases h; simp
    · rw [if_neg h0] at h
      cases e : nul l with
      | none => rw [e] at h; cases h
      | some j =>
        rw [e] at h
        have := nul_lt l j e
        simp at h
        subst h
        simpa using this
/-- what Nul answers -/
def nulI (l : B) : Int := match nul l with | some n => (n : Int) | none => -1
/-- the first thing that is wrong with a piece, and where in it -/
def partE (p : B) : Nat × Int := if p = [] then (0, 80) else if 120 < p.length then (0, 2) else if p = [46] ∨ p = [46, 46] then (0, 81) else match nul p with | some n => (n, 82) | none => (0, 0)
def chk : Nat → List B → Int × Int
  | _, [] => (0, 0)
  | k, p :: ps => if (partE p).2 = 0 then chk (k + p.length + 1) ps else (((k + (partE p).1 : Nat) : Int), (partE p).2)
theorem chk_all : ∀ (k : Nat) (ps : List B), (∀ p ∈ ps, (partE p).2 = 0) → chk k ps = (0, 0)
  | _, [], _ => rfl
  | k, p :: ps, h => by unfold chk; rw [if_pos (h p (by simp))]; exact chk_all _ ps (fun q hq => h q (List.mem_cons_of_mem _ hq))
theorem chk_at : ∀ (k : Nat) (ps : List B) (j : Nat) (h : j < ps.length), (∀ i (hi : i < ps.length), i < j → (partE ps[i]).2 = 0) → (partE ps[j]).2 ≠ 0 → chk k ps = (((k + tot (ps.take j) + (partE ps[j]).1 : Nat) : Int), (partE ps[j]).2)
  | k, p :: ps, 0, h, _, hn => by
    unfold chk
    rw [if_neg (by simpa using hn)]
    simp [tot]
  | k, p :: ps, j + 1, h, h0, hn => by
    have hp : (partE p).2 = 0 := h0 0 (by simp) (by omega)
    unfold chk
    rw [if_pos hp, chk_at _ ps j (by simpa using h) (fun i hi hij => by have := h0 (i + 1) (by simpa using hi) (by omega); simpa using this) (by simpa using hn)]
    simp only [List.take_succ_cons, tot, List.getElem_cons_succ]
    congr 2
    omega
/-- the first thing that is wrong with a text, and where -/
def check (l : B) : Int × Int := if 400 < l.length then (0, 2) else chk 0 (pieces l)
end Nm

set_option maxHeartbeats 1000000 in
theorem rnul_any (s : ByteArray) (hs : s.size ≤ 4611686018427387904) (w : World) :
    Calls Tryz.prog 93 #[.string s] w fun e w' => e = .returned (.int .i64 (Nm.nulI s.toList)) ∧ w' = w := by
  have HSZ : Hid (s.toList.length = s.size) := Nm.size_toList s
  go_enter Tryz.func93, Tryz.ntmps93
  go_wp2
  go_loop [2, 3] (fun r i => ∃ (k : Nat), k ≤ s.size ∧ r = .int .i64 0 ∧ i = .int .i64 (k : Int) ∧ Hid (∀ j, j < k → s.toList[j]? ≠ some 0)) (fun _ i => s.size - (intOf i).toNat)
  case atStart => exact ⟨0, Nat.zero_le _, rfl, rfl, fun j hj => by omega⟩
  case round =>
    obtain ⟨k, hk, rfl, rfl, hall⟩ := hrel
    have k0 : (0 : Int) ≤ (k : Int) := Int.natCast_nonneg _
    by_cases hlt : k < s.size
    · have t1 : (k : Int) < (s.size : Int) := by omega
      have hg : Hid (s.toList[k]? = some s[k]) := by
        show _ = _
        rw [List.getElem?_eq_getElem (by rw [HSZ.out]; exact hlt), Nm.get_toList s k hlt (by rw [HSZ.out]; exact hlt)]
      by_cases h0 : s[k] = 0
      · have e1 : ((s[k].toNat : Int) == 0) = true := by rw [h0]; rfl
        have hans : Hid (Nm.nulI s.toList = (k : Int)) := by
          show _ = _
          unfold Nm.nulI
          rw [Nm.nul_some s.toList k (by rw [hg.out, h0]) hall.out]
        clear h0
        go_wp2
        go_ret
        exact ⟨ret_int hans.out.symm, rfl⟩
      · have e1 : ((s[k].toNat : Int) == 0) = false := by
          rw [beq_eq_false_iff_ne]
          exact fun h => h0 ((Nm.byte_eq _ 0).1 h)
        have hn : Hid (∀ j, j < k + 1 → s.toList[j]? ≠ some 0) := fun j hj => by
          rcases Nat.lt_or_ge j k with h | h
          · exact hall.out j h
          · rw [show j = k by omega, hg.out]; exact fun e => h0 (Option.some.inj e)
        clear h0
        go_wp2
        go_round
        case rel => exact ⟨k + 1, by omega, rfl, by go_num, hn⟩
        case measure => simp [intOf]; omega
    · have ek : k = s.size := by omega
      subst ek
      have hans : Hid (Nm.nulI s.toList = -1) := by
        show _ = _
        unfold Nm.nulI
        rw [Nm.nul_none s.toList (by rw [HSZ.out]; exact hall.out)]
      go_wp2
      go_ret
      exact ⟨ret_int hans.out.symm, rfl⟩

set_option maxHeartbeats 1000000 in
theorem rpart_any (s : ByteArray) (hs : s.size ≤ 4611686018427387904) (w : World) :
    Calls Tryz.prog 92 #[.string s] w fun e w' => e = .returned (.tuple #[.int .i64 (((Nm.partE s.toList).1 : Nat) : Int), .int .i64 (Nm.partE s.toList).2]) ∧ w' = w := by
  have hsz : s.toList.length = s.size := Nm.size_toList s
  have HSZ : Hid (s.toList.length = s.size) := hsz
  obtain ⟨E, hE⟩ : ∃ E, Hid (Nm.partE s.toList = E) := ⟨_, rfl⟩
  rw [hE.out]
  by_cases h0 : s.toList = []
  · have hE2 : E = (0, 80) := by rw [← hE.out]; unfold Nm.partE; rw [if_pos h0]
    subst hE2
    go_enter Tryz.func92, Tryz.ntmps92
    go_wp2
    go_ret2
    exact ⟨rfl, rfl⟩
  · by_cases h1 : 120 < s.size
    · have hE2 : E = (0, 2) := by rw [← hE.out]; unfold Nm.partE; rw [if_neg h0, if_pos (by omega)]
      subst hE2
      clear hsz
      have e0 : (s.toList == []) = false := by rw [beq_eq_false_iff_ne]; exact h0
      go_enter Tryz.func92, Tryz.ntmps92
      go_wp2
      go_ret2
      exact ⟨rfl, rfl⟩
    · by_cases h2 : s.toList = [46]
      · have hE2 : E = (0, 81) := by rw [← hE.out]; unfold Nm.partE; rw [if_neg h0, if_neg (by omega), if_pos (Or.inl h2)]
        subst hE2
        clear hsz
        go_enter Tryz.func92, Tryz.ntmps92
        go_wp2
        go_ret2
        exact ⟨rfl, rfl⟩
      · by_cases h3 : s.toList = [46, 46]
        · have hE2 : E = (0, 81) := by rw [← hE.out]; unfold Nm.partE; rw [if_neg h0, if_neg (by omega), if_pos (Or.inr h3)]
          subst hE2
          clear hsz
          go_enter Tryz.func92, Tryz.ntmps92
          go_wp2
          go_ret2
          exact ⟨rfl, rfl⟩
        · have e0 : (s.toList == []) = false := by rw [beq_eq_false_iff_ne]; exact h0
          have e2 : (s.toList == [46]) = false := by rw [beq_eq_false_iff_ne]; exact h2
          have e3 : (s.toList == [46, 46]) = false := by rw [beq_eq_false_iff_ne]; exact h3
          cases hn : Nm.nul s.toList with
          | none =>
            have hE2 : E = (0, 0) := by rw [← hE.out]; unfold Nm.partE; rw [if_neg h0, if_neg (by omega), if_neg (fun h => h.elim h2 h3), hn]
            subst hE2
            have hI : Hid (Nm.nulI s.toList = -1) := by show _ = _; unfold Nm.nulI; rw [hn]
            clear hsz hn
            go_enter Tryz.func92, Tryz.ntmps92
            go_wp2_with (go_at_call 93; refine (rnul_any s hs _).mono ?_; rintro e w' ⟨rfl, hw'⟩; subst w'; rw [hI.out])
            go_ret2
            exact ⟨rfl, rfl⟩
          | some n =>
            have hE2 : E = (n, 82) := by rw [← hE.out]; unfold Nm.partE; rw [if_neg h0, if_neg (by omega), if_neg (fun h => h.elim h2 h3), hn]
            subst hE2
            have hI : Hid (Nm.nulI s.toList = (n : Int)) := by show _ = _; unfold Nm.nulI; rw [hn]
            have n0 : (0 : Int) ≤ (n : Int) := Int.natCast_nonneg _
            clear hsz hn
            go_enter Tryz.func92, Tryz.ntmps92
            go_wp2_with (go_at_call 93; refine (rnul_any s hs _).mono ?_; rintro e w' ⟨rfl, hw'⟩; subst w'; rw [hI.out])
            go_ret2
            exact ⟨rfl, rfl⟩
end Go.Proofs.YtldkhbkgmiicbaaGreatDoor

/- The document's own Check. -/
namespace Go.Proofs.YtldkhbkgmiicbaaGreatDoor
open Go.RowKit Go.Deep
set_option linter.unusedVariables false
set_option linter.unusedSimpArgs false

theorem piece_len {l p : Nm.B} (h : p ∈ Nm.pieces l) : p.length ≤ l.length := by
  have h1 : ∀ ps : List Nm.B, p ∈ ps → p.length + 1 ≤ Nm.tot ps := fun ps => by
    induction ps with
    | nil => intro h; cases h
    | cons q r ih =>
      intro h
      rcases List.mem_cons.1 h with rfl | h
      · unfold Nm.tot; omega
      · have := ih h; unfold Nm.tot; omega
  have h2 := h1 _ h
  rw [Nm.tot_joined _ (Nm.pieces_ne l), Nm.joined_pieces] at h2
  omega
theorem partE_bd {p : Nm.B} (h : p.length ≤ 400) : (Nm.partE p).1 ≤ 400 ∧ 0 ≤ (Nm.partE p).2 ∧ (Nm.partE p).2 ≤ 100 := by
  unfold Nm.partE
  split
  · decide
  · split
    · decide
    · split
      · decide
      · cases e : Nm.nul p with
        | none => exact ⟨by show 0 ≤ 400; omega, by show (0 : Int) ≤ 0; decide, by show (0 : Int) ≤ 100; decide⟩
        | some n => have := Nm.nul_lt p n e; exact ⟨by show n ≤ 400; omega, by show (0 : Int) ≤ 82; decide, by show (82 : Int) ≤ 100; decide⟩
theorem tot_take_le {l : Nm.B} (j : Nat) : Nm.tot ((Nm.pieces l).take j) ≤ l.length + 1 := by
  have h : Nm.tot (Nm.pieces l) = l.length + 1 := by rw [Nm.tot_joined _ (Nm.pieces_ne l), Nm.joined_pieces]
  have h2 := Nm.tot_append ((Nm.pieces l).take j) ((Nm.pieces l).drop j)
  rw [List.take_append_drop, h] at h2
  omega

set_option maxRecDepth 100000 in
set_option maxHeartbeats 2000000 in
theorem rcheck_any (s : ByteArray) (hs : s.size ≤ 4611686018427387904) (w : World) :
    Calls Tryz.prog 71 #[.string s] w fun e w' => e = .returned (.tuple #[.int .i64 (Nm.check s.toList).1, .int .i64 (Nm.check s.toList).2]) ∧ Bw w w' := by
  have hsz : s.toList.length = s.size := Nm.size_toList s
  have HSZ : Hid (s.toList.length = s.size) := hsz
  obtain ⟨E, hE⟩ : ∃ E, Hid (Nm.check s.toList = E) := ⟨_, rfl⟩
  rw [hE.out]
  by_cases h0 : 400 < s.size
  · have hE2 : E = (0, 2) := by rw [← hE.out]; unfold Nm.check; rw [if_pos (by omega)]
    subst hE2
    clear hsz
    go_enter Tryz.func71, Tryz.ntmps71
    go_wp2
    go_ret2
    exact ⟨rfl, Bw.refl _⟩
  · have hE2 : Hid (E = Nm.chk 0 (Nm.pieces s.toList)) := by show _ = _; rw [← hE.out]; unfold Nm.check; rw [if_neg (by omega)]
    obtain ⟨ps, hps⟩ : ∃ ps, Hid (ps = Nm.pieces s.toList) := ⟨_, rfl⟩
    have HLP : Hid (∀ j (h : j < ps.length), ps[j].length ≤ 400) := fun j h => by
      have h1 : ps[j] ∈ ps := List.getElem_mem h
      have h2 := piece_len (l := s.toList) (p := ps[j]) (by rw [← hps.out]; exact h1)
      omega
    have HTT : Hid (∀ j, Nm.tot (ps.take j) ≤ 401) := fun j => by rw [hps.out]; have := tot_take_le (l := s.toList) j; omega
    have HPL : ps.length ≤ 401 := by rw [hps.out]; have := Nm.len_pieces s.toList; omega
    clear hsz
    go_enter Tryz.func71, Tryz.ntmps71
    go_wp2_with (go_at_call 74; refine (rpieces_any s (by omega) _).mono ?_; rintro e w1 ⟨v, rfl, hp, hw1⟩; rw [← hps.out] at hp; obtain ⟨g, cap, rfl, hcap, hg, hc⟩ := hp)
    have HC : Hid (∀ j (h : j < ps.length), w1.cell? ⟨g, j * 2, none⟩ = some (.int .i64 ((Nm.tot (ps.take j) : Nat) : Int)) ∧ w1.cell? ⟨g, j * 2 + 1, none⟩ = some (.string (Nm.S ps[j]))) := hc
    clear hc
    go_loop [2, 3, 5] (fun r q i => ∃ (k : Nat), k ≤ ps.length ∧ r = .int .i64 0 ∧ q = .int .i64 0 ∧ i = .int .i64 (k : Int) ∧ Hid (∀ i (hi : i < ps.length), i < k → (Nm.partE ps[i]).2 = 0)) (fun _ _ i => ps.length - (intOf i).toNat)
    case atStart => exact ⟨0, Nat.zero_le _, rfl, rfl, rfl, fun i hi h => by omega⟩
    case round =>
      obtain ⟨k, hk, rfl, rfl, rfl, hall⟩ := hrel
      have k0 : (0 : Int) ≤ (k : Int) := Int.natCast_nonneg _
      by_cases hlt : k < ps.length
      · have t1 : (k : Int) < (ps.length : Int) := by omega
        obtain ⟨c1, c2⟩ := HC.out k hlt
        obtain ⟨a, er, hpe⟩ : ∃ a er, Hid (Nm.partE ps[k] = (a, er)) := ⟨(Nm.partE ps[k]).1, (Nm.partE ps[k]).2, show Nm.partE ps[k] = _ from rfl⟩
        have hbd := partE_bd (HLP.out k hlt)
        rw [hpe.out] at hbd
        obtain ⟨b1, b2, b3⟩ := hbd
        have hl : Hid ((Nm.S ps[k]).size ≤ 400) := by show _ ≤ _; rw [Nm.size_S]; exact HLP.out k hlt
        have htt := HTT.out k
        obtain ⟨T, hT⟩ : ∃ T, Hid (T = Nm.tot (ps.take k)) := ⟨_, rfl⟩
        rw [← hT.out] at c1 htt
        dsimp only at b1 b2 b3
        obtain ⟨X, hX⟩ : ∃ X, Hid (X = Nm.S ps[k]) := ⟨Nm.S ps[k], show Nm.S ps[k] = _ from rfl⟩
        rw [← hX.out] at c2 hl
        have hXl : Hid (X.toList = ps[k]) := by show _ = _; rw [hX.out, Nm.toList_S]
        by_cases he : er = 0
        · have hn : Hid (∀ i (hi : i < ps.length), i < k + 1 → (Nm.partE ps[i]).2 = 0) := fun i hi h => by
            rcases Nat.lt_or_ge i k with h2 | h2
            · exact hall.out i hi h2
            · obtain rfl : i = k := by omega
              rw [hpe.out]; exact he
          subst he
          go_wp2_with (go_at_call 92; refine (rpart_any X (by have := hl.out; omega) _).mono ?_; rintro e w' ⟨rfl, hw'⟩; subst w'; rw [hXl.out, hpe.out])
          go_round
          case rel => exact ⟨k + 1, by omega, rfl, rfl, by go_num, hn⟩
          case measure => simp [intOf]; omega
        · have e1 : (er != 0) = true := by rw [bne_iff_ne]; exact he
          have hans : Hid (E = (((T + a : Nat) : Int), er)) := by
            show _ = _
            rw [hE2.out, ← hps.out, Nm.chk_at 0 ps k hlt hall.out (by rw [hpe.out]; exact he), hpe.out, Nat.zero_add, ← hT.out]
          go_wp2_with (go_at_call 92; refine (rpart_any X (by have := hl.out; omega) _).mono ?_; rintro e w' ⟨rfl, hw'⟩; subst w'; rw [hXl.out, hpe.out])
          go_ret2
          exact ⟨by rw [hans.out]; rfl, hw1⟩
      · have ek : k = ps.length := by omega
        subst ek
        have hans : Hid (E = (0, 0)) := by
          show _ = _
          rw [hE2.out, ← hps.out]
          exact Nm.chk_all 0 ps (fun p hp => by obtain ⟨i, hi, rfl⟩ := List.mem_iff_getElem.1 hp; exact hall.out i hi hi)
        go_wp2
        go_ret2
        exact ⟨by rw [hans.out]; rfl, hw1⟩
end Go.Proofs.YtldkhbkgmiicbaaGreatDoor
