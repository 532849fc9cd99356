/- Over of the program, as the laws want it. -/
import Derived.Test.YtmbabfelnieagabDoorBZ
import Derived.Test.YtmbabfelnieagabDoorBN
import Derived.Shelf.SlSortCmp.NoneTotal
namespace Go.Proofs.YtmbabfelnieagabDoor
open Go.RowKit Go.Maps Go.Sort Go.Shelf
set_option linter.unusedVariables false
set_option linter.unusedSimpArgs false

theorem cmp_less : ∀ a b : Px.B, decide (Lib.compareBytes a b < 0) = Nm.less a b
  | [], [] => rfl
  | [], _ :: _ => rfl
  | _ :: _, [] => by rw [Nm.less_nil]; rfl
  | a :: a2, b :: b2 => by
    rw [Nm.less_cons, Lib.compareBytes]
    by_cases h : a < b
    · rw [if_pos h, decide_eq_true h]; rfl
    · rw [if_neg h, decide_eq_false h]
      by_cases h2 : b < a
      · rw [if_pos h2]
        have h3 : (a == b) = false := beq_eq_false_iff_ne.2 (fun e => by rw [e] at h2; exact absurd h2 (UInt8.lt_irrefl _))
        rw [h3]; rfl
      · rw [if_neg h2]
        have h3 : a = b := by
          have h4 := UInt8.not_lt.1 h
          have h5 := UInt8.not_lt.1 h2
          exact UInt8.le_antisymm h5 h4
        rw [h3, beq_self_eq_true, cmp_less a2 b2]; rfl
def encPr (p : Px.Pr) : List Value := [.string (Nm.S p.1), .string (Nm.S p.2)]
def cfPr (p q : Px.Pr) : Int := Lib.compareBytes p.1 q.1
theorem lt_cf (p q : Px.Pr) : ltOf cfPr p q = Nm.less p.1 q.1 := cmp_less p.1 q.1
theorem swo_cf : SWO (ltOf cfPr) where
  irrefl := fun x => by rw [lt_cf]; exact Nm.less_irr _
  trans := fun x y z h1 h2 => by rw [lt_cf] at h1 h2 ⊢; exact Nm.less_trans _ _ _ h1 h2
  ntrans := fun x y z h1 h2 => by
    rw [lt_cf] at h1 h2 ⊢
    rcases Px.three x.1 z.1 with h | h | h
    · rcases Px.three x.1 y.1 with k | k | k
      · rw [k] at h1; cases h1
      · rw [← k, h] at h2; cases h2
      · rw [Nm.less_trans _ _ _ k h] at h2; cases h2
    · rw [h]; exact Nm.less_irr _
    · exact Nm.less_asym h
set_option maxRecDepth 100000 in
theorem bykey_any (x y : Px.Pr) (W : World) : Calls Tryd.prog 24 #[.agg #[.string (Nm.S x.1), .string (Nm.S x.2)], .agg #[.string (Nm.S y.1), .string (Nm.S y.2)]] W fun e w' => e = .returned (.int .i64 (cfPr x y)) ∧ ∃ q os', w' = grow (W.drewN q) os' := by
  have hcon := fun W' => Any.strings_Compare sx106 (Nm.S x.1) (Nm.S y.1) W'
  change ∀ W', Calls Tryd.prog 37 _ _ _ at hcon
  have hr : Lib.compareBytes (Nm.S x.1).data.toList (Nm.S y.1).data.toList = cfPr x y := rfl
  rw [hr] at hcon
  clear hr
  generalize cfPr x y = r at hcon ⊢
  go_enter Tryd.func24, Tryd.ntmps24
  go_wp2_with (go_at_call 37; refine (hcon _).mono ?_; rintro e w' ⟨rfl, hw'⟩; subst w')
  go_ret
  exact ⟨rfl, 0, _, by rw [alloc_eq_grow, alloc_eq_grow, grow_grow]; rfl⟩
theorem cmp_lays (blk off size : Nat) (w : World) : CmpLays Tryd.prog 24 #[] encPr 2 cfPr blk off size w :=
  fun _ _ _ _ x y => bykey_any x y _
/-- the cells of a list of pairs, one by one -/
theorem Px.cells_at : ∀ (xs : List Px.Pr) (j : Nat), j < xs.length * 2 → (Px.cellsPr xs)[j]? = some ((encPr xs[j / 2]!)[j % 2]!)
  | [], j, h => absurd h (by simp)
  | p :: xs, 0, _ => rfl
  | p :: xs, 1, _ => rfl
  | p :: xs, j + 2, h => by
    have ih := Px.cells_at xs j (by simp only [List.length_cons] at h; omega)
    have h1 : (j + 2) / 2 = j / 2 + 1 := by omega
    have h2 : (j + 2) % 2 = j % 2 := by omega
    show (Px.cellsPr xs)[j]? = _
    rw [ih, h1, h2]
    rfl
theorem Px.cells_len : ∀ xs : List Px.Pr, (Px.cellsPr xs).length = xs.length * 2
  | [] => rfl
  | p :: xs => by
    show (Px.cellsPr xs).length + 1 + 1 = _
    rw [Px.cells_len xs, List.length_cons]; omega
theorem Px.flat_cells (xs : List Px.Pr) : (flatK encPr 2 xs.toArray).toList = Px.cellsPr xs := by
  apply List.ext_getElem?
  intro j
  by_cases h : j < xs.length * 2
  · rw [Px.cells_at xs j h]
    have h2 := get_flatK encPr 2 xs.toArray j (by simpa using h)
    have hs : j < (flatK encPr 2 xs.toArray).size := by rw [size_flatK]; simpa using h
    rw [getElem!_pos _ j hs] at h2
    rw [Array.getElem?_toList, Array.getElem?_eq_getElem hs, h2]
    congr 3
    simp
  · have e1 : (Px.cellsPr xs)[j]? = none := List.getElem?_eq_none (by rw [Px.cells_len]; omega)
    have e2 : (flatK encPr 2 xs.toArray).toList[j]? = none := List.getElem?_eq_none (by rw [Array.length_toList, size_flatK]; simpa using h)
    rw [e1, e2]
theorem Px.srt_perm : ∀ (a b : List Px.Pr), Px.Srt a → Px.Srt b → a.Perm b → a = b
  | [], b, _, _, h => h.nil_eq
  | x :: a, [], _, _, h => absurd h.length_eq (by simp)
  | x :: a, y :: b, ha, hb, h => by
    have hxy : x = y := by
      have h1 : x ∈ y :: b := h.mem_iff.1 List.mem_cons_self
      have h2 : y ∈ x :: a := h.mem_iff.2 List.mem_cons_self
      rcases List.mem_cons.1 h1 with e | h1
      · exact e
      · rcases List.mem_cons.1 h2 with e | h2
        · exact e.symm
        · have k1 := (List.pairwise_cons.1 hb).1 x h1
          have k2 := (List.pairwise_cons.1 ha).1 y h2
          have k3 := Nm.less_asym k1
          rw [k2] at k3; cases k3
    subst hxy
    rw [Px.srt_perm a b (List.pairwise_cons.1 ha).2 (List.pairwise_cons.1 hb).2 (List.Perm.cons_inv h)]
theorem Px.srt_sorted {d : Array Px.Pr} {S : List Px.Pr} (hS : Px.Srt S) (hp : d.toList.Perm S) (hs : SortedIn (ltOf cfPr) 0 d.size d) : d.toList = S := by
  refine Px.srt_perm _ _ ?_ hS hp
  have hnd : (d.toList.map (·.1)).Nodup := by
    have h1 : (S.map (·.1)).Nodup := by
      unfold List.Nodup
      rw [List.pairwise_map]
      exact List.Pairwise.imp (fun h => Px.less_ne h) hS
    exact (hp.map (·.1)).nodup_iff.2 h1
  unfold List.Nodup at hnd
  rw [List.pairwise_map] at hnd
  unfold Px.Srt
  rw [List.pairwise_iff_getElem] at hnd ⊢
  intro i j hi hj hij
  have h1 := hs i j (Nat.zero_le _) hij (by simpa using hj)
  rw [lt_cf, getElem!_pos d j (by simpa using hj), getElem!_pos d i (by simpa using hi)] at h1
  have h2 := hnd i j hi hj hij
  simp only [Array.getElem_toList] at h2 ⊢
  rcases Px.three d[i].1 d[j].1 with h | h | h
  · exact h
  · exact absurd h h2
  · rw [h] at h1; cases h1
theorem hold_own {W : World} {g : Nat} {cur : Array Value} {t : TypeId} {xs : List Px.Pr} (hg : W.heap[g]? = some (.cells cur t (0, 0))) (hx : cur.toList.take (xs.length * 2) = Px.cellsPr xs) : HoldsK encPr 2 W g 0 xs.toArray := by
  intro j hj
  have hj2 : j < xs.length * 2 := by rw [size_flatK] at hj; simpa using hj
  have e0 : 0 + j = j := Nat.zero_add j
  rw [e0]
  refine ⟨?_, by simp [World.frozen?, hg]⟩
  have h1 := get_flatK encPr 2 xs.toArray j (by simpa using hj2)
  have h2 := Px.cells_at xs j hj2
  rw [← hx, List.getElem?_take, if_pos hj2, Array.getElem?_toList] at h2
  have h3 : W.cell? ⟨g, j, none⟩ = cur[j]? := by simp [World.cell?, hg]
  rw [h3, h2]
  show some _ = some ((flatK encPr 2 xs.toArray)[j]!)
  rw [h1]
  congr 3
  simp
theorem put_take (F cur : Array Value) (h : F.size ≤ cur.size) : (putCells id 0 F cur).toList.take F.size = F.toList := by
  apply List.ext_getElem?
  intro j
  by_cases hj : j < F.size
  · rw [List.getElem?_take, if_pos hj, Array.getElem?_toList, Array.getElem?_toList]
    unfold putCells
    rw [Array.getElem?_mapIdx, Array.getElem?_eq_getElem (by omega : j < cur.size), Array.getElem?_eq_getElem hj]
    simp only [Option.map_some, Nat.zero_le, Nat.zero_add, hj, and_self, if_true, Nat.sub_zero, id_eq]
    rw [getElem!_pos F j hj]
  · rw [List.getElem?_take, if_neg hj, List.getElem?_eq_none (by simpa using hj)]
set_option maxRecDepth 100000 in
theorem sort_own (xs S : List Px.Pr) (hp : xs.Perm S) (hS : Px.Srt S) (base : Nat) (W : World) (v : Value) (hov : W.ownsRow base 23 2 v xs.length (Px.cellsPr xs)) (hl : xs.length ≤ 64) (hb : base ≤ W.heap.size) :
    Calls Tryd.prog 35 #[v, .func (.func 24) #[] #[]] W fun e w' => e = .returned (.tuple #[]) ∧ w'.ownsRow base 23 2 v S.length (Px.cellsPr S) ∧ Below base W w' := by
  have hlen : S.length = xs.length := hp.length_eq.symm
  rcases hov.2 with ⟨rfl, h0⟩ | ⟨g, cap, cur, rfl, hgb, hg, h1, h2, h3, h4⟩
  · have hx : xs = [] := List.eq_nil_of_length_eq_zero h0
    subst hx
    have hs : S = [] := List.eq_nil_of_length_eq_zero (by rw [hlen]; rfl)
    subst hs
    refine (AnyF.slices_SortFunc_none sxS none 0 (.func (.func 24) #[] #[]) W).mono ?_
    rintro e w' ⟨rfl, rfl⟩
    exact ⟨rfl, hov, Below.refl _ _⟩
  · have hgl : g < W.heap.size := (Array.getElem?_eq_some_iff.1 hg).1
    have hsz : xs.toArray.size = xs.length := by simp
    have hH : HoldsK encPr 2 W g 0 xs.toArray := hold_own hg h4
    have hC := AnyQ.slices_SortFunc sxS 2 Tryd.isAgg23 Tryd.sizeOf23 encPr (fun _ => rfl) (fun x v hv => by simp [encPr] at hv; rcases hv with rfl | rfl <;> rfl) cfPr swo_cf 24 #[] g 0 cap xs.toArray W (enters_of Tryd.func24 (by kernel_rfl) rfl) (cmp_lays _ _ _ _) hH hgl (by rw [hsz]; omega)
    rw [hsz] at hC
    refine hC.mono ?_
    rintro e w' ⟨rfl, d', n, os, ⟨hds, -, hdp⟩, hso, rfl⟩
    rw [hsz] at hds
    have hdl : d'.toList = S := by
      refine Px.srt_sorted hS ?_ (by rw [hds]; exact hso)
      have e1 : (d'.extract 0 xs.length).toList = d'.toList := by rw [← hds]; simp
      have e2 : (xs.toArray.extract 0 xs.length).toList = xs := by rw [← hsz]; simp
      rw [e1, e2] at hdp
      exact hdp.trans hp
    have hd : d' = S.toArray := by rw [← hdl]
    subst hd
    have hfl : (flatK encPr 2 S.toArray).size = xs.length * 2 := by rw [size_flatK, hds]
    have hcs : xs.length * 2 ≤ cur.size := by rw [h3]; exact Nat.mul_le_mul_right 2 h1
    have hheap : ∀ k, k < W.heap.size → (sortWorldK encPr 2 W g 0 n S.toArray os).heap[k]? = (W.heap.modify g (onCells (putCells id 0 (flatK encPr 2 S.toArray))))[k]? := fun k hk => by
      show ((W.heap.modify g (onCells (putCells id 0 (flatK encPr 2 S.toArray)))) ++ os)[k]? = _
      rw [Array.getElem?_append_left (by rw [Array.size_modify]; exact hk)]
    refine ⟨rfl, ⟨by rw [Px.cells_len], .inr ⟨g, cap, putCells id 0 (flatK encPr 2 S.toArray) cur, by rw [hlen], hgb, ?_, by rw [hlen]; exact h1, h2, ?_, ?_⟩⟩, rfl, rfl, rfl, ?_, ?_⟩
    · rw [hheap g hgl, Array.getElem?_modify, if_pos rfl, hg]
      rfl
    · unfold putCells
      rw [Array.size_mapIdx]; exact h3
    · rw [hlen, ← hfl, put_take _ _ (by rw [hfl]; exact hcs), Px.flat_cells]
    · show _ ≤ ((W.heap.modify g _) ++ os).size
      rw [Array.size_append, Array.size_modify]; omega
    · intro k hk
      rw [hheap k (by omega), Array.getElem?_modify, if_neg (by omega)]
set_option maxRecDepth 100000 in
theorem sorted_any (W : World) (g bx n : Nat) (l : List Px.Pr) (hm : MapAt W g n l) (hbx : VarAt W bx 51 (.map (some g))) (hs : Px.Srt l) (hl : l.length ≤ 64) :
    Calls Tryd.prog 22 #[.func (.func 36) #[] #[.pointer (some ⟨bx, 0, none⟩)], .func (.func 24) #[] #[]] W fun e w' => ∃ v, e = .returned v ∧ w'.ownsRow W.heap.size 23 2 v l.length (Px.cellsPr l) ∧ Bw W w' := by
  have H := collect_any bx g n l hs hl W hbx hm
  go_enter Tryd.func22, Tryd.ntmps22
  go_wp2_with (first
    | (go_at_call 34; refine H.mono ?_; rintro e w2 ⟨v, xs, rfl, h1, h2, h3⟩; have HS := sort_own xs l h1 hs W.heap.size w2 v h2 (by rw [h1.length_eq]; exact hl) h3.size)
    | (go_at_call 35; refine HS.mono ?_; rintro e w3 ⟨rfl, h4, h5⟩))
  go_ret
  exact ⟨v, rfl, h4, Go.RowKit.Below.trans h3 h5⟩
theorem sort_spec : SortSpec := ⟨vals_any, fun W g bx n l hm hbx _ hs hl _ => sorted_any W g bx n l hm hbx hs hl⟩
end Go.Proofs.YtmbabfelnieagabDoor
namespace Go.Proofs.YtmbabfelnieagabDoor
open Go.RowKit
set_option linter.unusedVariables false
theorem pover_any (A B : Option Addr) (ca cb : Nat) (L M : List Px.Pr) (hn : L.length ≤ 4611686018427387904) (hm : M.length ≤ 4611686018427387904) (hca : L.length ≤ ca) (hcb : M.length ≤ cb) (hSL : ∀ p ∈ L, p.1.length ≤ 140737488355328 ∧ p.2.length ≤ 140737488355328) (hSM : ∀ p ∈ M, p.1.length ≤ 140737488355328 ∧ p.2.length ≤ 140737488355328) (w : World) (hk : KAt w) (ha : PrsAt w A L) (hb : PrsAt w B M) :
    Calls Tryd.prog 11 #[.slice A L.length ca, .slice B M.length cb] w fun e w' => OverSays L M e w' ∧ Bw w w' :=
  (pover_own sort_spec A B ca cb L M hn hm hca hcb hSL hSM w hk ha hb).mono fun e w' ⟨⟨v, h1, h2⟩, h3⟩ => ⟨⟨v, h1, prsis_own h2⟩, h3⟩
end Go.Proofs.YtmbabfelnieagabDoor
