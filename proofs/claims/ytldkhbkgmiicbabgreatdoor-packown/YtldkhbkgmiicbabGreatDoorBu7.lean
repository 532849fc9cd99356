/- Texts of mine, put together. -/
import Derived.Test.YtldkhbkgmiicbabGreatDoorBu6

/- The program's own Lead: where a link leads. -/
namespace Go.Proofs.YtldkhbkgmiicbabGreatDoor
open Go.RowKit Go.Deep Go.Shelf
set_option linter.unusedVariables false
set_option linter.unusedSimpArgs false
attribute [local go_sem] Oper.semAt_some

namespace Nm
/-- a part put behind others, or behind none -/
def blw (r p : B) : B := if r = [] then p else r ++ 47 :: p
/-- one piece of a link's way -/
def stepW (r p : B) : Option B := if p = [] ∨ p = [46] then some r else if p ≠ [46, 46] then some (blw r p) else if r = [] then none else some (up r)
def goW : B → List B → Option B
  | r, [] => some r
  | r, p :: ps => match stepW r p with | none => none | some r' => goW r' ps
theorem goW_append : ∀ (ps qs : List B) (r : B), goW r (ps ++ qs) = match goW r ps with | none => none | some r' => goW r' qs
  | [], qs, r => rfl
  | p :: ps, qs, r => by
    have e1 : goW r (p :: ps ++ qs) = match stepW r p with | none => none | some r' => goW r' (ps ++ qs) := rfl
    have e2 : goW r (p :: ps) = match stepW r p with | none => none | some r' => goW r' ps := rfl
    rw [e1, e2]
    cases h : stepW r p with
    | none => rfl
    | some r' => exact goW_append ps qs r'
theorem goW_snoc {ps : List B} {r r' : B} (p : B) (h : goW r ps = some r') : goW r (ps ++ [p]) = stepW r' p := by
  rw [goW_append, h]
  show (match stepW r' p with | none => none | some q => goW q []) = _
  cases stepW r' p <;> rfl
theorem goW_none {ps qs : List B} {r : B} (h : goW r ps = none) (hp : ps <+: qs) : goW r qs = none := by
  obtain ⟨t, rfl⟩ := hp
  rw [goW_append, h]
theorem up_len8 (l : B) : (up l).length ≤ l.length := by
  by_cases h : (47 : UInt8) ∈ l
  · rcases last_cases (S l) with ⟨h1, _⟩ | ⟨i, _, _, h3, h4⟩
    · rw [toList_S] at h1; exact absurd h h1
    · rw [toList_S] at h3
      rw [up_at h3 (fun j hj => by have := h4 j hj; rwa [toList_S] at this), List.length_take]
      omega
  · rw [up_none h]; exact Nat.zero_le _
theorem stepW_len {r p r' : B} (h : stepW r p = some r') : r'.length ≤ r.length + (p.length + 1) := by
  unfold stepW at h
  split at h
  · cases h; omega
  · split at h
    · cases h
      unfold blw
      split
      · omega
      · rw [List.length_append, List.length_cons]
        omega
    · split at h
      · cases h
      · cases h; have := up_len8 r; omega
/-- right parts: they have bytes, and no stroke -/
def Parts (ps : List B) : Prop := ∀ p ∈ ps, p ≠ [] ∧ (47 : UInt8) ∉ p
theorem joined_nil {ps : List B} (h : Parts ps) (e : joined ps = []) : ps = [] := by
  cases ps with
  | nil => rfl
  | cons p r =>
    cases r with
    | nil => exact absurd e (h p (by simp)).1
    | cons q t => rw [joined_cons p (by simp)] at e; simp at e
theorem lead_go : ∀ (ss way : List B), Parts way → (∀ p ∈ ss, (47 : UInt8) ∉ p) → goW (joined way) ss = (leadF way ss).map joined
  | [], way, _, _ => rfl
  | s :: ss, way, hw, hs => by
    have hs' : ∀ p ∈ ss, (47 : UInt8) ∉ p := fun p hp => hs p (List.mem_cons_of_mem _ hp)
    unfold goW leadF stepW
    by_cases h1 : s = [] ∨ s = [46]
    · rw [if_pos h1, if_pos h1]; exact lead_go ss way hw hs'
    · rw [if_neg h1, if_neg h1]
      by_cases h2 : s ≠ [46, 46]
      · rw [if_pos h2, if_pos h2]
        have e : blw (joined way) s = joined (way ++ [s]) := by
          unfold blw
          by_cases hn : way = []
          · subst hn; rfl
          · rw [if_neg (fun e => hn (joined_nil hw e)), joined_append way s hn]
        show goW (blw (joined way) s) ss = _
        rw [e]
        refine lead_go ss (way ++ [s]) ?_ hs'
        intro p hp
        rcases List.mem_append.1 hp with hp | hp
        · exact hw p hp
        · rw [List.mem_singleton.1 hp]; exact ⟨fun e => h1 (.inl e), hs s (by simp)⟩
      · rw [if_neg h2, if_neg h2]
        by_cases hn : way = []
        · subst hn; rfl
        · rw [if_neg (fun e => hn (joined_nil hw e)), if_neg hn]
          have e : up (joined way) = joined way.dropLast := by
            unfold up
            rw [pieces_joined way hn (fun p hp => (hw p hp).2)]
          show goW (up (joined way)) ss = _
          rw [e]
          exact lead_go ss way.dropLast (fun p hp => hw p (List.dropLast_subset _ hp)) hs'
theorem all_snd (l : B) : (all l).map (fun x => x.2) = pieces l := by
  unfold all
  have : ∀ (ps : List B) k, (ats k ps).map (fun x => x.2) = ps := by
    intro ps
    induction ps with
    | nil => intro k; rfl
    | cons p ps ih => intro k; simp only [ats, List.map_cons, ih]
  exact this _ _
theorem partE_ne {p : B} (h : (partE p).2 = 0) : p ≠ [] := by
  rintro rfl
  unfold partE at h
  rw [if_pos rfl] at h
  exact absurd h (by decide)
/-- where a link leads, by the way's texts -/
theorem lead_is {a b : B} (h1 : (check a).2 = 0) (h2 : b ≠ []) (h3 : b.length ≤ 400) (h4 : nul b = none) (h5 : b.head? ≠ some 47) :
    lead a b = match goW (up a) (pieces b) with | none => ([], 83) | some r => (r, 0) := by
  have hp : Parts (pieces a).dropLast := fun p hp => by
    have hm := List.dropLast_subset _ hp
    exact ⟨partE_ne (((check_iff a).1 h1).2 p hm), pieces_no a p hm⟩
  unfold lead
  rw [if_neg (fun h => h h1), if_neg h2, if_neg (by omega), if_neg (fun h => h h4), if_neg h5]
  have := lead_go (pieces b) _ hp (fun p hp => pieces_no b p hp)
  unfold up
  rw [this]
  cases leadF (pieces a).dropLast (pieces b) <;> rfl
end Nm
theorem s_nil (l : Nm.B) : ((Nm.S l).toList == []) = decide (l = []) := by
  rw [Nm.toList_S]
  by_cases h : l = []
  · subst h; rfl
  · rw [decide_eq_false h, beq_eq_false_iff_ne]; exact h
theorem s_one (l m : Nm.B) : ((Nm.S l).toList == m) = decide (l = m) := by
  rw [Nm.toList_S]
  by_cases h : l = m
  · subst h; rw [decide_eq_true rfl]; simp
  · rw [decide_eq_false h, beq_eq_false_iff_ne]; exact h
set_option maxRecDepth 100000 in
set_option maxHeartbeats 1000000 in
theorem below_any (r p : Nm.B) (h : r.length + p.length ≤ 1099511627776) (w : World) :
    Calls Tryz.prog 86 #[.string (Nm.S r), .string (Nm.S p)] w fun e w' => e = .returned (.string (Nm.S (Nm.blw r p))) ∧ w' = w := by
  unfold Nm.blw
  by_cases h0 : r = []
  · have e0 : ((Nm.S r).toList == []) = true := by rw [s_nil]; exact decide_eq_true h0
    rw [if_pos h0]
    clear h0
    go_enter Tryz.func86, Tryz.ntmps86
    go_wp2
    go_ret
    exact ⟨rfl, rfl⟩
  · have e0 : ((Nm.S r).toList == []) = false := by rw [s_nil]; exact decide_eq_false h0
    rw [if_neg h0]
    clear h0
    have hr : Hid ((Nm.S r).size + 1 + (Nm.S p).size ≤ 1099511627777) := by show _ ≤ _; rw [Nm.size_S, Nm.size_S]; omega
    have hS : Hid (Nm.S (r ++ 47 :: p) = Nm.S r ++ ⟨#[47]⟩ ++ Nm.S p) := by
      show _ = _
      rw [show (⟨#[47]⟩ : ByteArray) = Nm.S [47] from rfl, Nm.append_S, Nm.append_S, List.append_assoc]; rfl
    rw [hS.out]
    have n1 : ¬ 9223372036854775807 < (Nm.S r).size + 1 := by have := hr.out; omega
    have n2 : ¬ 9223372036854775807 < (Nm.S r).size + 1 + (Nm.S p).size := by have := hr.out; omega
    go_enter Tryz.func86, Tryz.ntmps86
    go_wp2
    go_ret
    exact ⟨rfl, rfl⟩
/-- what a link's way answers -/
def Nm.wayE (r : Option Nm.B) : Nm.B × Int := match r with | none => ([], 83) | some r => (r, 0)
set_option maxRecDepth 100000 in
set_option maxHeartbeats 2000000 in
theorem walk_in (u : Nm.B) (s : ByteArray) (hu : u.length ≤ 400) (hs : s.size ≤ 400) (w : World) :
    CallsIn Fence.wide 10 Tryz.prog 68 #[.string (Nm.S u), .string s] w fun e w' => e = .returned (.tuple #[.string (Nm.S (Nm.wayE (Nm.goW u (Nm.pieces s.toList))).1), .int .i64 (Nm.wayE (Nm.goW u (Nm.pieces s.toList))).2]) ∧ Bw w w' := by
  have HSZ : Hid (s.toList.length = s.size) := Nm.size_toList s
  have HN : Hid ((Nm.all s.toList).length ≤ 401) := by
    show _ ≤ _
    have := Nm.len_pieces s.toList
    unfold Nm.all
    rw [Nm.ats_length]
    rw [HSZ.out] at this
    omega
  obtain ⟨rA, rE, hAE⟩ : ∃ a b, Hid (Nm.wayE (Nm.goW u (Nm.pieces s.toList)) = (a, b)) := ⟨_, _, show Nm.wayE (Nm.goW u (Nm.pieces s.toList)) = _ from rfl⟩
  rw [hAE.out]
  refine callsIn_of_wp_marks Tryz.func68 rfl trivial ?_ rfl
  simp only [Tryz.ntmps68, List.size_toArray, List.length_cons, List.length_nil, Nat.reduceAdd, Nat.reduceSub, Array.replicate_succ, Array.replicate_zero, List.push_toArray, List.append_toArray, List.nil_append, List.cons_append]
  gi_wp2_with (refine ⟨trivial, ?_⟩; gi_at_call 48; refine (callsIn_wide.2 (neach_any s _)).mono ?_; rintro e w2 ⟨rfl, hbx, hw2⟩)
  have c0 := new_cell8 w (.string (Nm.S u)) 9
  have c1 := new_cell8 (w.alloc (.cells #[.string (Nm.S u)] 9)) (.string ⟨#[]⟩) 9
  have c2 := new_cell8 ((w.alloc (.cells #[.string (Nm.S u)] 9)).alloc (.cells #[.string ⟨#[]⟩] 9)) (.int .i64 0) 29
  rw [World.size_alloc] at c1
  rw [World.size_alloc, World.size_alloc] at c2
  rw [World.size_alloc, World.size_alloc, World.size_alloc] at hbx
  have z1 : w.heap.size + 3 < w2.heap.size := block_lt_of_cell hbx
  have HC : w2.cell? ⟨w.heap.size, 0, none⟩ = some (.string (Nm.S u)) ∧ w2.frozen? ⟨w.heap.size, 0, none⟩ = false := by
    rw [hw2.cell (p := ⟨w.heap.size, 0, none⟩) (by simp; omega), hw2.frozen (p := ⟨w.heap.size, 0, none⟩) (by simp; omega)]
    exact ⟨kept_cell8 _ (kept_cell8 _ c0.1), kept_froz8 _ (kept_cell8 _ c0.1) (kept_froz8 _ c0.1 c0.2)⟩
  have HR : (w2.cell? ⟨w.heap.size + 1, 0, none⟩ = some (.string ⟨#[]⟩) ∧ w2.frozen? ⟨w.heap.size + 1, 0, none⟩ = false) ∧ (w2.cell? ⟨w.heap.size + 2, 0, none⟩ = some (.int .i64 0) ∧ w2.frozen? ⟨w.heap.size + 2, 0, none⟩ = false) := by
    rw [hw2.cell (p := ⟨w.heap.size + 1, 0, none⟩) (by simp), hw2.frozen (p := ⟨w.heap.size + 1, 0, none⟩) (by simp), hw2.cell (p := ⟨w.heap.size + 2, 0, none⟩) (by simp), hw2.frozen (p := ⟨w.heap.size + 2, 0, none⟩) (by simp)]
    exact ⟨⟨kept_cell8 _ c1.1, kept_froz8 _ c1.1 c1.2⟩, c2.1, c2.2⟩
  have HB0 : Below w.heap.size w w2 := ((((Below.refl _ w).alloc (Nat.le_refl _) _).alloc (by simp) _).alloc (by simp; omega) _).trans (hw2.mono (by simp; omega))
  have hbx2 : Hid (w2.cell? ⟨w.heap.size + 3, 0, none⟩ = some (.string s)) := hbx
  clear hbx c0 c1 c2 hw2
  refine' wpIn_rangeFunc_ownF rfl (by omega) (gf := 65) (lb := #[.pointer (some ⟨w.heap.size + 3, 0, none⟩)]) rfl trivial (enters_of Tryz.func65 (by kernel_rfl) rfl)
    (each_stopsK 9 (by omega) (w.heap.size + 3) s (by omega) (fun W W' => W'.heap[w.heap.size + 3]? = W.heap[w.heap.size + 3]?) (fun W W' hk hc => (World.cell?_of_block (a := ⟨w.heap.size + 3, 0, none⟩) hk).trans hc) w2 hbx2.out) (fun h k => k.trans h) (fun W l o o' hl _ _ _ => World.putObj_heap_other (by omega)) (Below.refl _ _) (fun _ => rfl)
    (fun pre W => ((∃ r, Nm.goW u (pre.map (fun x => x.1.2)) = some r ∧ r.length ≤ 400 + 401 * pre.length ∧ W.cell? ⟨w.heap.size, 0, none⟩ = some (.string (Nm.S r)) ∧ W.frozen? ⟨w.heap.size, 0, none⟩ = false) ∧ (W.cell? ⟨w.heap.size + 1, 0, none⟩ = some (.string ⟨#[]⟩) ∧ W.frozen? ⟨w.heap.size + 1, 0, none⟩ = false) ∧ (W.cell? ⟨w.heap.size + 2, 0, none⟩ = some (.int .i64 0) ∧ W.frozen? ⟨w.heap.size + 2, 0, none⟩ = false)) ∧ Below w.heap.size w W)
    (fun c pre W => (c = .ret ∧ Nm.goW u (pre.map (fun x => x.1.2)) = none ∧ W.cell? ⟨w.heap.size + 1, 0, none⟩ = some (.string ⟨#[]⟩) ∧ W.cell? ⟨w.heap.size + 2, 0, none⟩ = some (.int .i64 83)) ∧ Below w.heap.size w W)
    (OwnFrom.and (Own.from (fun s A B row hs hg hr => by
      obtain ⟨⟨r, h1, h2, h3, h4⟩, ⟨h5, h6⟩, h7, h8⟩ := hs
      exact ⟨⟨r, h1, h2, cell_kept h3 hg hr, (frozen_kept h3 hg hr).trans h4⟩, ⟨cell_kept h5 hg hr, (frozen_kept h5 hg hr).trans h6⟩, cell_kept h7 hg hr, (frozen_kept h7 hg hr).trans h8⟩) _) (ownFrom_below (Nat.le_refl _) (by omega)))
    (fun c => OwnFrom.and (Own.from (fun s A B row hs hg hr => ⟨hs.1, hs.2.1, cell_kept hs.2.2.1 hg hr, cell_kept hs.2.2.2 hg hr⟩) _) (ownFrom_below (Nat.le_refl _) (by omega)))
    ⟨⟨⟨u, rfl, by omega, HC.1, HC.2⟩, HR.1, HR.2⟩, HB0⟩
    _ ?assign ?body ?done ?stop
  case assign =>
    intro l x W K hK
    unfold encP
    gi_wp2
    exact hK
  case body =>
    clear HC HR HB0
    rintro l pre x W ⟨⟨⟨r, hr, hrl, q0, q1⟩, ⟨q2, q3⟩, q4, q5⟩, hB⟩ hlt
    have hNN := HN.out
    have hmem := Nm.all_mem x.2
    have hpl := piece_len hmem.2
    rw [HSZ.out] at hpl
    clear hmem
    obtain ⟨at_, hat⟩ : ∃ a, Hid (x.1.1 = a) := ⟨_, rfl⟩
    obtain ⟨P, hP⟩ : ∃ a, Hid (x.1.2 = a) := ⟨_, rfl⟩
    rw [hP.out] at hpl
    have hgo : ∀ o, Nm.stepW r P = o → Hid (Nm.goW u ((pre ++ [x]).map (fun x => x.1.2)) = o) := fun o ho => by
      show _ = _
      rw [List.map_append]
      show Nm.goW u (pre.map (fun x => x.1.2) ++ [x.1.2]) = o
      rw [Nm.goW_snoc _ hr, hP.out, ho]
    rw [hat.out, hP.out]
    have hb5 : r.length + P.length ≤ 1099511627776 := by omega
    show Code.wpIn _ _ _ _ _ _ _
    have hrs : Hid ((Nm.S r).size ≤ 1099511627776) := by show _ ≤ _; rw [Nm.size_S]; omega
    have e0 : ((Nm.S P).toList == []) = decide (P = []) := s_nil P
    have e1 : ((Nm.S P).toList == [46]) = decide (P = [46]) := s_one P [46]
    have e2 : ((Nm.S P).toList == [46, 46]) = decide (P = [46, 46]) := s_one P [46, 46]
    have e3 : ((Nm.S r).toList == []) = decide (r = []) := s_nil r
    by_cases p0 : P = []
    · rw [decide_eq_true p0] at e0
      have hg1 := hgo (some r) (by unfold Nm.stepW; rw [if_pos (.inl p0)])
      clear p0
      gi_wp2
      exact ⟨KeepsOthers.refl _, rfl, ⟨⟨r, hg1.out, by rw [List.length_append]; simp; omega, q0, q1⟩, ⟨q2, q3⟩, q4, q5⟩, hB⟩
    · rw [decide_eq_false p0] at e0
      by_cases p1 : P = [46]
      · rw [decide_eq_true p1] at e1
        have hg1 := hgo (some r) (by unfold Nm.stepW; rw [if_pos (.inr p1)])
        clear p0 p1
        gi_wp2
        exact ⟨KeepsOthers.refl _, rfl, ⟨⟨r, hg1.out, by rw [List.length_append]; simp; omega, q0, q1⟩, ⟨q2, q3⟩, q4, q5⟩, hB⟩
      · rw [decide_eq_false p1] at e1
        have hst : ∀ r' : Nm.B, Hid (Nm.goW u ((pre ++ [x]).map (fun x => x.1.2)) = some r') → Hid (r'.length ≤ r.length + (P.length + 1)) →
            (∃ r, Nm.goW u ((pre ++ [x]).map (fun x => x.1.2)) = some r ∧ r.length ≤ 400 + 401 * (pre ++ [x]).length ∧ (W.setCell ⟨w.heap.size, 0, none⟩ (.string (Nm.S r'))).cell? ⟨w.heap.size, 0, none⟩ = some (.string (Nm.S r)) ∧ (W.setCell ⟨w.heap.size, 0, none⟩ (.string (Nm.S r'))).frozen? ⟨w.heap.size, 0, none⟩ = false) := fun r' h1 h2 => by
          refine ⟨r', h1.out, ?_, World.cell?_setCell_same' _ _ _ (by rw [q0]; rfl), by rw [World.frozen?_setCell]; exact q1⟩
          have := h2.out
          rw [List.length_append]; simp; omega
        have hot : ∀ v : Value, ((W.setCell ⟨w.heap.size, 0, none⟩ v).cell? ⟨w.heap.size + 1, 0, none⟩ = some (.string ⟨#[]⟩) ∧ (W.setCell ⟨w.heap.size, 0, none⟩ v).frozen? ⟨w.heap.size + 1, 0, none⟩ = false) ∧ ((W.setCell ⟨w.heap.size, 0, none⟩ v).cell? ⟨w.heap.size + 2, 0, none⟩ = some (.int .i64 0) ∧ (W.setCell ⟨w.heap.size, 0, none⟩ v).frozen? ⟨w.heap.size + 2, 0, none⟩ = false) := fun v => by
          rw [World.cell?_setCell_other _ _ _ _ (by simp), World.cell?_setCell_other _ _ _ _ (by simp), World.frozen?_setCell, World.frozen?_setCell]
          exact ⟨⟨q2, q3⟩, q4, q5⟩
        have hkp : ∀ v : Value, (W.setCell ⟨w.heap.size, 0, none⟩ v).heap[w.heap.size + 3]? = W.heap[w.heap.size + 3]? := fun v => Below.heap_setCell W ⟨w.heap.size, 0, none⟩ v _ (by show w.heap.size + 3 ≠ w.heap.size; omega)
        have hkb : ∀ v : Value, Below w.heap.size w (W.setCell ⟨w.heap.size, 0, none⟩ v) := fun v => hB.setCell (p := ⟨w.heap.size, 0, none⟩) (Nat.le_refl _) v
        have Hst : Hid _ := hst
        have Hot : Hid _ := hot
        have Hkp : Hid _ := hkp
        have Hkb : Hid _ := hkb
        clear hst hot hkp hkb
        by_cases p2 : P = [46, 46]
        · rw [decide_eq_true p2] at e2
          by_cases r0 : r = []
          · rw [decide_eq_true r0] at e3
            have hg1 := hgo none (by unfold Nm.stepW; rw [if_neg (fun h => h.elim p0 p1), if_neg (fun h => h p2), if_pos r0])
            clear p0 p1 p2 r0
            gi_wp2
            refine ⟨(KeepsOthers.setCell _ _ _).trans (KeepsOthers.setCell _ _ _), ⟨rfl, hg1.out, ?_, ?_⟩, ?_⟩
            · rw [World.cell?_setCell_other _ _ _ _ (by simp), World.cell?_setCell_same' _ _ _ (by rw [q2]; rfl)]
            · rw [World.cell?_setCell_same' _ _ _ (by rw [World.cell?_setCell_other _ _ _ _ (by simp), q4]; rfl)]
            · exact (hB.setCell (p := ⟨w.heap.size + 1, 0, none⟩) (by simp) _).setCell (p := ⟨w.heap.size + 2, 0, none⟩) (by simp) _
          · rw [decide_eq_false r0] at e3
            have hs1 : Nm.stepW r P = some (Nm.up r) := by unfold Nm.stepW; rw [if_neg (fun h => h.elim p0 p1), if_neg (fun h => h p2), if_neg r0]
            have hg1 := hgo _ hs1
            have hl1 : Hid ((Nm.up r).length ≤ r.length + (P.length + 1)) := Nm.stepW_len hs1
            clear p0 p1 p2 r0 hs1
            gi_wp2_with (first | (refine ⟨trivial, ?_⟩; gi_at_call 86; refine (CallsIn.inRound l (callsIn_wide.2 (below_any r P hb5 _))).mono ?_; rintro e w3 ⟨rfl, hw3⟩; subst w3) | (refine ⟨trivial, ?_⟩; gi_at_call 41; refine (CallsIn.inRound l (callsIn_wide.2 (nup_still (Nm.S r) hrs.out _))).mono ?_; rintro e w3 ⟨rfl, hw3⟩; subst w3; rw [Nm.toList_S]))
            exact ⟨KeepsOthers.setCell _ _ _, Hkp.out _, ⟨Hst.out _ hg1 hl1, Hot.out _⟩, Hkb.out _⟩
        · rw [decide_eq_false p2] at e2
          have hs1 : Nm.stepW r P = some (Nm.blw r P) := by unfold Nm.stepW; rw [if_neg (fun h => h.elim p0 p1), if_pos p2]
          have hg1 := hgo _ hs1
          have hl1 : Hid ((Nm.blw r P).length ≤ r.length + (P.length + 1)) := Nm.stepW_len hs1
          clear p0 p1 p2 hs1
          gi_wp2_with (first | (refine ⟨trivial, ?_⟩; gi_at_call 86; refine (CallsIn.inRound l (callsIn_wide.2 (below_any r P hb5 _))).mono ?_; rintro e w3 ⟨rfl, hw3⟩; subst w3) | (refine ⟨trivial, ?_⟩; gi_at_call 41; refine (CallsIn.inRound l (callsIn_wide.2 (nup_still (Nm.S r) hrs.out _))).mono ?_; rintro e w3 ⟨rfl, hw3⟩; subst w3; rw [Nm.toList_S]))
          exact ⟨KeepsOthers.setCell _ _ _, Hkp.out _, ⟨Hst.out _ hg1 hl1, Hot.out _⟩, Hkb.out _⟩
  case done =>
    clear HC HR HB0
    rintro D ys W hD hys ⟨⟨⟨r, hr, hrl, q0, q1⟩, ⟨q2, q3⟩, q4, q5⟩, hB⟩ hK
    have hgo : Nm.goW u (Nm.pieces s.toList) = some r := by
      rw [← Nm.all_snd, ← hys, List.map_map]; exact hr
    have hAE2 := hAE.out
    rw [hgo] at hAE2
    have hAE3 : ((r, 0) : Nm.B × Int) = (rA, rE) := hAE2
    rw [Prod.mk.injEq] at hAE3
    obtain ⟨rfl, rfl⟩ := hAE3
    clear hAE2 hgo hr
    obtain ⟨V, hV⟩ : ∃ V, Hid (V = (W.setCell ⟨w.heap.size + 1, 0, none⟩ (.string (Nm.S r))).setCell ⟨w.heap.size + 2, 0, none⟩ (.int .i64 0)) := ⟨_, rfl⟩
    have r0 : V.cell? ⟨w.heap.size + 1, 0, none⟩ = some (.string (Nm.S r)) := by
      rw [hV.out, World.cell?_setCell_other _ _ _ _ (by simp), World.cell?_setCell_same' _ _ _ (by rw [q2]; rfl)]
    have r1 : V.cell? ⟨w.heap.size + 2, 0, none⟩ = some (.int .i64 0) := by
      rw [hV.out, World.cell?_setCell_same' _ _ _ (by rw [World.cell?_setCell_other _ _ _ _ (by simp), q4]; rfl)]
    have hVB : Below w.heap.size w V := by
      rw [hV.out]
      exact (hB.setCell (p := ⟨w.heap.size + 1, 0, none⟩) (by simp) _).setCell (p := ⟨w.heap.size + 2, 0, none⟩) (by simp) _
    have hVD : V.heap[D]? = some (.deferred (some [])) := by
      rw [hV.out]
      exact (Below.heap_setCell _ ⟨w.heap.size + 2, 0, none⟩ _ D (by show D ≠ w.heap.size + 2; omega)).trans ((Below.heap_setCell W ⟨w.heap.size + 1, 0, none⟩ _ D (by show D ≠ w.heap.size + 1; omega)).trans hK)
    gi_wp2
    rw [← hV.out]
    have r2 := cell_kept r0 (grownBy_putObj' _ D (.deferred none)) (fun r e => by cases e; exact ⟨_, hVD, rfl⟩)
    have r3 := cell_kept r1 (grownBy_putObj' _ D (.deferred none)) (fun r e => by cases e; exact ⟨_, hVD, rfl⟩)
    refine ⟨by simp, .inl ⟨_, _, rfl, run_takeDeferred hVD, ?_⟩⟩
    refine ⟨.tuple #[.string (Nm.S r), .int .i64 0], ?_, rfl, hVB.trans (belowK_b (w := w) (Nat.le_refl _) _ D _ (.deferred none) (by omega) hVD rfl rfl)⟩
    simp [results, Tryz.f68, go_sem, r2, r3]
  case stop =>
    clear HC HR HB0
    rintro D c pre W hD hpre ⟨⟨rfl, hno, h0, h1⟩, hB⟩ hK
    have hgo : Nm.goW u (Nm.pieces s.toList) = none := by
      refine Nm.goW_none hno ?_
      have := hpre.map (fun x => x.2)
      rw [List.map_map, Nm.all_snd] at this
      exact this
    have hAE2 := hAE.out
    rw [hgo] at hAE2
    have hAE3 : (([], 83) : Nm.B × Int) = (rA, rE) := hAE2
    rw [Prod.mk.injEq] at hAE3
    obtain ⟨rfl, rfl⟩ := hAE3
    clear hAE2 hgo hno
    gi_wp2
    have r2 := cell_kept h0 (grownBy_putObj' _ D (.deferred none)) (fun r e => by cases e; exact ⟨_, hK, rfl⟩)
    have r3 := cell_kept h1 (grownBy_putObj' _ D (.deferred none)) (fun r e => by cases e; exact ⟨_, hK, rfl⟩)
    refine ⟨by simp, .inl ⟨_, _, rfl, run_takeDeferred hK, ?_⟩⟩
    refine ⟨.tuple #[.string ⟨#[]⟩, .int .i64 83], ?_, rfl, hB.trans (belowK_b (w := w) (Nat.le_refl _) _ D _ (.deferred none) (by omega) hK rfl rfl)⟩
    simp [results, Tryz.f68, go_sem, r2, r3]
theorem head_pre (t : ByteArray) : (⟨#[47]⟩ : ByteArray).toList.isPrefixOf t.toList = decide (t.toList.head? = some 47) := by
  rw [show (⟨#[47]⟩ : ByteArray).toList = [47] from Nm.toList_S [47]]
  cases t.toList with
  | nil => rfl
  | cons c l =>
    by_cases h : c = 47
    · subst h; simp [List.isPrefixOf]
    · have h2 : ¬ 47 = c := fun e => h e.symm
      simp [List.isPrefixOf, h, h2]
set_option maxRecDepth 100000 in
set_option maxHeartbeats 1000000 in
theorem nlead_any (s t : ByteArray) (hs : s.size ≤ 4611686018427387904) (ht : t.size ≤ 4611686018427387904) (w : World) :
    Calls Tryz.prog 52 #[.string s, .string t] w fun e w' => e = .returned (.tuple #[.string (Nm.S (Nm.lead s.toList t.toList).1), .int .i64 (Nm.lead s.toList t.toList).2]) ∧ Bw w w' := by
  have HTZ : Hid (t.toList.length = t.size) := Nm.size_toList t
  obtain ⟨rA, rE, hR⟩ : ∃ a b, Hid (Nm.lead s.toList t.toList = (a, b)) := ⟨_, _, show Nm.lead s.toList t.toList = _ from rfl⟩
  rw [hR.out]
  obtain ⟨cA, cE, hc⟩ : ∃ a b, Hid (Nm.check s.toList = (a, b)) := ⟨_, _, show Nm.check s.toList = _ from rfl⟩
  have hb := Nm.check_bd s.toList
  rw [hc.out] at hb
  obtain ⟨b1, b2, b3, b4⟩ := hb
  dsimp only at b1 b2 b3 b4
  have hc2 : Hid ((Nm.check s.toList).2 = cE) := by show _ = _; rw [hc.out]
  by_cases h0 : cE = 0
  · subst h0
    by_cases h1 : t.toList = []
    · have hr := hR.out
      unfold Nm.lead at hr
      rw [if_neg (fun h => h hc2.out), if_pos h1, Prod.mk.injEq] at hr
      obtain ⟨rfl, rfl⟩ := hr
      go_enter Tryz.func52, Tryz.ntmps52
      go_wp2_with (go_at_call 35; refine (ncheck_any s hs _).mono ?_; rintro e w1 ⟨rfl, hw1⟩; rw [hc.out])
      go_ret2
      exact ⟨rfl, hw1⟩
    · have e1 : (t.toList == []) = false := by rw [beq_eq_false_iff_ne]; exact h1
      by_cases h2 : 400 < t.size
      · have hr := hR.out
        unfold Nm.lead at hr
        rw [if_neg (fun h => h hc2.out), if_neg h1, if_pos (by rw [HTZ.out]; exact h2), Prod.mk.injEq] at hr
        obtain ⟨rfl, rfl⟩ := hr
        clear h1
        have t2 : (400 : Int) < (t.size : Int) := by omega
        go_enter Tryz.func52, Tryz.ntmps52
        go_wp2_with (go_at_call 35; refine (ncheck_any s hs _).mono ?_; rintro e w1 ⟨rfl, hw1⟩; rw [hc.out])
        go_ret2
        exact ⟨rfl, hw1⟩
      · have t2 : (t.size : Int) ≤ 400 := by omega
        cases hn : Nm.nul t.toList with
        | some n =>
          have hr := hR.out
          unfold Nm.lead at hr
          rw [if_neg (fun h => h hc2.out), if_neg h1, if_neg (by rw [HTZ.out]; exact h2), if_pos (by rw [hn]; simp), Prod.mk.injEq] at hr
          obtain ⟨rfl, rfl⟩ := hr
          have hI : Hid (Nm.nulI t.toList = (n : Int)) := by show _ = _; unfold Nm.nulI; rw [hn]
          have n0 : (0 : Int) ≤ (n : Int) := Int.natCast_nonneg _
          clear h1 hn
          go_enter Tryz.func52, Tryz.ntmps52
          go_wp2_with (first | (go_at_call 35; refine (ncheck_any s hs _).mono ?_; rintro e w1 ⟨rfl, hw1⟩; rw [hc.out]) | (go_at_call 66; refine (lx_idx0 t _).mono ?_; rintro e w2 ⟨rfl, hw2⟩; subst w2; rw [hI.out]))
          go_ret2
          exact ⟨rfl, hw1⟩
        | none =>
          have hI : Hid (Nm.nulI t.toList = -1) := by show _ = _; unfold Nm.nulI; rw [hn]
          by_cases h3 : t.toList.head? = some 47
          · have hr := hR.out
            unfold Nm.lead at hr
            rw [if_neg (fun h => h hc2.out), if_neg h1, if_neg (by rw [HTZ.out]; exact h2), if_neg (fun h => h hn), if_pos h3, Prod.mk.injEq] at hr
            obtain ⟨rfl, rfl⟩ := hr
            have hX : Hid ((⟨#[47]⟩ : ByteArray).toList.isPrefixOf t.toList = true) := by show _ = _; rw [head_pre]; exact decide_eq_true h3
            clear h1 hn h3
            go_enter Tryz.func52, Tryz.ntmps52
            go_wp2_with (first | (go_at_call 35; refine (ncheck_any s hs _).mono ?_; rintro e w1 ⟨rfl, hw1⟩; rw [hc.out]) | (go_at_call 66; refine (lx_idx0 t _).mono ?_; rintro e w2 ⟨rfl, hw2⟩; subst w2; rw [hI.out]) | (go_at_call 67; refine (lx_hasp t ⟨#[47]⟩ _).mono ?_; rintro e w3 ⟨rfl, hw3⟩; subst w3; rw [hX.out]))
            go_ret2
            exact ⟨rfl, hw1⟩
          · have hX : Hid ((⟨#[47]⟩ : ByteArray).toList.isPrefixOf t.toList = false) := by show _ = _; rw [head_pre]; exact decide_eq_false h3
            have hsl := ((Nm.check_iff _).1 hc2.out).1
            obtain ⟨U, hU⟩ : ∃ U, Hid (Nm.up s.toList = U) := ⟨_, rfl⟩
            have hUl : U.length ≤ 400 := by rw [← hU.out]; exact Nat.le_trans (Nm.up_len8 _) hsl
            have hs2 : s.size ≤ 1099511627776 := by rw [Nm.size_toList] at hsl; omega
            have ht4 : t.size ≤ 400 := by omega
            have hW : Hid (Nm.wayE (Nm.goW U (Nm.pieces t.toList)) = (rA, rE)) := by
              show _ = _
              rw [← hR.out, Nm.lead_is hc2.out h1 (by rw [HTZ.out]; exact ht4) hn h3, hU.out]
              rfl
            have hrb := Nm.lead_bd s.toList t.toList
            rw [hR.out] at hrb
            obtain ⟨d1, d2⟩ := hrb
            dsimp only at d1 d2
            clear h1 hn h3 hsl h2
            go_enter Tryz.func52, Tryz.ntmps52
            go_wp2_with (first | (go_at_call 35; refine (ncheck_any s hs _).mono ?_; rintro e w1 ⟨rfl, hw1⟩; rw [hc.out]) | (go_at_call 66; refine (lx_idx0 t _).mono ?_; rintro e w2 ⟨rfl, hw2⟩; subst w2; rw [hI.out]) | (go_at_call 67; refine (lx_hasp t ⟨#[47]⟩ _).mono ?_; rintro e w3 ⟨rfl, hw3⟩; subst w3; rw [hX.out]) | (go_at_call 41; refine (nup_still s hs2 _).mono ?_; rintro e w4 ⟨rfl, hw4⟩; subst w4; rw [hU.out]) | (go_at_call 68; refine ((callsIn_wide (n := 10)).1 (walk_in U t hUl ht4 _)).mono ?_; rintro e w5 ⟨rfl, hw5⟩; rw [hW.out]))
            go_ret2
            exact ⟨rfl, hw1.trans hw5⟩
  · have hr := hR.out
    unfold Nm.lead at hr
    rw [if_pos (by rw [hc2.out]; exact h0), hc2.out, Prod.mk.injEq] at hr
    obtain ⟨rfl, rfl⟩ := hr
    have e1 : (cE != 0) = true := by rw [bne_iff_ne]; exact h0
    go_enter Tryz.func52, Tryz.ntmps52
    go_wp2_with (go_at_call 35; refine (ncheck_any s hs _).mono ?_; rintro e w1 ⟨rfl, hw1⟩; rw [hc.out])
    go_ret2
    exact ⟨rfl, hw1⟩
end Go.Proofs.YtldkhbkgmiicbabGreatDoor

/- The program's own name: all its contracts. -/

/- One order: Compare is an order, folders stand ahead of what is beneath them; the contract of the statements' own awake, of layer 8. -/
namespace Go.Proofs.YtldkhbkgmiicbabGreatDoor
open Go.RowKit Go.Deep
set_option linter.unusedVariables false
set_option linter.unusedSimpArgs false

namespace Nm
theorem cmpP_refl : ∀ xs : List B, cmpP xs xs = 0
  | [] => rfl
  | x :: xs => by unfold cmpP; rw [less_irr, if_neg (by simp), if_neg (by simp)]; exact cmpP_refl xs
theorem cmpP_neg : ∀ xs ys : List B, cmpP ys xs = - cmpP xs ys
  | [], [] => rfl
  | [], _ :: _ => rfl
  | _ :: _, [] => rfl
  | x :: xs, y :: ys => by
    have ih := cmpP_neg xs ys
    unfold cmpP
    by_cases h : less x y = true
    · rw [less_asym h, if_neg (by simp), if_pos h, if_pos h]; rfl
    · by_cases k : less y x = true
      · rw [if_pos k, if_neg h, if_pos k]
      · rw [if_neg k, if_neg h, if_neg h, if_neg k]; exact ih
theorem cmpP_range : ∀ xs ys : List B, cmpP xs ys = -1 ∨ cmpP xs ys = 0 ∨ cmpP xs ys = 1
  | [], [] => Or.inr (Or.inl rfl)
  | [], _ :: _ => Or.inl rfl
  | _ :: _, [] => Or.inr (Or.inr rfl)
  | x :: xs, y :: ys => by
    unfold cmpP
    split
    · exact Or.inl rfl
    · split
      · exact Or.inr (Or.inr rfl)
      · exact cmpP_range xs ys
theorem cmpP_zero : ∀ xs ys : List B, cmpP xs ys = 0 → xs = ys
  | [], [], _ => rfl
  | [], _ :: _, h => by simp [cmpP] at h
  | _ :: _, [], h => by simp [cmpP] at h
  | x :: xs, y :: ys, h => by
    unfold cmpP at h
    by_cases h1 : less x y = true
    · rw [if_pos h1] at h; omega
    · by_cases h2 : less y x = true
      · rw [if_neg h1, if_pos h2] at h; omega
      · rw [if_neg h1, if_neg h2] at h
        rw [less_tot x y (by simpa using h1) (by simpa using h2), cmpP_zero xs ys h]
theorem cmpP_trans : ∀ xs ys zs : List B, cmpP xs ys = -1 → cmpP ys zs = -1 → cmpP xs zs = -1
  | _, [], [], _, h => by simp [cmpP] at h
  | _, _ :: _, [], _, h => by simp [cmpP] at h
  | [], [], _ :: _, h, _ => by simp [cmpP] at h
  | _ :: _, [], _ :: _, h, _ => by simp [cmpP] at h
  | [], _ :: _, _ :: _, _, _ => rfl
  | x :: xs, y :: ys, z :: zs, h, k => by
    unfold cmpP at h k ⊢
    by_cases h1 : less x y = true
    · by_cases k1 : less y z = true
      · rw [if_pos (less_trans x y z h1 k1)]
      · by_cases k2 : less z y = true
        · rw [if_neg k1, if_pos k2] at k; omega
        · have e := less_tot y z (by simpa using k1) (by simpa using k2)
          rw [← e, if_pos h1]
    · by_cases h2 : less y x = true
      · rw [if_neg h1, if_pos h2] at h; omega
      · have e := less_tot x y (by simpa using h1) (by simpa using h2)
        subst e
        rw [if_neg h1, if_neg h1] at h
        by_cases k1 : less x z = true
        · rw [if_pos k1]
        · by_cases k2 : less z x = true
          · rw [if_neg k1, if_pos k2] at k; omega
          · rw [if_neg k1, if_neg k2] at k ⊢
            exact cmpP_trans xs ys zs h k
theorem front_cons {x y : B} {xs ys : List B} : Front (x :: xs) (y :: ys) ↔ x = y ∧ Front xs ys := by
  constructor
  · rintro ⟨h1, h2⟩
    refine ⟨h2 0 (by simp) (by simp), by simpa using h1, fun i a b => ?_⟩
    have := h2 (i + 1) (by simpa using a) (by simpa using b)
    simpa using this
  · rintro ⟨rfl, h1, h2⟩
    refine ⟨by simpa using h1, fun i a b => ?_⟩
    cases i with
    | zero => rfl
    | succ i => have := h2 i (by simpa using a) (by simpa using b); simpa using this
theorem between : ∀ xs ys zs : List B, Front xs zs → cmpP xs ys = -1 → cmpP ys zs = -1 → Front xs ys
  | [], [], _, _, h, _ => by simp [cmpP] at h
  | [], _ :: _, _, _, _, _ => ⟨by simp, fun i a b => by simp at a⟩
  | _ :: _, [], _, _, h, _ => by simp [cmpP] at h
  | x :: xs, y :: ys, [], f, _, _ => by have := f.1; simp at this
  | x :: xs, y :: ys, z :: zs, f, h, k => by
    obtain ⟨e0, f2⟩ := front_cons.1 f
    subst e0
    unfold cmpP at h k
    by_cases h1 : less x y = true
    · rw [less_asym h1, if_neg (by simp), if_pos h1] at k; omega
    · by_cases h2 : less y x = true
      · rw [if_neg h1, if_pos h2] at h; omega
      · rw [if_neg h1, if_neg h2] at h
        rw [if_neg h2, if_neg h1] at k
        rw [less_tot x y (by simpa using h1) (by simpa using h2)]
        exact front_cons.2 ⟨rfl, between xs ys zs f2 h k⟩
/-- what the statement of the order asks of Compare -/
theorem cmp_facts (a b c : B) : (cmp a b = -1 ∨ cmp a b = 0 ∨ cmp a b = 1) ∧ cmp b a = - cmp a b ∧ (cmp a b = 0 ↔ a = b) ∧ (cmp a b ≤ 0 → cmp b c ≤ 0 → cmp a c ≤ 0) ∧ (cmp a b < 0 → cmp b c ≤ 0 → cmp a c < 0) := by
  have r1 := cmpP_range (pieces a) (pieces b)
  have r2 := cmpP_range (pieces b) (pieces c)
  have lt : cmp a b < 0 → cmp b c ≤ 0 → cmp a c < 0 := fun h k => by
    unfold cmp at h k ⊢
    rcases r2 with r | r | r
    · have := cmpP_trans _ _ _ (show cmpP (pieces a) (pieces b) = -1 by omega) r; omega
    · rw [← cmpP_zero _ _ r]; exact h
    · omega
  refine ⟨r1, cmpP_neg _ _, ⟨fun h => pieces_inj (cmpP_zero _ _ h), fun h => by rw [h]; exact cmpP_refl _⟩, fun h k => ?_, lt⟩
  rcases r1 with r | r | r
  · have := lt (by unfold cmp; omega) k; omega
  · have e := pieces_inj (cmpP_zero _ _ r); rw [e]; exact k
  · unfold cmp at h; omega
end Nm

end Go.Proofs.YtldkhbkgmiicbabGreatDoor
