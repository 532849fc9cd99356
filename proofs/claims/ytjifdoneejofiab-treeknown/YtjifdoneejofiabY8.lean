/- The program's own joined, end, follow and Real, of layer 11, as landed at 97b3c5cd. -/
import Derived.Test.YtjifdoneejofiabUA
import Derived.Test.YtjifdoneejofiabY5
namespace Go.Proofs.Ytjifdoneejofiab
open Go.RowKit Go.Deep
set_option linter.unusedVariables false
set_option linter.unusedSimpArgs false

/-- what stands behind the first stroke -/
def Tr.aft (l : Tr.B) : Tr.B := if (47 : UInt8) ∈ l then l.drop ((Nm.fst l).length + 1) else []
set_option maxRecDepth 100000 in
set_option maxHeartbeats 1000000 in
theorem lcut2_any (s : ByteArray) (w : World) (hs : s.size ≤ 4611686018427387904) :
    Calls Try.prog 71 #[.string s, .string ⟨#[47]⟩] w fun e w' => e = .returned (.tuple #[.string (Nm.S (Nm.fst s.toList)), .string (Nm.S (Tr.aft s.toList)), .bool (decide ((47 : UInt8) ∈ s.toList))]) ∧ ∃ n, w' = w.drewN n := by
  have HSZ : Hid (s.toList.length = s.size) := Nm.size_toList s
  by_cases hm : (47 : UInt8) ∈ s.toList
  · rw [decide_eq_true hm]
    obtain ⟨i, hi⟩ : ∃ i, Hid (i = (Nm.fst s.toList).length) := ⟨_, rfl⟩
    have hix : Hid (Lib.indexByte s.toList 47 = (i : Int)) := by show _ = _; rw [Nm.idx_stroke _ hm, ← hi.out]
    have hlt : i + 1 ≤ s.size := by have := Nm.fst_lt hm; rw [← hi.out, HSZ.out] at this; exact this
    have c1 : (0 : Int) ≤ (i : Int) := Int.natCast_nonneg _
    have c2 : (i : Int) ≤ (s.size : Int) := by omega
    have c3 : (0 : Int) ≤ (i : Int) + 1 := by omega
    have c4 : (i : Int) + 1 ≤ (s.size : Int) := by omega
    have hf : Hid (Nm.S (Nm.fst s.toList) = s.extract 0 i) := by show _ = _; rw [Nm.extract_to, hi.out, ← Nm.fst_take hm]
    have hg : Hid (Nm.S (Tr.aft s.toList) = s.extract (i + 1) s.size) := by show _ = _; unfold Tr.aft; rw [if_pos hm, Nm.extract_from, hi.out]
    rw [hf.out, hg.out]
    clear hm
    go_enter Try.func71, Try.ntmps71
    go_wp2_with (go_at_call 77; refine (lx_index s _).mono ?_; rintro e w1 ⟨rfl, rfl⟩; rw [hix.out])
    go_region
    go_wp2
    go_ret3
    exact ⟨rfl, 1, rfl⟩
  · rw [decide_eq_false hm]
    have hix : Hid (Lib.indexByte s.toList 47 = -1) := Nm.idx_no _ _ hm
    have hf : Hid (Nm.S (Nm.fst s.toList) = s) := by show _ = _; rw [Nm.fst_free _ hm, Nm.S_toList]
    have hg : Hid (Nm.S (Tr.aft s.toList) = ⟨#[]⟩) := by show _ = _; unfold Tr.aft; rw [if_neg hm]; rfl
    rw [hf.out, hg.out]
    clear hm
    go_enter Try.func71, Try.ntmps71
    go_wp2_with (go_at_call 77; refine (lx_index s _).mono ?_; rintro e w1 ⟨rfl, rfl⟩; rw [hix.out])
    go_ret3
    exact ⟨rfl, 0, rfl⟩
theorem Tr.fst_joined {a : Tr.B} {rest : List Tr.B} (h : Nm.Parts (a :: rest)) : Nm.fst (Nm.joined (a :: rest)) = a ∧ Tr.aft (Nm.joined (a :: rest)) = Nm.joined rest := by
  have ha : (47 : UInt8) ∉ a := (h a (by simp)).2
  cases rest with
  | nil =>
    have e : Nm.joined [a] = a := rfl
    rw [e]
    exact ⟨Nm.fst_free a ha, by unfold Tr.aft; rw [if_neg ha]; rfl⟩
  | cons b l =>
    have e := Nm.joined_cons a (ps := b :: l) (by simp)
    have hm : (47 : UInt8) ∈ Nm.joined (a :: b :: l) := by rw [e]; simp
    have hp := Nm.pieces_append a (Nm.joined (b :: l)) ha
    rw [← e] at hp
    obtain ⟨r, hr⟩ := Nm.pieces_head (Nm.joined (a :: b :: l))
    rw [hp] at hr
    have hf : Nm.fst (Nm.joined (a :: b :: l)) = a := by injection hr with h1 h2; exact h1.symm
    refine ⟨hf, ?_⟩
    unfold Tr.aft
    rw [if_pos hm, hf, e]
    rw [show a.length + 1 = (a ++ [47]).length by simp, show a ++ 47 :: Nm.joined (b :: l) = (a ++ [47]) ++ Nm.joined (b :: l) by simp, List.drop_left]
set_option maxRecDepth 100000 in
set_option maxHeartbeats 1000000 in
theorem cutp_any (a : Tr.B) (rest : List Tr.B) (h : Nm.Parts (a :: rest)) (hl : (Nm.joined (a :: rest)).length ≤ 4611686018427387904) (w : World) :
    Calls Try.prog 56 #[.string (Nm.S (Nm.joined (a :: rest))), .string ⟨#[47]⟩] w fun e w' => ∃ b, e = .returned (.tuple #[.string (Nm.S a), .string (Nm.S (Nm.joined rest)), .bool b]) ∧ Bw w w' := by
  obtain ⟨s, hs⟩ : ∃ s, Hid (s = Nm.S (Nm.joined (a :: rest))) := ⟨_, rfl⟩
  obtain ⟨M, hM⟩ : ∃ M, Hid (M = decide ((47 : UInt8) ∈ s.toList)) := ⟨_, rfl⟩
  have HC : Hid (∀ u, Calls Try.prog 71 #[.string s, .string ⟨#[47]⟩] u fun e w' => e = .returned (.tuple #[.string (Nm.S a), .string (Nm.S (Nm.joined rest)), .bool M]) ∧ Bw u w') := fun u => by
    have := lcut2_any s u (by rw [hs.out, Nm.size_S]; exact hl)
    rw [← hM.out, hs.out, Nm.toList_S, (Tr.fst_joined h).1, (Tr.fst_joined h).2] at this
    rw [hs.out]
    refine this.mono fun e w' ⟨h1, n, h2⟩ => ⟨h1, by rw [h2]; exact Bw.drewN _ _⟩
  rw [← hs.out]
  go_enter Try.func56, Try.ntmps56
  go_wp2_with (go_at_call 71; refine (HC.out _).mono ?_; rintro e w1 ⟨rfl, hw1⟩)
  go_ret3
  exact ⟨M, rfl, hw1⟩
/-- the program's joined -/
def Tr.jn (p q : Tr.B) : Tr.B := if p = [] ∨ q = [] then p ++ q else p ++ 47 :: q
set_option maxRecDepth 100000 in
theorem tjoined_any (p q : Tr.B) (h : p.length + q.length ≤ 1099511627776) (w : World) : Calls Try.prog 57 #[.string (Nm.S p), .string (Nm.S q)] w fun e w' => e = .returned (.string (Nm.S (Tr.jn p q))) ∧ w' = w := by
  have z1 : (Nm.S p).size = p.length := Nm.size_S p
  have z2 : (Nm.S q).size = q.length := Nm.size_S q
  by_cases h1 : p = []
  · subst h1
    have e : Tr.jn [] q = q := by unfold Tr.jn; rw [if_pos (.inl rfl)]; rfl
    rw [e]
    have hz : Nm.S [] ++ Nm.S q = Nm.S q := by rw [Nm.append_S]; rfl
    have hq0 : ((Nm.S []).toList == []) = true := by rw [Nm.toList_S]; rfl
    have b1 : ¬ 9223372036854775807 < (Nm.S []).size + (Nm.S q).size := by rw [z1, z2]; simp; omega
    clear z1 z2
    generalize Nm.S [] = x at *
    generalize Nm.S q = y at *
    go_enter Try.func57, Try.ntmps57
    go_wp2
    go_ret
    exact ⟨by first | rfl | rw [hz], rfl⟩
  have e1 : ((Nm.S p).toList == []) = false := by rw [Nm.toList_S, beq_eq_false_iff_ne]; exact h1
  by_cases h2 : q = []
  · subst h2
    have e : Tr.jn p [] = p := by unfold Tr.jn; rw [if_pos (.inr rfl), List.append_nil]
    rw [e]
    have hz : Nm.S p ++ Nm.S [] = Nm.S p := by rw [Nm.append_S, List.append_nil]
    have hq0 : ((Nm.S []).toList == []) = true := by rw [Nm.toList_S]; rfl
    have b1 : ¬ 9223372036854775807 < (Nm.S p).size + (Nm.S []).size := by rw [z1, z2]; simp; omega
    clear z1 z2 h1
    generalize Nm.S [] = y at *
    generalize Nm.S p = x at *
    go_enter Try.func57, Try.ntmps57
    go_wp2
    go_ret
    exact ⟨by first | rfl | rw [hz], rfl⟩
  · have e2 : ((Nm.S q).toList == []) = false := by rw [Nm.toList_S, beq_eq_false_iff_ne]; exact h2
    have e : Tr.jn p q = p ++ 47 :: q := by unfold Tr.jn; rw [if_neg (fun h => by rcases h with h | h; exact h1 h; exact h2 h)]
    rw [e]
    have hz : Nm.S p ++ ⟨#[47]⟩ ++ Nm.S q = Nm.S (p ++ 47 :: q) := by
      rw [show (⟨#[47]⟩ : ByteArray) = Nm.S [47] from rfl, Nm.append_S, Nm.append_S]; congr 1; simp
    have b1 : ¬ 9223372036854775807 < (Nm.S p).size + 1 := by rw [z1]; omega
    have b2 : ¬ 9223372036854775807 < (Nm.S p).size + 1 + (Nm.S q).size := by rw [z1, z2]; omega
    rw [← hz]
    clear z1 z2 h1 h2 hz
    generalize Nm.S q = y at *
    generalize Nm.S p = x at *
    go_enter Try.func57, Try.ntmps57
    go_wp2
    go_ret
    exact ⟨rfl, rfl⟩
/-- what an item leads to -/
def Tr.goesTo (x : Tr.It) : Tr.B := if x.kind = 4 then (Nm.lead x.path x.to).1 else Tr.endOf x
set_option maxRecDepth 100000 in
set_option maxHeartbeats 2000000 in
theorem end_any (y : Tr.Iv) (hf : Tr.Fit y.it) (hm : Tr.mayE y.it = 0) (w : World) : Calls Try.prog 58 #[.agg y.arr] w fun e w' => e = .returned (.string (Nm.S (Tr.goesTo y.it))) ∧ Bw w w' := by
  obtain ⟨f1, f2, f3, f4, f5, f6⟩ := hf
  have hkd := Tr.may_kind hm
  obtain ⟨W, hW⟩ : ∃ W, W = w.alloc (.cells y.arr 26) := ⟨_, rfl⟩
  have hbw : Bw w W := by rw [hW]; exact bw_alloc11 (Bw.refl _) _
  have hX : Hid (BoxAt W w.heap.size y) := by rw [hW]; exact BoxAt.new _ _
  obtain ⟨mx, hmx⟩ : ∃ r, Hid (Tr.tMode y.it.kind = r) := ⟨_, rfl⟩
  obtain ⟨tx, htx⟩ : ∃ r, Hid (Tr.tTime y.it.kind = r) := ⟨_, rfl⟩
  obtain ⟨bx, hbx⟩ : ∃ r, Hid (Tr.tBody y.it.kind = r) := ⟨_, rfl⟩
  obtain ⟨lk, hlk⟩ : ∃ r, Hid (Tr.lnk y.it.kind = r) := ⟨_, rfl⟩
  obtain ⟨fv, hfv⟩ : ∃ r, Hid (Tr.tLead y.it.kind = r) := ⟨_, rfl⟩
  obtain ⟨ok, hok⟩ : ∃ r, Hid (Tr.isKind y.it.kind = r) := ⟨_, rfl⟩
  have HT : Hid (∀ u, Calls Try.prog 44 #[.int .u8 (y.it.kind : Int)] u fun e w' => e = .returned (.tuple #[.agg #[.int .i64 mx, .int .i64 tx, .int .i64 bx, .bool lk, fv], .bool ok]) ∧ Bw u w') := fun u => by
    have := traits_any y.it.kind u
    unfold Tr.trv at this
    rwa [hmx.out, htx.out, hbx.out, hlk.out, hfv.out, hok.out] at this
  have hone : Hid (fv.oneCell' = true) := by
    show _ = _
    rw [← hfv.out]; unfold Tr.tLead
    repeat' split
    all_goals rfl
  have hif := info_trv mx tx bx lk fv
  obtain ⟨G, hG⟩ : ∃ G, Hid (Nm.S (Tr.goesTo y.it) = G) := ⟨_, rfl⟩
  rw [hG.out]
  have HLD : Hid (∃ g le, fv = .func (.func g) #[] #[] ∧ (g = 62 ∨ g = 63 ∨ g = 64) ∧ ∀ u, Calls Try.prog g #[.string (Nm.S y.it.path), .string (Nm.S y.it.to)] u fun e w' => e = .returned (.tuple #[.string G, .int .i64 le]) ∧ Bw u w') := by
    have h4 : (y.it.kind = 1 ∨ y.it.kind = 2) ∨ y.it.kind = 3 ∨ y.it.kind = 4 := by omega
    show ∃ g le, _
    rcases h4 with h | h | h
    · refine ⟨62, 0, by rw [← hfv.out]; unfold Tr.tLead; rw [if_pos h], .inl rfl, fun u => ?_⟩
      have e : Tr.goesTo y.it = y.it.path := by unfold Tr.goesTo Tr.endOf; rw [if_neg (by omega), if_neg (by omega)]
      rw [← hG.out, e]; exact itself_any _ _ u
    · refine ⟨63, 0, by rw [← hfv.out]; unfold Tr.tLead; rw [if_neg (by omega), if_pos h], .inr (.inl rfl), fun u => ?_⟩
      have e : Tr.goesTo y.it = y.it.to := by unfold Tr.goesTo Tr.endOf; rw [if_neg (by omega), if_pos h]
      have hc := Tr.may_hard hm h
      have := named_any y.it.path y.it.to (by omega) u
      rw [if_pos hc, hc] at this
      rw [← hG.out, e]; exact this
    · refine ⟨64, 0, by rw [← hfv.out]; unfold Tr.tLead; rw [if_neg (by omega), if_neg (by omega), if_pos h], .inr (.inr rfl), fun u => ?_⟩
      have e : Tr.goesTo y.it = (Nm.lead y.it.path y.it.to).1 := by unfold Tr.goesTo; rw [if_pos h]
      have hc := Tr.may_soft hm h
      have := nleadL y.it.path y.it.to (by omega) (by omega) u
      rw [hc] at this
      rw [← hG.out, e]; exact this
  obtain ⟨x0, x1, x2, x3, x4, x5⟩ := hX.out.cells
  clear hkd hm
  go_enter Try.func58, Try.ntmps58
  go_upto_region 1 with fail
  rw [← hW]
  clear hW
  go_upto_region 2 with (first
    | (go_at_call 44; refine (HT.out _).mono ?_; rintro e w2 ⟨rfl, hw2⟩; have hb2 := hbw.trans hw2; clear x0 x1 x2 x3 x4 x5; have hX2 : Hid (BoxAt w2 w.heap.size y) := hX.out.keep hw2)
    | (refine wpList_store_row rfl 69 _ _ rfl w2.heap.size #[.int .i64 mx, .int .i64 tx, .int .i64 bx, .bool lk, fv] rfl rfl 69 _ (heap_alloc_new _ _) hif rfl (one_trv _ _ _ _ _ hone.out) ?_; rw [setRow_alloc_new]; obtain ⟨W3, hW3⟩ : ∃ V, V = w2.alloc (.cells #[.int .i64 mx, .int .i64 tx, .int .i64 bx, .bool lk, fv] 69) := ⟨_, rfl⟩; have hT3 : TrtAt W3 w2.heap.size #[.int .i64 mx, .int .i64 tx, .int .i64 bx, .bool lk, fv] := (by rw [hW3]; exact heap_alloc_new _ _); have hb3 : Bw w2 W3 := (by rw [hW3]; exact bw_alloc11 (Bw.refl _) _); rw [← hW3]; clear hW3; obtain ⟨x0, -, -, -, -, x5⟩ := (hX2.out.keep hb3).cells; have t4 : W3.cell? ⟨w2.heap.size, 4, none⟩ = some fv := cell_of_row W3 w2.heap.size 4 _ _ _ hT3; have hbb := hb2.trans hb3; clear hT3))
  obtain ⟨g, le, rfl, hg, hcl⟩ := HLD.out
  have HCL : Hid (∀ u, Calls Try.prog g #[.string (Nm.S y.it.path), .string (Nm.S y.it.to)] u fun e w' => e = .returned (.tuple #[.string G, .int .i64 le]) ∧ Bw u w') := hcl
  clear HLD hcl
  rcases hg with rfl | rfl | rfl
  · go_wp2_with (go_at_call 62; refine (HCL.out _).mono ?_; rintro e w5 ⟨rfl, hw5⟩)
    go_ret
    exact ⟨rfl, hbb.trans hw5⟩
  · go_wp2_with (go_at_call 63; refine (HCL.out _).mono ?_; rintro e w5 ⟨rfl, hw5⟩)
    go_ret
    exact ⟨rfl, hbb.trans hw5⟩
  · go_wp2_with (go_at_call 64; refine (HCL.out _).mono ?_; rintro e w5 ⟨rfl, hw5⟩)
    go_ret
    exact ⟨rfl, hbb.trans hw5⟩
end Go.Proofs.Ytjifdoneejofiab
