/- Texts of mine, put together. -/
import Derived.Test.YtldkhbkgmiicbaaGreatDoorBu21
import Derived.Test.YtldkhbkgmiicbaaGreatDoorBu19
import Derived.Test.YtldkhbkgmiicbaaGreatDoorBu15
import Derived.Test.YtldkhbkgmiicbaaGreatDoorBu41
import Derived.Test.YtldkhbkgmiicbaaGreatDoorBu42

/- Layer 12, code-free: an item's pieces tell the item. -/
namespace Go.Proofs.YtldkhbkgmiicbaaGreatDoor
set_option linter.unusedVariables false
set_option linter.unusedSimpArgs false

namespace Nm
theorem mem_joined : ∀ (ps : List B) (c : UInt8), c ∈ joined ps → c = 47 ∨ ∃ p ∈ ps, c ∈ p
  | [], c, h => by simp [joined] at h
  | [p], c, h => by
    have e : joined [p] = p := rfl
    rw [e] at h
    exact .inr ⟨p, by simp, h⟩
  | p :: q :: ps, c, h => by
    rw [joined_cons p (by simp)] at h
    rcases List.mem_append.1 h with h | h
    · exact .inr ⟨p, by simp, h⟩
    · rcases List.mem_cons.1 h with h | h
      · exact .inl h
      · rcases mem_joined (q :: ps) c h with h | ⟨r, hr, hc⟩
        · exact .inl h
        · exact .inr ⟨r, List.mem_cons_of_mem _ hr, hc⟩
theorem check_nul {l : B} (h : (check l).2 = 0) : (0 : UInt8) ∉ l := fun hm => by
  rw [← joined_pieces l] at hm
  rcases mem_joined _ _ hm with e | ⟨p, hp, hc⟩
  · exact absurd e (by decide)
  · exact ((check_right h).2 p hp).2.2.2 hc
theorem nul_mem : ∀ (l : B), nul l = none → (0 : UInt8) ∉ l
  | [], _ => by simp
  | c :: l, h => by
    unfold nul at h
    split at h
    · cases h
    · rename_i hc
      have h1 : nul l = none := by cases e : nul l with | none => rfl | some x => rw [e] at h; cases h
      intro hm
      rcases List.mem_cons.1 hm with e | e
      · exact hc e.symm
      · exact nul_mem l h1 e
theorem lead_to {a b : B} (h : (lead a b).2 = 0) : b ≠ [] ∧ b.length ≤ 400 ∧ (0 : UInt8) ∉ b := by
  unfold lead at h
  split at h
  · rename_i h1; exact absurd h h1
  · split at h
    · exact absurd h (by decide)
    · rename_i h1
      split at h
      · exact absurd h (by decide)
      · rename_i h2
        split at h
        · exact absurd h (by decide)
        · rename_i h3
          exact ⟨h1, by omega, nul_mem _ (Decidable.not_not.1 h3)⟩
end Nm
namespace Pk
theorem may_to {x : Tr.It} (h : Tr.mayE x = 0) : x.to.length ≤ 400 ∧ (0 : UInt8) ∉ x.to := by
  by_cases h3 : x.kind = 3
  · have := Tr.may_hard h h3
    exact ⟨(Tr.check_ok_ne this).1, Nm.check_nul this⟩
  · by_cases h4 : x.kind = 4
    · have := Nm.lead_to (Tr.may_soft h h4)
      exact this.2
    · have : x.to = [] := by
        by_cases e : x.to = []
        · exact e
        · exfalso
          have hc : (0 < x.body.length ∧ x.kind ≠ 1) ∨ (x.to ≠ [] ∧ ¬ (x.kind = 3 ∨ x.kind = 4)) := .inr ⟨e, by omega⟩
          unfold Tr.mayE at h
          rw [if_pos hc] at h
          repeat' split at h
          all_goals omega
      rw [this]
      exact ⟨by decide, by simp⟩
theorem may_nums {x : Tr.It} (h : Tr.mayE x = 0) : 0 ≤ x.mode ∧ x.mode ≤ 4095 ∧ 0 ≤ x.time ∧ x.time ≤ 1099511627776 ∧ (0 < x.body.length → x.kind = 1) := by
  unfold Tr.mayE at h
  repeat' split at h
  all_goals omega
/-- what Split answers where it cuts -/
theorem spl_ok {l : B} (h : (spl l).2.2 = 0) : (spl l).1.length ≤ 155 ∧ (spl l).2.1.length ≤ 100 ∧ (∀ c ∈ (spl l).1, c ∈ l) ∧ (∀ c ∈ (spl l).2.1, c ∈ l) ∧ l = (if (spl l).1 = [] then (spl l).2.1 else (spl l).1 ++ 47 :: (spl l).2.1) ∧ ((spl l).2.1 ≠ [] ∨ (spl l).1 ≠ [] ∨ l = []) := by
  unfold spl at h ⊢
  split at h
  · rename_i h0; exact absurd h h0
  · rename_i h0
    rw [if_neg h0]
    split at h
    · rename_i h1
      rw [if_pos h1]
      refine ⟨Nat.zero_le _, h1, by simp, fun c hc => hc, by simp, ?_⟩
      by_cases e : l = []
      · exact .inr (.inr e)
      · exact .inl e
    · rename_i h1
      rw [if_neg h1]
      split at h
      · rename_i i hc
        obtain ⟨c1, c2, c3⟩ := cutOf_some l _ i hc
        have hi := c2.1
        have hl : l = l.take i ++ 47 :: l.drop (i + 1) := by
          have := List.take_append_drop i l
          rw [List.drop_eq_getElem_cons c1, show l[i] = 47 from Option.some.inj ((List.getElem?_eq_getElem c1).symm.trans hi)] at this
          exact this.symm
        have hi0 : i ≠ 0 := fun e => by
          subst e
          have hck : (Nm.check l).2 = 0 := Decidable.not_not.1 h0
          have hr := (Nm.check_right hck).2
          rw [List.take_zero, List.nil_append] at hl
          rw [hl, Nm.pieces_stroke] at hr
          exact (hr [] (by simp)).1 rfl
        refine ⟨?_, ?_, fun c hm => List.mem_of_mem_take hm, fun c hm => List.mem_of_mem_drop hm, ?_, ?_⟩
        · have := c2.2.1; show (l.take i).length ≤ 155; rw [List.length_take]; omega
        · have := c2.2.2; show (l.drop (i + 1)).length ≤ 100; rw [List.length_drop]; omega
        · have hne : l.take i ≠ [] := fun e => by
            have := congrArg List.length e
            rw [List.length_take, List.length_nil] at this
            omega
          show l = if l.take i = [] then l.drop (i + 1) else l.take i ++ 47 :: l.drop (i + 1)
          rw [if_neg hne]; exact hl
        · refine .inr (.inl fun e => ?_)
          have := congrArg List.length e
          rw [show ((l.take i, l.drop (i + 1), (0 : Int)) : B × B × Int).1 = l.take i from rfl, List.length_take, List.length_nil] at this
          omega
      · exact absurd h (by decide)
theorem spl_err0 {l : B} (h : (spl l).2.2 ≠ 0) : (spl l).1 = [] ∧ (spl l).2.1 = [] := by
  unfold spl at h ⊢
  split
  · exact ⟨rfl, rfl⟩
  · rename_i h1
    rw [if_neg h1] at h
    split
    · rename_i h2
      rw [if_pos h2] at h
      exact absurd rfl h
    · rename_i h2
      rw [if_neg h2] at h
      split
      · rename_i i hc
        rw [hc] at h
        exact absurd rfl h
      · exact ⟨rfl, rfl⟩
theorem spl_inj {a b : B} (ha : (spl a).2.2 = 0) (hb : (spl b).2.2 = 0) (h1 : (spl a).1 = (spl b).1) (h2 : (spl a).2.1 = (spl b).2.1) : a = b := by
  have e1 := (spl_ok ha).2.2.2.2.1
  have e2 := (spl_ok hb).2.2.2.2.1
  rw [e1, e2, h1, h2]
theorem typ_vals {k : Nat} : typ k = 48 ∨ typ k = 49 ∨ typ k = 50 ∨ typ k = 53 := by
  unfold typ
  repeat' split
  all_goals decide
theorem typ_inj {a b : Nat} (ha : 1 ≤ a ∧ a ≤ 4) (hb : 1 ≤ b ∧ b ≤ 4) (h : typ a = typ b) : a = b := by
  have key : ∀ a : Fin 5, ∀ b : Fin 5, 1 ≤ a.val → 1 ≤ b.val → typ a.val = typ b.val → a = b := by decide +kernel
  have := key ⟨a, by omega⟩ ⟨b, by omega⟩ ha.1 hb.1 h
  exact congrArg Fin.val this
/-- an item's own head may be -/
theorem hd_good {x : Tr.It} (h : Tr.mayE x = 0) : Hd.Good (hd x) := by
  have ht := may_to h
  have hn := may_nums h
  have hb := may_body h
  have hnul := Nm.check_nul (Tr.may_check h)
  have hs : (spl x.path).1.length ≤ 155 ∧ (spl x.path).2.1.length ≤ 100 ∧ (0 : UInt8) ∉ (spl x.path).1 ∧ (0 : UInt8) ∉ (spl x.path).2.1 := by
    by_cases e : (spl x.path).2.2 = 0
    · have := spl_ok e
      exact ⟨this.1, this.2.1, fun hm => hnul (this.2.2.1 _ hm), fun hm => hnul (this.2.2.2.1 _ hm)⟩
    · have := spl_err0 e
      rw [this.1, this.2]
      exact ⟨by decide, by decide, by simp, by simp⟩
  refine ⟨?_, hs.2.1, ?_, hs.1, hs.2.2.2, ?_, hs.2.2.1, ⟨hn.1, hn.2.1⟩, ⟨?_, ?_⟩, ⟨hn.2.2.1, hn.2.2.2.1⟩⟩
  · show typ x.kind = 48 ∨ _
    rcases @typ_vals x.kind with e | e | e | e
    · exact .inl e
    · exact .inr (.inl e)
    · exact .inr (.inr (.inl e))
    · exact .inr (.inr (.inr (.inl e)))
  · show (if x.to.length ≤ 100 then x.to else []).length ≤ 100
    split
    · assumption
    · decide
  · show (0 : UInt8) ∉ (if x.to.length ≤ 100 then x.to else [])
    split
    · exact ht.2
    · simp
  · show (0 : Int) ≤ ((x.body.length : Nat) : Int); omega
  · show ((x.body.length : Nat) : Int) ≤ 8589934591; omega
theorem more_good {n : Nat} (h : n ≤ 2128) : Hd.Good (more n) :=
  ⟨.inr (.inr (.inr (.inr rfl))), by show (4 : Nat) ≤ 100; decide, Nat.zero_le _, Nat.zero_le _, by show (0 : UInt8) ∉ [109, 111, 114, 101]; decide, by show (0 : UInt8) ∉ []; simp, by show (0 : UInt8) ∉ []; simp, ⟨by show (0 : Int) ≤ 0; decide, by show (0 : Int) ≤ 4095; decide⟩, ⟨by show (0 : Int) ≤ (n : Int); omega, by show (n : Int) ≤ 8589934591; omega⟩, ⟨by show (0 : Int) ≤ 0; decide, by show (0 : Int) ≤ 1099511627776; decide⟩⟩
theorem hB_hd {x : Tr.It} (h : Tr.mayE x = 0) : hB (hd x) = Hd.layB (hd x) := by unfold hB; rw [if_pos (Hd.good_may (hd_good h))]
theorem hB_more {n : Nat} (h : n ≤ 2128) : hB (more n) = Hd.layB (more n) := by unfold hB; rw [if_pos (Hd.good_may (more_good h))]
/-- an item's pairs are taken by Put -/
theorem prs_put {x : Tr.It} (h : Tr.mayE x = 0) : Px.putF (prsOf x) = (Px.all9 (prsOf x), 0, 0) := by
  have ht := may_to h
  have hl := (Tr.may_len h).1
  refine Px.put_all ⟨by have := prs_len x (spl x.path).2.2; show (prs x _).length ≤ 64; omega, fun p hp => ?_, ?_⟩
  · unfold prsOf prs at hp
    rcases List.mem_append.1 hp with g | g
    · split at g
      · rw [List.mem_singleton] at g
        rw [g]
        unfold Px.fits
        rw [if_neg (by show ¬ Px.keyF linkK = false; decide), if_neg (by show ¬ x.to.length > 1024; omega)]
      · cases g
    · split at g
      · rw [List.mem_singleton] at g
        rw [g]
        unfold Px.fits
        rw [if_neg (by show ¬ Px.keyF pathK = false; decide), if_neg (by show ¬ x.path.length > 1024; omega)]
      · cases g
  · unfold prsOf prs
    split
    · split
      · show List.Pairwise _ [(linkK, x.to), (pathK, x.path)]
        rw [List.pairwise_cons]
        exact ⟨fun a ha => by rw [List.mem_singleton] at ha; rw [ha]; show Nm.less linkK pathK = true; decide, by simp⟩
      · exact List.pairwise_singleton _ _
    · split
      · exact List.pairwise_singleton _ _
      · exact List.Pairwise.nil
theorem recs_all {x : Tr.It} (h : Tr.mayE x = 0) : recs x = Px.all9 (prsOf x) := by unfold recs; rw [prs_put h]
theorem all9_inj {x y : Tr.It} (hx : Tr.mayE x = 0) (hy : Tr.mayE y = 0) (e : recs x = recs y) : prsOf x = prsOf y := by
  have k1 := (Px.put_ok (prsOf x)).1 (by rw [prs_put hx])
  have k2 := (Px.put_ok (prsOf y)).1 (by rw [prs_put hy])
  have g1 := Px.get_put (prsOf x) [] 0 (by simpa using k1.1) k1.2.1 (by simpa using k1.2.2)
  have g2 := Px.get_put (prsOf y) [] 0 (by simpa using k2.1) k2.2.1 (by simpa using k2.2.2)
  rw [recs_all hx, recs_all hy] at e
  rw [e, g2] at g1
  have := congrArg Prod.fst g1
  simpa using this.symm
/-- what of an item the pairs tell, and what its head tells -/
theorem it_of {x y : Tr.It} (hx : Tr.mayE x = 0) (hy : Tr.mayE y = 0) (hp : prsOf x = prsOf y) (hh : hd x = hd y) (hb : x.body = y.body) : x = y := by
  have n1 : (spl x.path).2.1 = (spl y.path).2.1 := congrArg Hd.Hdr.name hh
  have n2 : (spl x.path).1 = (spl y.path).1 := congrArg Hd.Hdr.pre hh
  have n3 : x.mode = y.mode := congrArg Hd.Hdr.mode hh
  have n4 : x.time = y.time := congrArg Hd.Hdr.time hh
  have n5 : typ x.kind = typ y.kind := congrArg Hd.Hdr.typ hh
  have n6 : (if x.to.length ≤ 100 then x.to else []) = (if y.to.length ≤ 100 then y.to else []) := congrArg Hd.Hdr.link hh
  have hk := typ_inj (Tr.may_kind hx) (Tr.may_kind hy) n5
  -- the pairs
  have hlp : (if 100 < x.to.length then [(linkK, x.to)] else ([] : List Px.Pr)) = (if 100 < y.to.length then [(linkK, y.to)] else []) ∧ (if (spl x.path).2.2 ≠ 0 then [(pathK, x.path)] else ([] : List Px.Pr)) = (if (spl y.path).2.2 ≠ 0 then [(pathK, y.path)] else []) := by
    unfold prsOf prs at hp
    have hne : linkK ≠ pathK := by decide
    by_cases a : 100 < x.to.length <;> by_cases b : 100 < y.to.length <;> by_cases c : (spl x.path).2.2 ≠ 0 <;> by_cases d : (spl y.path).2.2 ≠ 0 <;> simp only [a, b, c, d, if_true, if_false, List.nil_append, List.append_nil, List.cons_append, List.cons.injEq, Prod.mk.injEq, ne_eq, not_false_eq_true, not_true_eq_false, reduceCtorEq, and_true, true_and, and_false, false_and] at hp ⊢
    all_goals first | exact hp | exact absurd hp.1 hne | exact absurd hp.1 hne.symm | skip
    all_goals first | exact ⟨hp.1, hp.2⟩ | exact absurd hp.1.1 hne | exact absurd hp.1.1 hne.symm | skip
  have hto : x.to = y.to := by
    have h1 := hlp.1
    by_cases a : 100 < x.to.length
    · by_cases b : 100 < y.to.length
      · rw [if_pos a, if_pos b] at h1
        have := List.head_eq_of_cons_eq h1
        exact congrArg Prod.snd this
      · rw [if_pos a, if_neg b] at h1; cases h1
    · by_cases b : 100 < y.to.length
      · rw [if_neg a, if_pos b] at h1; cases h1
      · rw [if_pos (by omega), if_pos (by omega)] at n6; exact n6
  have hpa : x.path = y.path := by
    have h1 := hlp.2
    by_cases a : (spl x.path).2.2 = 0
    · by_cases b : (spl y.path).2.2 = 0
      · exact spl_inj a b n2 n1
      · rw [if_neg (fun k => k a), if_pos b] at h1; cases h1
    · by_cases b : (spl y.path).2.2 = 0
      · rw [if_pos a, if_neg (fun k => k b)] at h1; cases h1
      · rw [if_pos a, if_pos b] at h1
        have := List.head_eq_of_cons_eq h1
        exact congrArg Prod.snd this
  exact Tr.it_ext hpa hk n3 n4 hb hto
theorem app_inj {a b c d : B} (h : a ++ b = c ++ d) (hl : a.length = c.length) : a = c ∧ b = d := List.append_inj h hl
theorem fill_inj {a b : B} (h : fill a = fill b) (hl : a.length = b.length) : a = b := by
  unfold fill at h
  exact (app_inj h hl).1
theorem lay_app {h k : Hd.Hdr} {r s : B} (g : Hd.Good h) (f : Hd.Good k) (e : Hd.layB h ++ r = Hd.layB k ++ s) : h = k ∧ r = s := by
  obtain ⟨e1, e2⟩ := app_inj e (by rw [Hd.lay_len g, Hd.lay_len f])
  exact ⟨Hd.lay_inj g f e1, e2⟩
/-- the first item of some pieces, and what follows -/
theorem pcs_inj {x y : Tr.It} {r s : B} (hx : Tr.mayE x = 0) (hy : Tr.mayE y = 0) (e : pcs x ++ r = pcs y ++ s) : x = y ∧ r = s := by
  have gx := hd_good hx
  have gy := hd_good hy
  have own : ∀ {r s : B}, prsOf x = prsOf y → hB (hd x) ++ (fill x.body ++ r) = hB (hd y) ++ (fill y.body ++ s) → x = y ∧ r = s := by
    intro r s hp e
    rw [hB_hd hx, hB_hd hy] at e
    obtain ⟨e1, e2⟩ := lay_app gx gy e
    have hl : x.body.length = y.body.length := by
      have : ((x.body.length : Nat) : Int) = ((y.body.length : Nat) : Int) := congrArg Hd.Hdr.size e1
      omega
    obtain ⟨e3, e4⟩ := app_inj e2 (by rw [fill_len, fill_len, hl])
    exact ⟨it_of hx hy hp e1 (fill_inj e3 hl), e4⟩
  have ntyp : ∀ (z : Tr.It) (n : Nat), Tr.mayE z = 0 → hd z ≠ more n := fun z n hz e => by
    have : typ z.kind = 120 := congrArg Hd.Hdr.typ e
    rcases @typ_vals z.kind with k | k | k | k <;> rw [k] at this <;> exact absurd this (by decide)
  by_cases a : prsOf x = []
  · by_cases b : prsOf y = []
    · refine own (by rw [a, b]) ?_
      unfold pcs front at e
      rw [if_pos a, if_pos b] at e
      simpa only [List.nil_append, List.append_assoc] using e
    · unfold pcs front at e
      rw [if_pos a, if_neg b, hB_hd hx, hB_more (recs_len y)] at e
      simp only [List.nil_append, List.append_assoc] at e
      exact absurd (lay_app gx (more_good (recs_len y)) e).1 (ntyp x _ hx)
  · by_cases b : prsOf y = []
    · unfold pcs front at e
      rw [if_neg a, if_pos b, hB_hd hy, hB_more (recs_len x)] at e
      simp only [List.nil_append, List.append_assoc] at e
      exact absurd (lay_app (more_good (recs_len x)) gy e).1.symm (ntyp y _ hy)
    · unfold pcs front at e
      rw [if_neg a, if_neg b, hB_more (recs_len x), hB_more (recs_len y)] at e
      simp only [List.append_assoc] at e
      obtain ⟨e1, e2⟩ := lay_app (more_good (recs_len x)) (more_good (recs_len y)) e
      have hl : (recs x).length = (recs y).length := by
        have : (((recs x).length : Nat) : Int) = (((recs y).length : Nat) : Int) := congrArg Hd.Hdr.size e1
        omega
      obtain ⟨e3, e4⟩ := app_inj e2 (by rw [fill_len, fill_len, hl])
      exact own (all9_inj hx hy (fill_inj e3 hl)) e4
theorem pcs_pos {x : Tr.It} (h : Tr.mayE x = 0) : 512 ≤ (pcs x).length := by
  unfold pcs
  rw [List.length_append, List.length_append, hB_hd h, Hd.lay_len (hd_good h)]; omega
/-- unlike lists have unlike pieces -/
theorem flat_inj : ∀ {t u : List Tr.It}, (∀ x ∈ t, Tr.mayE x = 0) → (∀ x ∈ u, Tr.mayE x = 0) → flat t = flat u → t = u
  | [], [], _, _, _ => rfl
  | [], y :: u, _, hu, e => by
    have h1 := congrArg List.length e
    unfold flat at h1
    rw [List.flatMap_nil, List.flatMap_cons, List.length_append, List.length_nil] at h1
    have := pcs_pos (hu y (by simp))
    omega
  | x :: t, [], ht, _, e => by
    have h1 := congrArg List.length e
    unfold flat at h1
    rw [List.flatMap_nil, List.flatMap_cons, List.length_append, List.length_nil] at h1
    have := pcs_pos (ht x (by simp))
    omega
  | x :: t, y :: u, ht, hu, e => by
    unfold flat at e
    rw [List.flatMap_cons, List.flatMap_cons] at e
    obtain ⟨h1, h2⟩ := pcs_inj (ht x (by simp)) (hu y (by simp)) e
    rw [h1, flat_inj (t := t) (u := u) (fun z hz => ht z (List.mem_cons_of_mem _ hz)) (fun z hz => hu z (List.mem_cons_of_mem _ hz)) h2]
theorem ok_all {t : List Tr.It} (h : Tr.Ok t) : ∀ x ∈ t, Tr.mayE x = 0 := fun x hx => by
  obtain ⟨i, hi⟩ := List.getElem?_of_mem hx
  exact Tr.step_may (h i x hi)
end Pk
end Go.Proofs.YtldkhbkgmiicbaaGreatDoor

/- The statements' helpers of layer 12: file, folder, awake. -/
namespace Go.Proofs.YtldkhbkgmiicbaaGreatDoor
open Go.RowKit Go.Deep
set_option linter.unusedVariables false
set_option linter.unusedSimpArgs false

namespace Pk
def fileZ (p : B) (n : Nat) : Tr.It := ⟨p, 1, 0, 0, List.replicate n 0, []⟩
def foldZ (p : B) : Tr.It := ⟨p, 2, 0, 0, [], []⟩
def noBody (x : Tr.It) : Tr.Iv := ⟨x, none, 0⟩
theorem v1 : (wr [fileZ [97] 3]).1.length = 2048 ∧ (wr [fileZ [97] 3]).2.2 = 0 := by decide +kernel
theorem v2 : (wr [fileZ [97] 513]).1.length = 2560 ∧ (wr [fileZ [97] 513]).2.2 = 0 := by decide +kernel
theorem v3 : wr [foldZ [97, 47, 98]] = ([], 0, 112) := by decide +kernel
theorem v4 : wr [] = (List.replicate 1024 0, 0, 0) := by decide +kernel
end Pk
theorem own_rowx {w : World} {base : Nat} {v : Value} {l : Pk.B} (h : w.ownsRow base 5 1 v l.length (Lib.byteCells l)) : ∃ A c, v = .slice A l.length c ∧ RowAt w A l.length (Hd.rowF l) ∧ (A = none → c = 0) := by
  rcases h.2 with ⟨rfl, h0⟩ | ⟨g, cap, cur, rfl, _, hc, hn, _, hs, ht⟩
  · exact ⟨none, 0, by rw [h0], ⟨.inl h0, Hd.rowF_bd _⟩, fun _ => rfl⟩
  · refine ⟨some ⟨g, 0, none⟩, cap, rfl, ⟨.inr ⟨g, 0, rfl, fun i hi => ?_⟩, Hd.rowF_bd _⟩, fun e => by cases e⟩
    have e : (Lib.byteCells l)[i]? = cur.toList[i]? := by rw [← ht, List.getElem?_take, if_pos (by omega)]
    rw [Nat.zero_add, cell_of_row w g i _ _ _ hc, ← Hd.arr_row hi, show (Hd.arr l)[i]? = (Lib.byteCells l)[i]? from by unfold Hd.arr; rw [List.getElem?_toArray], e, Array.getElem?_toList]
theorem madeCells_u8 (n : Nat) : madeCells #[.int .u8 0] n = (List.replicate n (Value.int .u8 0)).toArray := by
  unfold madeCells
  apply Array.ext
  · simp
  · intro i h1 h2
    simp [Nat.mod_one]
theorem made_zeros (n : Nat) (h : n ≤ 1000000) (w : World) : (Instr.makeSlice 24 (.int .i64 (n : Int)) (.int .i64 (n : Int))).run Tryz.prog w = .ok (.slice (some ⟨w.heap.size, 0, none⟩) n n) (w.alloc (.cells (Hd.arr (List.replicate n 0)) 5)) := by
  obtain ⟨i0, hi0, hz0, hz1, hz2⟩ := info_parts info_u8
  have hr := run_make (P := Tryz.prog) w 24 5 i0 _ Tryz.underlying24 hi0 hz0 .i64 .i64 (n : Int) (n : Int) (by omega) (by omega) (by rw [hz2]; omega) (by omega)
  rw [Int.toNat_natCast, hz1, Nat.mul_one] at hr
  rw [hr]
  have e : madeCells (Value.int .u8 0).cells n = Hd.arr (List.replicate n 0) := by
    show madeCells #[.int .u8 0] n = _
    rw [madeCells_u8]
    unfold Hd.arr
    rw [byteCells_zeros]
  rw [e]
theorem row_alloc (w : World) (l : Pk.B) (n : Nat) (hn : l.length = n) : RowAt (w.alloc (.cells (Hd.arr l) 5)) (some ⟨w.heap.size, 0, none⟩) n (Hd.rowF l) := by
  refine ⟨.inr ⟨w.heap.size, 0, rfl, fun i hi => ?_⟩, Hd.rowF_bd _⟩
  rw [Nat.zero_add, cell_of_row _ w.heap.size i _ _ _ (heap_alloc_new w _), Hd.arr_row (by omega)]
theorem built_file (p : Pk.B) (n : Nat) (A : Option Addr) : Tryz.prog.built 47 [(0, .string (Nm.S p)), (1, .int .u8 1), (4, .slice A n n)] = some #[.string (Nm.S p), .int .u8 1, .int .i64 0, .int .i64 0, .slice A n n, .string ⟨#[]⟩] := by kernel_rfl
theorem file_arr (p : Pk.B) (n : Nat) (A : Option Addr) : (⟨Pk.fileZ p n, A, n⟩ : Tr.Iv).arr = #[.string (Nm.S p), .int .u8 1, .int .i64 0, .int .i64 0, .slice A n n, .string ⟨#[]⟩] := by
  unfold Tr.Iv.arr Pk.fileZ
  simp only [List.length_replicate]
  rfl
set_option maxRecDepth 100000 in
set_option maxHeartbeats 2000000 in
theorem file12_any (p : Pk.B) (hp : p.length ≤ 1000) (n : Nat) (hn : n ≤ 1000000) (w : World) : Calls Tryz.prog 38 #[.string (Nm.S p), .int .i64 (n : Int)] w fun e w' => (∃ A, e = .returned (.agg (⟨Pk.fileZ p n, A, n⟩ : Tr.Iv).arr) ∧ BodyAt w' ⟨Pk.fileZ p n, A, n⟩) ∧ Bw w w' := by
  have hmk := made_zeros n hn
  have hzi := zero_item12
  obtain ⟨Zi, hZi⟩ : ∃ Z, Hid (Z = zero6) := ⟨_, rfl⟩
  rw [← hZi.out] at hzi
  obtain ⟨R, hR⟩ : ∃ R, Hid (Hd.arr (List.replicate n 0) = R) := ⟨_, rfl⟩
  rw [hR.out] at hmk
  have hbf := built_file p n (some ⟨w.heap.size + 1, 0, none⟩)
  obtain ⟨Y, hY⟩ : ∃ Y, Hid (Y = (#[.string (Nm.S p), .int .u8 1, .int .i64 0, .int .i64 0, .slice (some ⟨w.heap.size + 1, 0, none⟩) n n, .string ⟨#[]⟩] : Array Value)) := ⟨_, rfl⟩
  have HA : Hid (Y = (⟨Pk.fileZ p n, some ⟨w.heap.size + 1, 0, none⟩, n⟩ : Tr.Iv).arr) := by show _ = _; rw [hY.out, file_arr]
  have hYi : (Tryz.prog.info? 47).map (·.size) = some Y.size := by rw [HA.out]; exact info_it _
  have hYo : Y.all (·.oneCell') = true := by rw [HA.out]; exact Tr.arr_one _
  rw [← hY.out] at hbf
  have h0 : ((w.alloc (.cells Zi 47)).alloc (.cells R 5)).heap[w.heap.size]? = some (.cells Zi 47 (0, 0)) := (heap_alloc_old _ _ (by simp)).trans (heap_alloc_new _ _)
  have hrow : RowAt ((w.alloc (.cells Zi 47)).alloc (.cells R 5)) (some ⟨w.heap.size + 1, 0, none⟩) n (Hd.rowF (List.replicate n 0)) := by
    have := row_alloc (w.alloc (.cells Zi 47)) (List.replicate n 0) n List.length_replicate
    rw [World.size_alloc, hR.out] at this
    exact this
  have hbw : Bw w ((w.alloc (.cells Zi 47)).alloc (.cells R 5)) := bw_alloc7 (bw_alloc7 (Bw.refl _) _) _
  obtain ⟨W1, hW1⟩ : ∃ V, V = (w.alloc (.cells Zi 47)).alloc (.cells R 5) := ⟨_, rfl⟩
  rw [← hW1] at h0 hrow hbw
  have hsz : w.heap.size + 1 < W1.heap.size := by rw [hW1]; simp
  go_enter Tryz.func38, Tryz.ntmps38
  go_wp2_with (first
    | (refine wpList_built11 (by rfl) 47 _ (by rfl) Y (by rw [hY.out]; kernel_rfl) ?_)
    | (rw [← hW1]; clear hW1; refine wpList_store_row rfl 47 _ _ rfl w.heap.size Y rfl rfl 47 Zi h0 hYi (by rw [hZi.out, HA.out]; rfl) hYo ?_))
  (try simp only [Exit.inBlock, Exit.then])
  have hbx : Bx (fun b => b = w.heap.size) W1 (W1.setRow w.heap.size Y) := bx_set _ _ _ rfl
  refine bodyPost_ret (results_cell_row Tryz.results38 _ _ w.heap.size 47 Y (0, 0) _ rfl (setRow_heap _ _ _ _ _ _ h0) Tryz.underlying47 rfl hYi) rfl ⟨⟨some ⟨w.heap.size + 1, 0, none⟩, by rw [← HA.out], ⟨?_, ?_, (fun e => by cases e), ?_⟩⟩, bw_of_bx hbw hbx (fun b e => by rw [e]; exact Nat.le_refl _)⟩
  · have : RowAt (W1.setRow w.heap.size Y) (some ⟨w.heap.size + 1, 0, none⟩) n (Hd.rowF (List.replicate n 0)) := rowat_bx hrow hbx (fun b o e h1 => by cases e; exact ⟨hsz, by omega⟩)
    show RowAt _ _ (List.replicate n (0 : UInt8)).length _
    rw [List.length_replicate]
    exact this
  · show (List.replicate n (0 : UInt8)).length ≤ n
    rw [List.length_replicate]; exact Nat.le_refl _
  · exact ⟨by show (1 : Nat) < 256; decide, by show _ ≤ (0 : Int) ∧ (0 : Int) ≤ _; decide, by show _ ≤ (0 : Int) ∧ (0 : Int) ≤ _; decide, by show p.length ≤ _; omega, by show (List.replicate n (0 : UInt8)).length ≤ _; rw [List.length_replicate]; omega, by show (0 : Nat) ≤ _; omega⟩
set_option maxRecDepth 100000 in
theorem folder12_any (p : Pk.B) (w : World) : Calls Tryz.prog 39 #[.string (Nm.S p)] w fun e w' => e = .returned (.agg (Pk.noBody (Pk.foldZ p)).arr) ∧ Bw w w' := by
  have hb : Tryz.prog.built 47 [(0, .string (Nm.S p)), (1, .int .u8 2)] = some (Pk.noBody (Pk.foldZ p)).arr := by kernel_rfl
  go_enter Tryz.func39, Tryz.ntmps39
  go_wp2_with (first
    | refine wpList_built11 rfl 47 _ rfl _ hb ?_
    | (refine wpList_store_row rfl 47 _ _ rfl w.heap.size (Pk.noBody (Pk.foldZ p)).arr rfl rfl 47 _ (heap_alloc_new _ _) (info_it _) rfl (Tr.arr_one _) ?_; rw [setRow_alloc_new]))
  (try simp only [Exit.inBlock, Exit.then])
  exact bodyPost_ret (results_cell_row Tryz.results39 _ _ w.heap.size 47 (Pk.noBody (Pk.foldZ p)).arr (0, 0) _ rfl (heap_alloc_new _ _) Tryz.underlying47 rfl (info_it _)) rfl ⟨rfl, bw_alloc11 (Bw.refl _) _⟩
theorem fold_body (w : World) (p : Pk.B) (hp : p.length ≤ 1000) : BodyAt w (Pk.noBody (Pk.foldZ p)) :=
  ⟨⟨.inl rfl, Tr.rowF_bd _⟩, Nat.le_refl _, fun _ => rfl, ⟨by show (2 : Nat) < 256; decide, by show _ ≤ (0 : Int) ∧ (0 : Int) ≤ _; decide, by show _ ≤ (0 : Int) ∧ (0 : Int) ≤ _; decide, by show p.length ≤ _; omega, by show (0 : Nat) ≤ _; omega, by show (0 : Nat) ≤ _; omega⟩⟩
theorem its_nil12 (w : World) : ItsAt w none [] := ⟨.inl rfl, fun y hy => by cases hy⟩
/-- one item in a slice of its own -/
theorem its_single {w : World} {y : Tr.Iv} (hy : BodyAt w y) : ItsAt (w.alloc (.cells y.arr 47)) (some ⟨w.heap.size, 0, none⟩) [y] := its_one (BoxAt.new _ _) (hy.keep (bw_alloc7 (Bw.refl _) _))
set_option maxRecDepth 100000 in
set_option maxHeartbeats 4000000 in
theorem awake12_any (w : World) (hk : KTAt w) : Calls Tryz.prog 22 #[] w fun e w' => e = .returned (.bool true) ∧ Bw w w' := by
  have HK : Hid (KTAt w) := hk
  clear hk
  have sA : (⟨#[97]⟩ : ByteArray) = Nm.S [97] := rfl
  have HF3 : Hid (∀ u, Calls Tryz.prog 38 #[.string ⟨#[97]⟩, .int .i64 3] u fun e w' => (∃ A, e = .returned (.agg (⟨Pk.fileZ [97] 3, A, 3⟩ : Tr.Iv).arr) ∧ BodyAt w' ⟨Pk.fileZ [97] 3, A, 3⟩) ∧ Bw u w') := fun u => file12_any [97] (by decide) 3 (by decide) u
  have HF5 : Hid (∀ u, Calls Tryz.prog 38 #[.string ⟨#[97]⟩, .int .i64 513] u fun e w' => (∃ A, e = .returned (.agg (⟨Pk.fileZ [97] 513, A, 513⟩ : Tr.Iv).arr) ∧ BodyAt w' ⟨Pk.fileZ [97] 513, A, 513⟩) ∧ Bw u w') := fun u => file12_any [97] (by decide) 513 (by decide) u
  have HFo : Hid (∀ u, Calls Tryz.prog 39 #[.string ⟨#[97, 47, 98]⟩] u fun e w' => e = .returned (.agg (Pk.noBody (Pk.foldZ [97, 47, 98])).arr) ∧ Bw u w') := fun u => folder12_any [97, 47, 98] u
  have HS3 : Hid (∀ u A g, Bw w u → ItsAt u (some ⟨g, 0, none⟩) [⟨Pk.fileZ [97] 3, A, 3⟩] → Calls Tryz.prog 10 #[.slice (some ⟨g, 0, none⟩) 1 1] u fun e w' => e = .returned (.tuple #[.int .i64 2048, .int .i64 0]) ∧ Bw u w') := fun u A g hu hi => by
    have := pksize_any (some ⟨g, 0, none⟩) 1 [⟨Pk.fileZ [97] 3, A, 3⟩] (by show (1 : Nat) ≤ _; decide) (by show (1 : Nat) ≤ _; decide) u hi (HK.out.keep hu)
    rw [show Tr.its [(⟨Pk.fileZ [97] 3, A, 3⟩ : Tr.Iv)] = [Pk.fileZ [97] 3] from rfl, Pk.v1.1, Pk.v1.2] at this
    exact this
  have HS5 : Hid (∀ u A g, Bw w u → ItsAt u (some ⟨g, 0, none⟩) [⟨Pk.fileZ [97] 513, A, 513⟩] → Calls Tryz.prog 10 #[.slice (some ⟨g, 0, none⟩) 1 1] u fun e w' => e = .returned (.tuple #[.int .i64 2560, .int .i64 0]) ∧ Bw u w') := fun u A g hu hi => by
    have := pksize_any (some ⟨g, 0, none⟩) 1 [⟨Pk.fileZ [97] 513, A, 513⟩] (by show (1 : Nat) ≤ _; decide) (by show (1 : Nat) ≤ _; decide) u hi (HK.out.keep hu)
    rw [show Tr.its [(⟨Pk.fileZ [97] 513, A, 513⟩ : Tr.Iv)] = [Pk.fileZ [97] 513] from rfl, Pk.v2.1, Pk.v2.2] at this
    exact this
  have HWf : Hid (∀ u g, Bw w u → ItsAt u (some ⟨g, 0, none⟩) [Pk.noBody (Pk.foldZ [97, 47, 98])] → Calls Tryz.prog 9 #[.slice (some ⟨g, 0, none⟩) 1 1] u fun e w' => (∃ A c, e = .returned (.tuple #[.slice A 0 c, .int .i64 0, .int .i64 112])) ∧ Bw u w') := fun u g hu hi => by
    have := pkwrite_any (some ⟨g, 0, none⟩) 1 [Pk.noBody (Pk.foldZ [97, 47, 98])] (by decide) (by decide) u hi (HK.out.keep hu)
    refine this.mono fun e w' ⟨⟨v, h1, h2⟩, h3⟩ => ⟨?_, h3⟩
    rw [show Tr.its [Pk.noBody (Pk.foldZ [97, 47, 98])] = [Pk.foldZ [97, 47, 98]] from rfl, Pk.v3] at h1 h2
    obtain ⟨A, c, rfl⟩ := own_slice12 h2
    exact ⟨A, c, h1⟩
  have HWn : Hid (∀ u, Bw w u → Calls Tryz.prog 9 #[.slice none 0 0] u fun e w' => (∃ A c, e = .returned (.tuple #[.slice A 1024 c, .int .i64 0, .int .i64 0])) ∧ Bw u w') := fun u hu => by
    have := pkwrite_any none 0 [] (by decide) (by decide) u (its_nil12 u) (HK.out.keep hu)
    refine this.mono fun e w' ⟨⟨v, h1, h2⟩, h3⟩ => ⟨?_, h3⟩
    rw [show Tr.its [] = [] from rfl, Pk.v4] at h1 h2
    dsimp only at h1 h2
    rw [List.length_replicate] at h2
    obtain ⟨A, c, rfl⟩ := own_slice12 h2
    exact ⟨A, c, h1⟩
  have t1 : Hid (w = w) := rfl
  have t2 : Hid (w = w) := rfl
  have t3 : Hid (w = w) := rfl
  have t4 : Hid (w = w) := rfl
  have t5 : Hid (w = w) := rfl
  have t6 : Hid (w = w) := rfl
  go_enter Tryz.func22, Tryz.ntmps22
  go_wp2_with (first
    | (go_at_call 38; clear t1; refine (HF3.out _).mono ?_; rintro e w1 ⟨⟨A1, rfl, hB1⟩, hw1⟩)
    | (refine wpList_build_it (by rfl) (.tmp 12) (by rfl) ⟨Pk.fileZ [97] 3, A1, 3⟩ (by rfl) ?_; have hI1 := its_single hB1; have hb1 : Bw w (w1.alloc (.cells (⟨Pk.fileZ [97] 3, A1, 3⟩ : Tr.Iv).arr 47)) := bw_alloc7 hw1 _; generalize hV1 : w1.alloc (.cells (⟨Pk.fileZ [97] 3, A1, 3⟩ : Tr.Iv).arr 47) = V1 at hI1 hb1 ⊢; clear hV1)
    | (go_at_call 10; clear t2; refine (HS3.out _ A1 _ hb1 hI1).mono ?_; rintro e w2 ⟨rfl, hw2⟩; have hb2 := hb1.trans hw2)
    | (go_at_call 38; clear t3; refine (HF5.out _).mono ?_; rintro e w3 ⟨⟨A3, rfl, hB3⟩, hw3⟩; have hb3 := hb2.trans hw3)
    | (refine wpList_build_it (by rfl) (.tmp 18) (by rfl) ⟨Pk.fileZ [97] 513, A3, 513⟩ (by rfl) ?_; have hI3 := its_single hB3; have hb4 : Bw w (w3.alloc (.cells (⟨Pk.fileZ [97] 513, A3, 513⟩ : Tr.Iv).arr 47)) := bw_alloc7 hb3 _; generalize hV3 : w3.alloc (.cells (⟨Pk.fileZ [97] 513, A3, 513⟩ : Tr.Iv).arr 47) = V3 at hI3 hb4 ⊢; clear hV3)
    | (go_at_call 10; clear t4; refine (HS5.out _ A3 _ hb4 hI3).mono ?_; rintro e w4 ⟨rfl, hw4⟩; have hb5 := hb4.trans hw4)
    | (go_at_call 39; refine (HFo.out _).mono ?_; rintro e w5 ⟨rfl, hw5⟩; have hb6 := hb5.trans hw5)
    | (refine wpList_build_it (by rfl) (.tmp 24) (by rfl) (Pk.noBody (Pk.foldZ [97, 47, 98])) (by rfl) ?_; have hI5 := its_single (fold_body w5 [97, 47, 98] (by decide)); have hb7 : Bw w (w5.alloc (.cells (Pk.noBody (Pk.foldZ [97, 47, 98])).arr 47)) := bw_alloc7 hb6 _; generalize hV5 : w5.alloc (.cells (Pk.noBody (Pk.foldZ [97, 47, 98])).arr 47) = V5 at hI5 hb7 ⊢; clear hV5)
    | (go_at_call 9; clear t5; refine (HWf.out _ _ hb7 hI5).mono ?_; rintro e w6 ⟨⟨A6, c6, rfl⟩, hw6⟩; have hb8 := hb7.trans hw6)
    | (go_at_call 9; clear t6; refine (HWn.out _ hb8).mono ?_; rintro e w7 ⟨⟨A7, c7, rfl⟩, hw7⟩; have hb9 := hb8.trans hw7))
  go_ret
  exact ⟨rfl, hb9⟩
end Go.Proofs.YtldkhbkgmiicbaaGreatDoor
