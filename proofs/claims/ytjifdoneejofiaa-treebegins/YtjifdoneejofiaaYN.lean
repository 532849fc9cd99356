/- Beginnings of trees, what stands beneath a folder, any order put right: mathematics of layer 11. -/
import Derived.Test.YtjifdoneejofiaaFy
import Derived.Test.YtjifdoneejofiaaUA
import Derived.Test.YtjifdoneejofiaaYF
import Derived.Test.YtjifdoneejofiaaU9
namespace Go.Proofs.Ytjifdoneejofiaa
open Go.ChangeShapes Go.WideShapes Go.RowKit Go.Deep

/-- a row of whole numbers -/
def IntsAt (w : World) (A : Option Addr) (L : Nat) (f : Nat → Int) : Prop :=
  L = 0 ∨ ∃ b off, A = some ⟨b, off, none⟩ ∧ ∀ i, i < L → w.cell? ⟨b, off + i, none⟩ = some (.int .i64 (f i))

theorem IntsAt.keep {w w' : World} {A : Option Addr} {L : Nat} {f : Nat → Int} (h : IntsAt w A L f) (g : Bw w w') : IntsAt w' A L f := by
  rcases h with h0 | ⟨b, off, hA, hc⟩
  · exact Or.inl h0
  · refine Or.inr ⟨b, off, hA, fun i hi => ?_⟩
    have := hc i hi
    rw [g.cell (p := ⟨b, off + i, none⟩) (block_lt_of_cell this)]
    exact this

/-- a row of whole numbers that came in -/
structure InInts (w : World) (A : Option Addr) (n cap : Nat) (f : Nat → Int) : Prop where
  row : IntsAt w A n f
  le : n ≤ cap
  room : cap * 8 ≤ 140737488351232
  nil : A = none → cap = 0
  bd : ∀ i, -9223372036854775808 ≤ f i ∧ f i ≤ 9223372036854775807

theorem int_of (zs : List Int) (h : ∀ n ∈ zs, (Lit.int .i64 n).wf = true) (i : Nat) : -9223372036854775808 ≤ zs.getD i 0 ∧ zs.getD i 0 ≤ 9223372036854775807 := by
  rcases Nat.lt_or_ge i zs.length with hi | hi
  · have := bounds_i64 (h zs[i] (List.getElem_mem hi))
    rw [List.getD_eq_getElem?_getD, List.getElem?_eq_getElem hi]
    simp only [Option.getD_some]
    omega
  · rw [List.getD_eq_getElem?_getD, List.getElem?_eq_none hi]
    decide

theorem open_introw {H : Type} {enc : TypeId × Value → H} {W : World} {A : Option Addr} {n cap : Nat} {d : DataW H} {p : List MemPlace}
    (h : DataW.Trod enc Try.prog W 0 (fun _ => true) true 52 (.slice A n cap) d p) (hw : ∀ x ∈ d.weights Try.prog 52, x ≤ reachBytes) : ∃ f, InInts W A n cap f := by
  obtain ⟨fuel, hf⟩ := h
  rcases open_ints Try.underlying52 Try.underlying3 (by kernel_rfl) hf with ⟨hcs, _⟩ | ⟨x, l, c, zs, hcs, _, hl, hm, hz, hd, hcell, hwz⟩
  · simp [Value.cells] at hcs
    obtain ⟨rfl, rfl, rfl⟩ := hcs
    exact ⟨fun _ => 0, Or.inl rfl, Nat.le_refl _, Nat.zero_le _, fun _ => rfl, fun _ => by decide⟩
  · simp [Value.cells] at hcs
    obtain ⟨rfl, rfl, rfl⟩ := hcs
    simp only [Prod.mk.injEq] at hd
    obtain ⟨rfl, _⟩ := hd
    simp only [if_true] at hz
    have hb : Try.prog.bytesOf 3 = 8 := by kernel_rfl
    have hcap : n ≤ cap ∧ cap * 8 ≤ 140737488351232 := by
      have := hw ((zs.take n).length * 8 + (zs.drop n).length * 8) (by
        simp only [DataW.weights, Try.underlying52, hb, lits, List.length_map]
        exact List.mem_cons.2 (Or.inl (by omega)))
      simp only [List.length_take, List.length_drop, reachBytes] at this
      omega
    refine ⟨fun i => zs.getD i 0, ?_, hcap.1, hcap.2, fun e => (by cases e), int_of zs hwz⟩
    rcases Nat.eq_zero_or_pos n with h0 | h0
    · exact Or.inl h0
    · obtain ⟨b, off, rfl, hc⟩ := cells_plain (n := zs.length) (V := fun i => .int .i64 (zs.getD i 0)) hcell (by omega)
      exact Or.inr ⟨b, off, rfl, fun i hi => hc i (by omega)⟩

end Go.Proofs.Ytjifdoneejofiaa
namespace Go.Proofs.Ytjifdoneejofiaa
open Go.RowKit Go.Deep
set_option linter.unusedVariables false
set_option linter.unusedSimpArgs false

namespace Tr
theorem pieces_pos (p : B) : 0 < (Nm.pieces p).length := List.length_pos_iff.2 (Nm.pieces_ne p)
theorem pieces_take {p : B} {k : Nat} (h : 0 < k) : Nm.pieces (Nm.joined ((Nm.pieces p).take k)) = (Nm.pieces p).take k := by
  refine Nm.pieces_joined _ (fun e => ?_) (fun q hq => Nm.pieces_no p q (List.mem_of_mem_take hq))
  have h1 := congrArg List.length e
  rw [List.length_take, List.length_nil] at h1
  have := pieces_pos p
  omega
theorem up_is (p : B) : Nm.up p = Nm.joined ((Nm.pieces p).take ((Nm.pieces p).length - 1)) := by
  unfold Nm.up; rw [List.dropLast_eq_take]
theorem find_is {t : List It} (h : Ok t) {i : Nat} {x : It} (hx : t[i]? = some x) : find t x.path = some i :=
  find_at t x.path i x hx rfl (fun j y hj hy e => by have := srt_unique (ok_srt h) hy hx e; omega)
/-- what stands ahead of an item on its way is a folder -/
theorem folders {t : List It} (h : Ok t) : ∀ (n i : Nat) (x : It), t[i]? = some x → (Nm.pieces x.path).length = n → ∀ k, 0 < k → k < n → ∃ (j : Nat) (y : It), t[j]? = some y ∧ y.path = Nm.joined ((Nm.pieces x.path).take k) ∧ y.kind = 2 := by
  intro n
  induction n with
  | zero => intro i x hx hn k hk hkn; omega
  | succ n ih =>
    intro i x hx hn k hk hkn
    have hu := step_up (h i x hx)
    have hm := step_may (h i x hx)
    have hux : Nm.up x.path = Nm.joined ((Nm.pieces x.path).take n) := by rw [up_is, hn]; rfl
    have hne : Nm.up x.path ≠ [] := by
      rw [hux]
      refine joined_ne (fun q hq => parts_of (may_check hm) q (List.mem_of_mem_take hq)) (fun e => ?_)
      have h1 := congrArg List.length e
      rw [List.length_take, hn] at h1
      simp at h1
      omega
    obtain ⟨y, hy, h1, h2⟩ := hasB_iff.1 (hu.resolve_left hne)
    obtain ⟨j, hj⟩ := List.getElem?_of_mem (List.mem_of_mem_take hy)
    rw [hux] at h1
    rcases Nat.lt_or_ge k n with g | g
    · have hp : Nm.pieces y.path = (Nm.pieces x.path).take n := by rw [h1]; exact pieces_take (by omega)
      obtain ⟨j', y', a1, a2, a3⟩ := ih j y hj (by rw [hp, List.length_take, hn]; omega) k hk g
      refine ⟨j', y', a1, ?_, a3⟩
      rw [a2, hp, List.take_take, Nat.min_eq_left (by omega)]
    · obtain rfl : k = n := by omega
      exact ⟨j, y, hj, h1, h2⟩
theorem real_along {t : List It} (h : Ok t) {i : Nat} {x : It} (hx : t[i]? = some x) : ∀ k, k < (Nm.pieces x.path).length → realF t 0 [] (Nm.pieces x.path) = realF t 0 ((Nm.pieces x.path).take k) ((Nm.pieces x.path).drop k)
  | 0, _ => by rw [List.take_zero, List.drop_zero]
  | k + 1, hk => by
    rw [real_along h hx k (by omega)]
    obtain ⟨j, y, h1, h2, h3⟩ := folders h _ i x hx rfl (k + 1) (by omega) hk
    have hd : (Nm.pieces x.path).drop k = (Nm.pieces x.path)[k] :: (Nm.pieces x.path).drop (k + 1) := List.drop_eq_getElem_cons (by omega)
    have ht : (Nm.pieces x.path).take k ++ [(Nm.pieces x.path)[k]] = (Nm.pieces x.path).take (k + 1) := by rw [List.take_add_one, List.getElem?_eq_getElem (by omega)]; rfl
    rw [hd, real_step (i := j) (x := y) (by rw [ht, ← h2]; exact find_is h h1) h1 (by omega)]
    congr 1
    unfold endOf
    rw [if_neg (by omega)]
    unfold pts
    rw [if_neg (may_len (step_may (h j y h1))).2, h2, pieces_take (by omega)]
/-- files and folders lead to themselves -/
theorem real_self {t : List It} (h : Ok t) {i : Nat} {x : It} (hx : t[i]? = some x) (hk : x.kind = 1 ∨ x.kind = 2) : realF t 0 [] (Nm.pieces x.path) = (x.path, 0) := by
  have hp := pieces_pos x.path
  rw [real_along h hx ((Nm.pieces x.path).length - 1) (by omega)]
  have hd : (Nm.pieces x.path).drop ((Nm.pieces x.path).length - 1) = [(Nm.pieces x.path)[(Nm.pieces x.path).length - 1]] := by
    rw [List.drop_eq_getElem_cons (by omega), List.drop_eq_nil_of_le (by omega)]
  have ht : (Nm.pieces x.path).take ((Nm.pieces x.path).length - 1) ++ [(Nm.pieces x.path)[(Nm.pieces x.path).length - 1]] = Nm.pieces x.path := by
    rw [← hd, List.take_append_drop]
  rw [hd, real_step (i := i) (x := x) (by rw [ht, Nm.joined_pieces]; exact find_is h hx) hx (by omega), real_nil, joined_pts]
  unfold endOf
  rw [if_neg (by omega)]
theorem realE_self {t : List It} (hc : (chkE t).2 = 0) {i : Nat} {x : It} (hx : t[i]? = some x) (hk : x.kind = 1 ∨ x.kind = 2) : realE t x.path = (x.path, 0) := by
  have h := (chk_zero hc).2
  have hm := step_may (h i x hx)
  unfold realE
  rw [if_neg (by simp [hc]), if_neg (may_len hm).2, if_neg (by simp [may_check hm])]
  exact real_self h hx hk
/-- a place that may be reached -/
def Plain (t : List It) (s : B) : Prop := s = [] ∨ ∃ (i : Nat) (x : It), t[i]? = some x ∧ x.path = s ∧ (x.kind = 1 ∨ x.kind = 2)
theorem end_plain {t : List It} (h : Ok t) {i : Nat} {x : It} (hx : t[i]? = some x) (hk : x.kind ≠ 4) : Plain t (endOf x) := by
  have hm := may_kind (step_may (h i x hx))
  unfold endOf
  split
  · rename_i h3
    obtain ⟨j, y, _, h1, h2, h4⟩ := hard_file h hx h3
    exact .inr ⟨j, y, h1, h2, .inl h4⟩
  · exact .inr ⟨i, x, hx, rfl, by omega⟩
theorem real_plain {t : List It} (h : Ok t) : ∀ (hops : Nat) (r left : List B), Plain t (Nm.joined r) → Plain t (realF t hops r left).1 ∧ ((realF t hops r left).2 ≠ 0 → (realF t hops r left).1 = []) := by
  have key : ∀ (m n hops : Nat) (r left : List B), 40 - hops = m → left.length = n → Plain t (Nm.joined r) → Plain t (realF t hops r left).1 ∧ ((realF t hops r left).2 ≠ 0 → (realF t hops r left).1 = []) := by
    intro m
    induction m using Nat.strongRecOn with
    | ind m ihm =>
      intro n
      induction n with
      | zero =>
        intro hops r left hm hn hp
        have : left = [] := List.eq_nil_of_length_eq_zero hn
        subst this
        rw [real_nil]
        exact ⟨hp, fun e => absurd rfl e⟩
      | succ n ihn =>
        intro hops r left hm hn hp
        cases left with
        | nil => simp at hn
        | cons a rest =>
          rcases hf : find t (Nm.joined (r ++ [a])) with _ | i
          · rw [real_none hf]; exact ⟨.inl rfl, fun _ => rfl⟩
          · obtain ⟨x, hx, -, -⟩ := find_some _ _ _ hf
            by_cases hk : x.kind = 4
            · by_cases hh : 40 ≤ hops
              · rw [real_loop hf hx hk hh]; exact ⟨.inl rfl, fun _ => rfl⟩
              · rw [real_soft hf hx hk (by omega)]
                exact ihm (40 - (hops + 1)) (by omega) _ (hops + 1) [] _ rfl rfl (.inl rfl)
            · rw [real_step hf hx hk]
              exact ihn hops _ rest hm (by simpa using hn) (by rw [joined_pts]; exact end_plain h hx hk)
  exact fun hops r left hp => key _ _ hops r left rfl rfl hp
theorem realE_plain (t : List It) (p : B) : Plain t (realE t p).1 ∧ ((realE t p).2 ≠ 0 → (realE t p).1 = []) ∧ ((chkE t).2 ≠ 0 → realE t p = ([], (chkE t).2)) := by
  unfold realE
  by_cases hc : (chkE t).2 = 0
  · have h := (chk_zero hc).2
    rw [if_neg (by simp [hc])]
    refine ⟨?_, ?_, fun e => absurd hc e⟩
    · split
      · exact .inl rfl
      · split
        · exact .inl rfl
        · exact (real_plain h 0 [] _ (.inl rfl)).1
    · split
      · exact fun _ => rfl
      · split
        · exact fun _ => rfl
        · exact (real_plain h 0 [] _ (.inl rfl)).2
  · rw [if_pos hc]
    exact ⟨.inl rfl, fun _ => rfl, fun _ => rfl⟩
/-- one up -/
theorem up_lt {p : B} (h : p ≠ []) : (Nm.up p).length < p.length := by
  rcases Nm.last_cases (Nm.S p) with ⟨h1, -⟩ | ⟨i, h1, -, h3, h4⟩
  · rw [Nm.toList_S] at h1
    rw [Nm.up_none h1]
    exact List.length_pos_iff.2 h
  · rw [Nm.toList_S] at h3 h4
    rw [Nm.size_S] at h1
    rw [Nm.up_at h3 h4, List.length_take]
    omega
theorem up_folder {t : List It} (h : Ok t) {i : Nat} {x : It} (hx : t[i]? = some x) : Nm.up x.path = [] ∨ ∃ (j : Nat) (y : It), t[j]? = some y ∧ y.path = Nm.up x.path ∧ y.kind = 2 := by
  rcases step_up (h i x hx) with e | e
  · exact .inl e
  · obtain ⟨y, hy, h1, h2⟩ := hasB_iff.1 e
    obtain ⟨j, hj⟩ := List.getElem?_of_mem (List.mem_of_mem_take hy)
    exact .inr ⟨j, y, hj, h1, h2⟩
end Tr
end Go.Proofs.Ytjifdoneejofiaa
namespace Go.Proofs.Ytjifdoneejofiaa
set_option linter.unusedVariables false
set_option linter.unusedSimpArgs false

namespace Tr
theorem filter_run {α : Type} {P : α → Bool} : ∀ (R : List α), (∀ (a b : Nat) (x y : α), a < b → R[a]? = some x → R[b]? = some y → P y = true → P x = true) → R.filter P = R.take (R.filter P).length
  | [], _ => rfl
  | z :: R, h => by
    rw [List.filter_cons]
    by_cases hz : P z = true
    · rw [if_pos hz, List.length_cons, List.take_succ_cons]
      have ih := filter_run (P := P) R (fun a b x y hab hx hy => h (a + 1) (b + 1) x y (by omega) (by simpa using hx) (by simpa using hy))
      rw [← ih]
    · rw [if_neg hz]
      have : R.filter P = [] := List.filter_eq_nil_iff.2 fun y hy hp => by
        obtain ⟨j, hj⟩ := List.getElem?_of_mem hy
        exact hz (h 0 (j + 1) z y (by omega) rfl (by simpa using hj) hp)
      rw [this]; rfl
theorem srt_pair {t : List It} (h : Srt t) : t.Pairwise fun a b => cmpT a b < 0 := by
  rw [List.pairwise_iff_getElem]
  intro i j hi hj hij
  have := h i j t[i] t[j] hij (List.getElem?_eq_getElem hi) (List.getElem?_eq_getElem hj)
  show Nm.cmp _ _ < 0
  omega
/-- any order put right -/
theorem sorted_back {t m s : List It} (h : Ok t) (hp : m.Perm t) (hs : Ss.Stable cmpT m s) : s = t :=
  Ss.stable_one cmpT_ok hs (Ss.stable_self (srt_pair (ok_srt h)) hp.symm)
theorem cut_ok {t : List It} (h : (chkE t).2 = 0) (k : Nat) : chkE (t.take k) = (0, 0) := by
  obtain ⟨h1, h2⟩ := chk_zero h
  exact chk_good (by rw [List.length_take]; omega) (ok_take h2 k)
theorem beneath_run {t : List It} (h : Ok t) {i : Nat} {x : It} (hx : t[i]? = some x) :
    t.filter (fun z => bnB x.path z.path) = (t.drop (i + 1)).take (t.filter (fun z => bnB x.path z.path)).length ∧ i + 1 + (t.filter (fun z => bnB x.path z.path)).length ≤ t.length ∧ (0 < (t.filter (fun z => bnB x.path z.path)).length → x.kind = 2) := by
  have hi := (List.getElem?_eq_some_iff.1 hx).1
  have hS := ok_srt h
  have chk : ∀ {j : Nat} {z : It}, t[j]? = some z → (Nm.check z.path).2 = 0 := fun hz => may_check (step_may (h _ _ hz))
  have hne : x.path ≠ [] := (may_len (step_may (h _ _ hx))).2
  have hP : ∀ z : It, bnB x.path z.path = true ↔ ((Nm.check z.path).2 = 0 ∧ Nm.Front (Nm.pieces x.path) (Nm.pieces z.path)) := fun z => by
    rw [bnB_iff]
    unfold Nm.Beneath
    constructor
    · rintro ⟨h1, h2 | ⟨h2, h3⟩⟩
      · exact absurd h2 hne
      · exact ⟨h1, h3⟩
    · rintro ⟨h1, h2⟩
      exact ⟨h1, .inr ⟨chk hx, h2⟩⟩
  have hA : (t.take (i + 1)).filter (fun z => bnB x.path z.path) = [] := List.filter_eq_nil_iff.2 fun z hz hp => by
    obtain ⟨j, hj⟩ := List.getElem?_of_mem hz
    rw [List.getElem?_take] at hj
    split at hj
    · rename_i hji
      have hf := Nm.front_less ((hP z).1 hp).2
      have hc : Nm.cmp x.path z.path = -1 := hf
      rcases Nat.lt_or_ge j i with g | g
      · have h1 := hS j i z x g hj hx
        have h2 := (Nm.cmp_facts z.path x.path x.path).2.1
        omega
      · obtain rfl : j = i := by omega
        rw [hx] at hj
        obtain rfl := Option.some.inj hj
        have h2 := (Nm.cmp_facts x.path x.path x.path).2.2.1.2 rfl
        omega
    · cases hj
  have hF : t.filter (fun z => bnB x.path z.path) = (t.drop (i + 1)).filter (fun z => bnB x.path z.path) := by
    conv => lhs; rw [← List.take_append_drop (i + 1) t, List.filter_append, hA, List.nil_append]
  have hR : (t.drop (i + 1)).filter (fun z => bnB x.path z.path) = (t.drop (i + 1)).take ((t.drop (i + 1)).filter (fun z => bnB x.path z.path)).length := by
    refine filter_run _ fun a b y1 y2 hab h1 h2 hp => ?_
    rw [List.getElem?_drop] at h1 h2
    have hf := ((hP y2).1 hp).2
    have c1 := hS i (i + 1 + a) x y1 (by omega) hx h1
    have c2 := hS (i + 1 + a) (i + 1 + b) y1 y2 (by omega) h1 h2
    exact (hP y1).2 ⟨chk h1, Nm.between _ _ _ hf c1 c2⟩
  refine ⟨by rw [hF]; exact hR, ?_, fun hpos => ?_⟩
  · rw [hF]
    have := List.length_filter_le (fun z => bnB x.path z.path) (t.drop (i + 1))
    rw [List.length_drop] at this
    omega
  · obtain ⟨z, hz⟩ := List.exists_mem_of_length_pos hpos
    obtain ⟨hz1, hz2⟩ := List.mem_filter.1 hz
    obtain ⟨j, hj⟩ := List.getElem?_of_mem hz1
    have hf := ((hP z).1 hz2).2
    obtain ⟨j', y, hy, hyp, hyk⟩ := folders h _ j z hj rfl (Nm.pieces x.path).length (pieces_pos x.path) hf.1
    have e : (Nm.pieces z.path).take (Nm.pieces x.path).length = Nm.pieces x.path := ((frontB_iff _ _).2 hf |> fun q => by
      unfold frontB at q
      rw [Bool.and_eq_true, decide_eq_true_eq, decide_eq_true_eq] at q
      exact q.2)
    rw [e, Nm.joined_pieces] at hyp
    have hij := srt_unique hS hy hx hyp
    subst hij
    rw [hx] at hy
    obtain rfl := Option.some.inj hy
    exact hyk
theorem set_perm {M : List Iv} {i j : Nat} {x y : Iv} (hx : M[i]? = some x) (hy : M[j]? = some y) : ((M.set i y).set j x).Perm M := by
  obtain ⟨h1, e1⟩ := List.getElem?_eq_some_iff.1 hx
  obtain ⟨h2, e2⟩ := List.getElem?_eq_some_iff.1 hy
  rw [← e1, ← e2]
  exact List.set_set_perm h1 h2
end Tr
end Go.Proofs.Ytjifdoneejofiaa
