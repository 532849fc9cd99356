/- Layer 15: an Add or a Rewrite done to both journals, with records that are lent and written over. -/
import Derived.Test.YtppknadflmjefaaQo
import Derived.Test.YtppknadflmjefaaWU
namespace Go.Proofs.Ytppknadflmjefaa
open Go.RowKit Go.Deep Go.Maps
set_option linter.unusedVariables false
set_option linter.unusedSimpArgs false

theorem len_packed : ∀ (L : List (List Nat)), ∀ l ∈ L, l.length ≤ (Jl.packed L).length
  | [], l, h => by cases h
  | r :: L, l, h => by
    rw [Jl.packed]
    rcases List.mem_cons.1 h with rfl | h
    · simp; omega
    · have := len_packed L l h
      simp; omega
/-- how both end -/
def BothA (base g lb gm gd cb cap : Nat) (p1 p2 : Value) (fa fs fr : Nat) (A : Option Addr) (n ca : Nat) (wr W2 w3 : World) (v : Value) (E : Int) (O' : Option Jl.Jn) (S' : Dsk) : Prop :=
  Calls Try.prog fa #[p1, v] w3 fun e w4 => e = .returned (.int .i64 E) ∧ Calls Try.prog fs #[v] w4 fun e w5 => e = .returned (.tuple #[]) ∧ Bx (fun b => b < wr.heap.size) W2 w5 ∧ Calls Try.prog fr #[p2, .slice A n ca] w5 fun e w6 => e = .returned (.int .i64 E) ∧ Tw base g lb gm gd cb cap p1 p2 O' S' w6 ∧ Bx (fun b => (dIn g lb gm b ∨ rIn gd cb b) ∨ base ≤ b) W2 w6
theorem tw_adds {base g lb gm gd cb cap : Nat} {p1 p2 : Value} {O : Option Jl.Jn} {S : Dsk} {wr W2 : World} (h : Tw base g lb gm gd cb cap p1 p2 O S wr) (k2 : Bw wr W2) (hbase : base ≤ wr.heap.size) {A : Option Addr} {n : Nat} (ca : Nat) {vs : List Value} {L : List (List Nat)} (hM : MatV W2 A n vs L) (hn : n ≤ 1000000) (hs : (Jl.packed L).length ≤ 1000000) (hArD : ∀ b, ArgIn A n vs b → ¬ (dIn g lb gm b ∨ rIn gd cb b)) (hArb : ∀ b, ArgIn A n vs b → b < base) (w : Bool) :
    ∃ E O' S', S'.n = S.n ∧ ∀ v w3, LentAt W2.heap.size w3 v L → Bw W2 w3 → BothA base g lb gm gd cb cap p1 p2 (if w then 22 else 21) 31 (if w then 33 else 32) A n ca wr W2 w3 v E O' S' := by
  have hl1 : ∀ l ∈ L, l.length ≤ 1000000 := fun l hl => Nat.le_trans (len_packed L l hl) hs
  have hLn : L.length ≤ 1000000 := Nat.le_trans (Jl.packed_len L) hs
  have s2 : wr.heap.size ≤ W2.heap.size := k2.size
  cases O with
  | none =>
    obtain ⟨h1, h2, rfl, rfl⟩ := h
    refine ⟨8, none, S, rfl, fun v w3 hL k3 => ?_⟩
    obtain ⟨A', c', vs', rfl, hE⟩ := hL.lend hl1
    have hsz : vs'.length = L.length := hE.mat.len
    have hsp := hE.spoil (P := fun _ => False) (Nat.le_refl _) (Bx.refl _ _) (fun b e => e.elim) (fun b e => e.elim)
    have h3 : ∀ e w4, e = Ending.returned (.int .i64 8) ∧ w4 = w3 → e = .returned (.int .i64 8) ∧ Calls Try.prog 31 #[.slice A' L.length c'] w4 fun e w5 => e = .returned (.tuple #[]) ∧ Bx (fun b => b < wr.heap.size) W2 w5 ∧ Calls Try.prog (if w then 33 else 32) #[.pointer none, .slice A n ca] w5 fun e w6 => e = .returned (.int .i64 8) ∧ Tw base g lb gm gd cb cap (.pointer none) (.pointer none) none S w6 ∧ Bx (fun b => (dIn g lb gm b ∨ rIn gd cb b) ∨ base ≤ b) W2 w6 := by
      rintro e w4 ⟨rfl, rfl⟩
      refine ⟨rfl, (spoilt15_any hsp hsz hLn).mono ?_⟩
      rintro e w5 ⟨rfl, hx5⟩
      have hb5 : Bw W2 w5 := Below.trans k3 (hx5.below k3.size (fun b e => e.1))
      refine ⟨rfl, Bx.of_bw hb5, ?_⟩
      have h6 : ∀ e w6, e = Ending.returned (.int .i64 8) ∧ w6 = w5 → e = .returned (.int .i64 8) ∧ Tw base g lb gm gd cb cap (.pointer none) (.pointer none) none S w6 ∧ Bx (fun b => (dIn g lb gm b ∨ rIn gd cb b) ∨ base ≤ b) W2 w6 := by
        rintro e w6 ⟨rfl, rfl⟩
        exact ⟨rfl, (show Tw base g lb gm gd cb cap (.pointer none) (.pointer none) none S wr from ⟨h1, h2, rfl, rfl⟩).keep (k2.trans hb5), Bx.of_bw hb5⟩
      cases w
      · exact (radd15_nil w5 A n ca).mono h6
      · exact (rrew15_nil w5 A n ca).mono h6
    cases w
    · exact (jadd_nil w3 A' L.length c').mono h3
    · exact (jrew_nil w3 A' L.length c').mono h3
  | some J =>
    obtain ⟨h1, h2, gj, v1, gk, v2, R1, R2, rfl, rfl, hj0⟩ := h
    have hj := hj0.keep k2
    obtain ⟨P, hP⟩ : ∃ P, Hid ((if w then Jl.rew J S L else Jl.add J S L) = P) := ⟨_, rfl⟩
    have hinn : P.2.2.r0 + P.2.2.rc ≤ P.2.1.n ∧ P.2.2.Few ∧ P.2.1.n = S.n := by
      rw [← hP.out]
      cases w
      · exact add_inn L hj.inn hj.few
      · exact rew_inn L hj.inn hj.few
    obtain ⟨LV, WV, hr⟩ := hj0.r
    have jge1 := hj0.a.jge
    have jge2 := hj0.b.jge
    refine ⟨P.1, some P.2.2, P.2.1, hinn.2.2, fun v w3 hL k3 => ?_⟩
    obtain ⟨A', c', vs', rfl, hE⟩ := hL.lend hl1
    have hsz : vs'.length = L.length := hE.mat.len
    have hlo : ∀ b, dIn g lb gm b ∨ jIn gj v1 b → b < wr.heap.size := fun b e => e.elim (hj0.d.low b) (hj0.a.jlow b)
    have hA3 : Calls Try.prog (if w then 22 else 21) #[.pointer (some ⟨gj, 0, none⟩), .slice A' L.length c'] w3 fun e w4 => AddV base gj g lb gm R1 v1 P w3 e w4 := by
      have hArg : ∀ b, ArgIn A' L.length vs' b → ¬ (dIn g lb gm b ∨ jIn gj v1 b) := fun b hb e => by
        have := (hE.arg b hb).1; have := hlo b e; omega
      have hR : ∀ b, R1 b → ¬ dIn g lb gm b := fun b hb => (hj.s1 b hb).2.1
      rw [← hP.out]
      cases w
      · exact jadd_any (hj.a.keep k3) (hj.d.keep k3) hR hj.inn hj.few c' hE.mat hLn hs hArg
      · exact jrew_any (hj.a.keep k3) (hj.d.keep k3) hR hj.inn c' hE.mat hLn hs hArg
    refine hA3.mono ?_
    intro e w4 hA
    have hA' := hA
    obtain ⟨v1', e1, hd4, ha4, hx4, -⟩ := hA'
    refine ⟨e1, ?_⟩
    have hno : NoU w3 (fun b => dIn g lb gm b ∨ jIn gj v1 b) := fun b hb => hb.elim ((hj.d.keep k3).nou15 b) ((hj.a.keep k3).nou b)
    have hsp := hE.spoil (Nat.le_refl _) hx4 hno (fun b e => Nat.lt_of_lt_of_le (hlo b e) s2)
    refine (spoilt15_any hsp hsz hLn).mono ?_
    rintro e5 w5 ⟨rfl, hx5⟩
    have hx25 := (hj.add1 k3 hA hx5).1
    refine ⟨rfl, hx25.more hlo, ?_⟩
    obtain ⟨hr5, hb5⟩ := hj.mid hx25
    have hM5 : MatV w5 A n vs L := hM.keepx hx25 (fun b o e h0 => ?_) (fun u hu b o m c e h0 => ?_)
    rotate_left
    · intro e2
      have ha := (show ArgIn A n vs b from .inl ⟨o, e, h0⟩)
      rcases e2 with e2 | e2
      · exact hArD b ha (.inl e2)
      · have := hArb b ha; have := jge1 b e2; omega
    · intro e2
      have ha := (show ArgIn A n vs b from .inr ⟨u, hu, o, m, c, e, h0⟩)
      rcases e2 with e2 | e2
      · exact hArD b ha (.inl e2)
      · have := hArb b ha; have := jge1 b e2; omega
    have s5 : base ≤ w5.heap.size := Nat.le_trans (Nat.le_trans hbase s2) hx25.size
    have hB5 : Calls Try.prog (if w then 33 else 32) #[.pointer (some ⟨gk, 0, none⟩), .slice A n ca] w5 fun e w6 => RAddV base gk gd cb cap R2 v2 P w5 e w6 := by
      have hArg : ∀ b, ArgIn A n vs b → ¬ (rIn gd cb b ∨ jIn gk v2 b) := fun b hb e => e.elim (fun e => hArD b hb (.inr e)) (fun e => by have := hArb b hb; have := jge2 b e; omega)
      have hR : ∀ b, R2 b → ¬ rIn gd cb b := fun b hb => (hj.s2 b hb).2.2.1
      rw [← hP.out]
      cases w
      · exact rjadd15_any hb5 hr5 hR hj.inn hj.few ca hM5 hn hs hArg s5
      · exact rjrew15_any hb5 hr5 hR hj.inn ca hM5 hn hs hArg s5
    refine hB5.mono ?_
    intro e6 w6 hB
    have hB' := hB
    obtain ⟨v2', e2, -⟩ := hB'
    obtain ⟨⟨v1n, v2n, R1n, R2n, hjn⟩, hx6⟩ := hj.add2 k3 hA hx5 hB hinn.1 hinn.2.1
    refine ⟨e2, ⟨hjn.d, hjn.r, gj, v1n, gk, v2n, R1n, R2n, rfl, rfl, hjn⟩, hx6.more (fun b e => ?_)⟩
    rcases e with e | e | e | e
    · exact .inl (.inl e)
    · exact .inl (.inr e)
    · exact .inr (jge1 b e)
    · exact .inr (jge2 b e)
end Go.Proofs.Ytppknadflmjefaa
