/- New matrices, row by row: what one more row makes of one, and a matrix copied. -/
import Derived.Test.YtpgjkhlffcomgaaM4
namespace Go.Proofs.Ytpgjkhlffcomgaa
open Go.RowKit

theorem own_keep {W W' : World} {base : Nat} {e : TypeId} {size n : Nat} {v : Value} {xs : List Value} (h : W.ownsRow base e size v n xs) (g : Bw W W') : W'.ownsRow base e size v n xs := by
  obtain ⟨h1, h2⟩ := h
  refine ⟨h1, ?_⟩
  rcases h2 with h | ⟨b, cap, cur, hv, hb, hg, hr⟩
  · exact Or.inl h
  · refine Or.inr ⟨b, cap, cur, hv, hb, ?_, hr⟩
    rw [g.block b (Array.getElem?_eq_some_iff.1 hg).1, hg]

theorem OwnMat.keep {W W' : World} {base : Nat} {v : Value} {n : Nat} {R : Nat → Option Addr} {L C : Nat → Nat} {Z : Nat → Nat → Int} (h : OwnMat W base v n R L C Z) (g : Bw W W') : OwnMat W' base v n R L C Z :=
  ⟨own_keep h.own g, fun r hr => (h.row r hr).keep g, h.cap, fun r a hr ha => by have hp := h.apart r a hr ha; have := g.size; exact ⟨hp.1, by omega, hp.2.2⟩⟩

/-- a value put in one place of a row of values -/
def upd {α : Type} (f : Nat → α) (k : Nat) (x : α) : Nat → α := fun r => if r = k then x else f r
theorem upd_at {α : Type} (f : Nat → α) (k : Nat) (x : α) : upd f k x k = x := by unfold upd; rw [if_pos rfl]
theorem upd_ne {α : Type} (f : Nat → α) {k r : Nat} (x : α) (h : r ≠ k) : upd f k x r = f r := by unfold upd; rw [if_neg h]

theorem own_lt {W : World} {base : Nat} {e : TypeId} {size n : Nat} {v : Value} {xs : List Value} (h : W.ownsRow base e size v n xs) : ∀ g, v.ownBlock = some g → g < W.heap.size := by
  intro g hg
  rcases h.2 with ⟨rfl, _⟩ | ⟨b, cap, cur, rfl, hb, hh, hr⟩
  · cases hg
  · simp only [Value.ownBlock, Option.some.injEq] at hg
    subst hg
    exact (Array.getElem?_eq_some_iff.1 hh).1

/-- what a value that owns a row looks like -/
theorem own_form {W : World} {base : Nat} {e : TypeId} {size n : Nat} {v : Value} {xs : List Value} (h : W.ownsRow base e size v n xs) : ∃ A c, v = .slice A n c := by
  rcases h.2 with ⟨rfl, rfl⟩ | ⟨g, cap, cur, rfl, _⟩
  · exact ⟨_, _, rfl⟩
  · exact ⟨_, _, rfl⟩

/-- one row more: 'W': ahead of the new row; 'W1': the new row lies at A1, in a block of its own; 'w2': behind the append -/
theorem OwnMat.push {W W1 w2 : World} {base : Nat} {v : Value} {n g c2 : Nat} {R : Nat → Option Addr} {L C : Nat → Nat} {Z : Nat → Nat → Int} (h : OwnMat W base v n R L C Z) (b1 : Bw W W1)
    {A1 : Option Addr} {l1 c1 : Nat} {z1 : Nat → Int} (hbase : base ≤ W.heap.size) (hrow : RowAt W1 A1 l1 z1) (hcap : l1 ≤ c1 ∧ c1 ≤ maxLen) (hA : ∀ a, A1 = some a → W.heap.size ≤ a.block ∧ a.block < W1.heap.size) {o : Obj}
    (hgrow : (W1.alloc o).grownBy w2 v.ownBlock) (hat : v.ownBlock = some g ∨ g = W1.heap.size + 1)
    (hown : w2.ownsRow base 22 1 (.slice (some ⟨g, 0, none⟩) (n + 1) c2) (n + 1) (rowsU R L C n ++ [.slice A1 l1 c1])) :
    OwnMat w2 base (.slice (some ⟨g, 0, none⟩) (n + 1) c2) (n + 1) (upd R n A1) (upd L n l1) (upd C n c1) (upd Z n z1) ∧ Below base W w2 := by
  have hs1 : W.heap.size ≤ W1.heap.size := b1.size
  have hs2 : W1.heap.size + 1 ≤ w2.heap.size := by have := hgrow.size; rw [size_alloc] at this; exact this
  have hlt := own_lt h.own
  have hge := own_ge h.own
  have ba : Bw W1 (W1.alloc o) := (Below.refl _ _).alloc (Nat.le_refl _) o
  refine ⟨⟨?_, fun r hr => ?_, fun r hr => ?_, fun r a hr ha => ?_⟩, ?_⟩
  · have e : rowsU (upd R n A1) (upd L n l1) (upd C n c1) (n + 1) = rowsU R L C n ++ [.slice A1 l1 c1] := by
      rw [rowsU_succ, upd_at, upd_at, upd_at, rowsU_congr (R' := R) (L' := L) (C' := C) (fun r hr => ⟨upd_ne _ _ (by omega), upd_ne _ _ (by omega), upd_ne _ _ (by omega)⟩)]
    rw [e]; exact hown
  · by_cases e : r = n
    · subst e
      rw [upd_at, upd_at, upd_at]
      refine (hrow.keep ba).grown hgrow (fun a ha hv => ?_)
      have := hA a ha
      have := hlt _ hv
      omega
    · rw [upd_ne _ _ e, upd_ne _ _ e, upd_ne _ _ e]
      refine (((h.row r (by omega)).keep b1).keep ba).grown hgrow (fun a ha hv => ?_)
      exact (h.apart r a (by omega) ha).2.2 hv
  · by_cases e : r = n
    · subst e; rw [upd_at, upd_at]; exact hcap
    · rw [upd_ne _ _ e, upd_ne _ _ e]; exact h.cap r (by omega)
  · by_cases e : r = n
    · subst e
      rw [upd_at] at ha
      have := hA a ha
      refine ⟨by omega, by omega, fun hg => ?_⟩
      simp only [Value.ownBlock, Option.some.injEq] at hg
      rcases hat with h1 | h1
      · have := hlt _ h1; omega
      · omega
    · rw [upd_ne _ _ e] at ha
      have hp := h.apart r a (by omega) ha
      refine ⟨hp.1, by omega, fun hg => ?_⟩
      simp only [Value.ownBlock, Option.some.injEq] at hg
      rcases hat with h1 | h1
      · exact hp.2.2 (by rw [h1, hg])
      · omega
  · exact ((b1.mono hbase).trans (ba.mono (by omega))).grown hgrow (by rw [size_alloc]; omega) (fun k hk => hge k hk)

theorem cellsU_len (f : Nat → Int) (L : Nat) : (cellsU f L).length = L := by unfold cellsU; simp

theorem cellsU_get (f : Nat → Int) (L j : Nat) (u : Value) (h : (cellsU f L)[j]? = some u) : j < L ∧ u = .int .u8 (f j) := by
  have hj : j < L := by have := (List.getElem?_eq_some_iff.1 h).1; rwa [cellsU_len] at this
  refine ⟨hj, ?_⟩
  unfold cellsU at h
  rw [List.getElem?_map, List.getElem?_range hj] at h
  exact (Option.some.inj h).symm

theorem cellsU_one (f : Nat → Int) (L : Nat) : ∀ u ∈ cellsU f L, u.oneCell' = true := by
  intro u hu
  unfold cellsU at hu
  obtain ⟨i, _, rfl⟩ := List.mem_map.1 hu
  rfl

/-- a row in memory appended to a row of the call's own, whatever lies where -/
theorem wpList_append_rowat {P : Program} (w : World) {ops : Array Oper} {rest : List Oper} {o : Oper} {a : Act} {Q : Exit → Act → World → Prop} (hgd : o.guard = none) (s x : Operand) (t : TypeId)
    (ho : o.op = .call { callee := .builtin .append, args := #[s, x], argTypes := #[t, t] })
    (base : Nat) (e : TypeId) (i : TypeInfo) (z : Value) (bytes : Nat) (ht : P.underlying t = some (.slice e)) (hi : P.info? e = some i) (hz : i.zero = some z)
    (hsize : i.size = 1) (hby : i.bytes = bytes) (hzs : z.cells.size = 1)
    (v : Value) (n : Nat) (xs : List Value) (hs : a.eval s = v) (hown : w.ownsRow base e 1 v n xs)
    (A : Option Addr) (L C : Nat) (f : Nat → Int) (hx : a.eval x = .slice A L C) (hr : RowAt w A L f) (hC : A = none → C = 0)
    (h63 : n + L ≤ maxLen) (hbytes : (n + L) * bytes ≤ 140737488355328) (hbase : base ≤ w.heap.size)
    (h : ∀ v' w', w'.ownsRow base e 1 v' (n + L) (xs ++ cellsU f L) → w.grownBy w' v.ownBlock → wpList P ops Q rest (a.put o.dst v') w') : wpList P ops Q (o :: rest) a w := by
  cases A with
  | some ad =>
    refine wpList_append_own w hgd s x t ho base e i z 1 bytes ht hi hz hsize hby hzs (by decide) v n xs hs hown ad L C (cellsU f L) hx (by rw [cellsU_len, Nat.mul_one]) (fun j u hu => ?_) (cellsU_one f L) h63 hbytes hbase (fun v' w' h1 h2 _ => h v' w' h1 h2)
    obtain ⟨hj, rfl⟩ := cellsU_get f L j u hu
    obtain ⟨b, off, e', hc⟩ := hr.at hj
    cases e'
    have := hc j hj
    have hadd : (⟨b, off, none⟩ : Addr).add j = ⟨b, off + j, none⟩ := by rw [Addr.add_lit]
    rw [hadd]; exact this
  | none =>
    have hL : L = 0 := by
      rcases hr.1 with h0 | ⟨b, off, e', _⟩
      · exact h0
      · cases e'
    subst hL
    obtain rfl := hC rfl
    refine wpList_plain hgd fun K hK' => ?_
    have hrun := run_append_owned_none (P := P) w base t o.type e i 1 ht hi v n xs hown
    unfold Oper.wp
    simp [execOp, ho, resolve, invoke, builtin, hs, hx, hrun, Result.andThen]
    exact hK' _ _ (h v w (by simpa [cellsU] using hown) (World.grownBy.refl _ _))

/-- an empty row that has just been laid -/
theorem own_empty (W : World) (base : Nat) (t : TypeId) (h : base ≤ W.heap.size) : (W.alloc (.cells #[] t)).ownsRow base t 1 (.slice (some ⟨W.heap.size, 0, none⟩) 0 0) 0 [] :=
  ⟨rfl, Or.inr ⟨W.heap.size, 0, #[], rfl, h, heap_alloc_new _ _, Nat.le_refl _, Nat.zero_le _, rfl, rfl⟩⟩

end Go.Proofs.Ytpgjkhlffcomgaa
