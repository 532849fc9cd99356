/- mustRise as a whole; an append onto an owned row inside a drawn region. -/
import Derived.Test.YtmbabfelnieagabDoorBR
namespace Go.Proofs.YtmbabfelnieagabDoor
open Go.RowKit Go.Deep
set_option linter.unusedVariables false
set_option linter.unusedSimpArgs false

def Px.riseK (L : List Px.Pr) (k : Nat) (a : Px.B) : Nat := if Px.behind (Px.lastK L k) a = true then 0 else 92
theorem mrise_any (A : Option Addr) (cap k : Nat) (L : List Px.Pr) (hk : k ≤ L.length) (hn : L.length ≤ 4611686018427387904) (a b : ByteArray) (w : World) (ha : PrsAt w A L) :
    Calls Tryd.prog 26 #[.slice A k cap, .agg #[.string a, .string b]] w fun e w' => Asks (Px.riseK L k a.toList) e ∧ Bw w w' := by
  rcases Nat.eq_zero_or_pos k with h0 | h0
  · subst h0
    exact (rise_none A cap a b w).mono fun e w' ⟨h1, h2⟩ => ⟨.inl ⟨rfl, h1⟩, h2⟩
  · obtain ⟨q, rfl⟩ : ∃ q, k = q + 1 := ⟨k - 1, by omega⟩
    obtain ⟨p', hp'⟩ : ∃ p', L[q]? = some p' := ⟨_, List.getElem?_eq_getElem (by omega)⟩
    obtain ⟨g, o, rfl, hc⟩ := ha.at (by omega)
    obtain ⟨c1, -⟩ := hc q p' hp'
    have hb : Px.behind (Px.lastK L (q + 1)) a.toList = Op.bytesLess (Nm.S p'.1).toList a.toList := by
      unfold Px.lastK
      rw [if_neg (by omega), Nat.add_sub_cancel, hp', Nm.toList_S]
      rfl
    cases hls : Op.bytesLess (Nm.S p'.1).toList a.toList
    · refine (rise_no g o q cap (by omega) (Nm.S p'.1) a b w c1 hls).mono fun e w' ⟨h1, h2⟩ => ⟨.inr ?_, h2⟩
      have : Px.riseK L (q + 1) a.toList = 92 := by unfold Px.riseK; rw [hb, hls]; rfl
      rw [this]
      exact ⟨by decide, h1⟩
    · refine (rise_yes g o q cap (by omega) (Nm.S p'.1) a b w c1 hls).mono fun e w' ⟨h1, h2⟩ => ⟨.inl ⟨?_, h1⟩, h2⟩
      unfold Px.riseK; rw [hb, hls]; rfl
theorem PrsAt.keepb {w w' : World} {B : Nat} {A : Option Addr} {L : List Px.Pr} (h : PrsAt w A L) (k : Below B w w') (hA : L = [] ∨ ∀ b o, A = some ⟨b, o, none⟩ → b < B) : PrsAt w' A L := by
  rcases hA with h0 | hA
  · exact .inl h0
  rcases h with h | ⟨b, off, h1, h2⟩
  · exact .inl h
  · refine .inr ⟨b, off, h1, fun i p hp => ?_⟩
    obtain ⟨h3, h4⟩ := h2 i p hp
    exact ⟨(k.cell (p := ⟨b, off + i * 2, none⟩) (hA b off h1)).trans h3, (k.cell (p := ⟨b, off + i * 2 + 1, none⟩) (hA b off h1)).trans h4⟩
/-- bytes onto an owned row, in a drawn region -/
theorem step_own9 {w : World} {ops : Array Oper} {o : Oper} {a : Act} {K : Act → World → Prop} {Q : Exit → Act → World → Prop} {E : Prop} (hgd : o.guard = none) (s x : Operand)
    (ho : o.op = .call { callee := .builtin .append, args := #[s, x], argTypes := #[27, 27] }) (B : Nat) (v : Value) (l : Px.B) (hs : a.eval s = v)
    (hown : w.ownsRow B 5 1 v l.length (Px.cellsB l)) (B' : Nat) (u : Value) (r : Px.B) (hx : a.eval x = u) (hr : w.ownsRow B' 5 1 u r.length (Px.cellsB r)) (hr0 : 0 < r.length)
    (hlen : l.length ≤ 1000000) (hlr : r.length ≤ 1000000) (hB : B ≤ w.heap.size)
    (hh : ∀ A c m w', Hid ((l ++ r).length = m) → w'.ownsRow B 5 1 (.slice A m c) m (Px.cellsB (l ++ r)) → Below B w w' → K (a.put o.dst (.slice A m c)) w') :
    if Region.wanted o (yielded ops a.tmps) = true then Oper.wp Tryd.prog o a w K Q else E := by
  have hw : Region.wanted o (yielded ops a.tmps) = true := by simp [Region.wanted, hgd]
  rw [if_pos hw]
  obtain ⟨i0, hi0, hz0, hz1, hz2⟩ := info_parts info_u8
  obtain ⟨g, cap, rfl⟩ : ∃ g cap, u = .slice (some ⟨g, 0, none⟩) r.length cap := by
    rcases hr with ⟨h0, ⟨h1, h2⟩ | ⟨g', cap, cur, h1, h2⟩⟩
    · omega
    · exact ⟨g', cap, h1⟩
  obtain ⟨v', w', hrun, h1, h2, -⟩ := run_append_own (P := Tryd.prog) w B 27 o.type 5 i0 _ 1 1 Tryd.underlying27 hi0 hz0 hz1 hz2 rfl (by decide) v l.length (Px.cellsB l) hown ⟨g, 0, none⟩ r.length cap (Px.cellsB r) (by rw [Px.cellsB_len, Nat.mul_one]) (hr.cells (g := g) rfl) (fun y hy => by
    unfold Px.cellsB at hy
    obtain ⟨c, _, rfl⟩ := List.mem_map.1 hy
    rfl) (by unfold maxLen; omega) (by omega) hB
  have h3 : w'.ownsRow B 5 1 v' (l ++ r).length (Px.cellsB (l ++ r)) := by
    rw [Px.cellsB_append, List.length_append]; exact h1
  obtain ⟨A, c, rfl⟩ := own_slice h3
  unfold Oper.wp execOp
  simp only [ho, resolve, invoke, builtin, Sem.run_bind, Sem.run_pure, Result.andThen_ok, List.map_toArray, List.map_cons, List.map_nil, hs, hx, hrun]
  exact hh A c _ w' (show (l ++ r).length = _ from rfl) h3 ((Below.refl _ _).grown h2 hB (fun k hk => (hown.lt k hk).1))
end Go.Proofs.YtmbabfelnieagabDoor
