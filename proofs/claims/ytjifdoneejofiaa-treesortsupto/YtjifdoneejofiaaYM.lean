/- The program's own Sort, of layer 11, as landed at 97b3c5cd. -/
import Derived.Test.YtjifdoneejofiaaYL
namespace Go.Proofs.Ytjifdoneejofiaa
open Go.RowKit Go.Deep
set_option linter.unusedVariables false
set_option linter.unusedSimpArgs false

theorem own_keepx {w w' : World} {base g n : Nat} {e : TypeId} {s : Nat} {v : Value} {xs : List Value} (h : w.ownsRow base e s v n xs) (k : Bx (· = g) w w') (hg : v.ownBlock ≠ some g) : w'.ownsRow base e s v n xs := by
  refine ⟨h.1, ?_⟩
  rcases h.2 with h0 | ⟨b, cap, cur, hv, hb, hh, h1, h2, h3, h4⟩
  · exact .inl h0
  · have hne : ¬ b = g := fun e => hg (by rw [hv, e]; rfl)
    exact .inr ⟨b, cap, cur, hv, hb, (k.block b (Array.getElem?_eq_some_iff.1 hh).1 hne).trans hh, h1, h2, h3, h4⟩
set_option maxRecDepth 100000 in
theorem insert_nil (w : World) : Calls Try.prog 86 #[.slice none 0 0, .int .i64 0, .int .i64 0, cfv] w fun e w' => e = .returned (.tuple #[]) ∧ w' = w := by
  go_enter Try.func86, Try.ntmps86
  go_wp2
  go_loop [8] (fun s8 => s8 = .int .i64 1) (fun _ => 0)
  case atStart => rfl
  case round =>
    obtain rfl := hrel
    go_wp2
    go_end0
    exact ⟨rfl, rfl⟩
set_option maxRecDepth 100000 in
theorem stable_nil (w : World) : Calls Try.prog 72 #[.slice none 0 0, .int .i64 0, cfv] w fun e w' => e = .returned (.tuple #[]) ∧ w' = w := by
  have HI : Hid (∀ u, Calls Try.prog 86 #[.slice none 0 0, .int .i64 0, .int .i64 0, cfv] u fun e w' => e = .returned (.tuple #[]) ∧ w' = u) := fun u => insert_nil u
  go_enter Try.func72, Try.ntmps72
  go_wp2
  go_loop [7, 8] (fun s7 s8 => s7 = .int .i64 0 ∧ s8 = .int .i64 20) (fun _ _ => 0)
  case atStart => exact ⟨rfl, rfl⟩
  case round =>
    obtain ⟨rfl, rfl⟩ := hrel
    go_wp2_with (go_at_call 86; refine (HI.out _).mono ?_; rintro e w1 ⟨rfl, rfl⟩)
    go_loop [6] (fun s6 => s6 = .int .i64 20) (fun _ => 0)
    case atStart => rfl
    case round =>
      obtain rfl := hrel
      go_wp2
      go_end0
      exact ⟨rfl, rfl⟩
set_option maxRecDepth 100000 in
theorem sorts_any (n c : Nat) (A : Option Addr) (w : World) (Q : Ending → World → Prop) (h : Calls Try.prog 72 #[.slice A n c, .int .i64 (n : Int), cfv] w fun e w' => e = .returned (.tuple #[]) ∧ Q (.returned (.tuple #[])) w') :
    Calls Try.prog 41 #[.slice A n c, cfv] w Q := by
  have HS : Hid (Calls Try.prog 72 #[.slice A n c, .int .i64 (n : Int), cfv] w fun e w' => e = .returned (.tuple #[]) ∧ Q (.returned (.tuple #[])) w') := h
  clear h
  go_enter Try.func41, Try.ntmps41
  go_wp2_with (go_at_call 72; refine HS.out.mono ?_; rintro e w1 ⟨rfl, hQ⟩)
  go_end0
  exact hQ
theorem own_some {w : World} {base n : Nat} {e : TypeId} {s : Nat} {v : Value} {xs : List Value} (h : w.ownsRow base e s v n xs) (hn : 0 < n) : ∃ g c, v = .slice (some ⟨g, 0, none⟩) n c ∧ base ≤ g := by
  rcases h.2 with ⟨-, h⟩ | ⟨g, c, cur, h, hb, -⟩
  · omega
  · exact ⟨g, c, h, hb⟩
/-- an answer that is a list in stable order -/
def SortEnds (base : Nat) (t : List Tr.It) (e : Ending) (w' : World) : Prop := ∃ v M, e = .returned v ∧ Ss.Stable Tr.cmpT t (Tr.its M) ∧ OwnIts base w' v M
/-- a list of a call's own, sorted where it lies -/
theorem sort_in (base : Nat) (w u : World) (v : Value) (M : List Tr.Iv) (hb : base ≤ w.heap.size) (hw : Bw w u) (hn : M.length ≤ 2199023255552) (hbase : base = w.heap.size) (ho : OwnIts base u v M) :
    Calls Try.prog 41 #[v, cfv] u fun e w' => e = .returned (.tuple #[]) ∧ ∃ M', Ss.Stable Tr.cmpI M M' ∧ OwnIts base w' v M' ∧ Bw w w' := by
  rcases ho.row.2 with ⟨h0, h1⟩ | ⟨g, cap, cur, hv, hgb, hh, h1, h2, h3, h4⟩
  · have hM : M = [] := List.eq_nil_of_length_eq_zero h1
    subst hM h0
    refine sorts_any 0 0 none u _ ((stable_nil u).mono fun e w' h => ⟨h.1, rfl, [], Ss.stable_nil _, ?_⟩)
    obtain ⟨-, rfl⟩ := h
    exact ⟨ho, hw⟩
  · subst hv
    have hs : Sw u base g M.length cap M u := ⟨ho.row, rfl, Bx.refl _ _⟩
    refine sorts_any M.length cap (some ⟨g, 0, none⟩) u _ ((stable_any u base g M.length cap M hn u hs ho.fit).mono fun e w' h => ⟨h.1, rfl, ?_⟩)
    obtain ⟨-, M', hst, hsw⟩ := h
    have hp := hst.perm
    refine ⟨M', hst, ⟨by rw [hp.length_eq]; exact hsw.own, fun y hy => ?_, fun y hy => ho.fit y (hp.mem_iff.1 hy)⟩, ?_⟩
    · have hb := ho.body y (hp.mem_iff.1 hy)
      refine own_keepx hb hsw.bx (fun e => ?_)
      rcases own_apart8 hb ho.row (by decide) with h | h
      · rw [h] at e; cases e
      · exact h (by rw [e]; rfl)
    · exact bw_of_bx11 hw hsw.bx (by rw [← hbase]; exact hgb)
set_option maxRecDepth 100000 in
set_option maxHeartbeats 1000000 in
theorem tsort_any (A : Option Addr) (cap : Nat) (L : List Tr.Iv) (hn : L.length * 80 ≤ 140737488355328) (hC : A = none → L.length = 0 ∧ cap = 0) (w : World) (ha : ItsAt w A L) :
    Calls Try.prog 15 #[.slice A L.length cap] w fun e w' => SortEnds w.heap.size (Tr.its L) e w' ∧ Bw w w' := by
  have HCo : Hid (Calls Try.prog 40 #[.slice A L.length cap] w fun e w' => CopyEnds w.heap.size (Tr.its L) e w' ∧ Bw w w') := copied_any A cap L hn hC w ha
  have HSo : Hid (∀ u v M, Bw w u → Tr.its M = Tr.its L → OwnIts w.heap.size u v M → Calls Try.prog 41 #[v, cfv] u fun e w' => e = .returned (.tuple #[]) ∧ ∃ M', Ss.Stable Tr.cmpI M M' ∧ OwnIts w.heap.size w' v M' ∧ Bw w w') := fun u v M hu he ho =>
    sort_in w.heap.size w u v M (Nat.le_refl _) hu (by have := congrArg List.length he; rw [Tr.its_len, Tr.its_len] at this; omega) rfl ho
  obtain ⟨n, hnn⟩ : ∃ n, Hid (L.length = n) := ⟨_, rfl⟩
  rw [hnn.out] at HCo hn ⊢
  obtain ⟨H, hH⟩ : ∃ H, Hid (w.heap.size = H) := ⟨_, rfl⟩
  rw [hH.out] at HCo HSo ⊢
  clear ha hC
  go_enter Try.func15, Try.ntmps15
  go_wp2_with (first
    | (go_at_call 40; refine HCo.out.mono ?_; rintro e w1 ⟨⟨v1, M1, rfl, hm1, ho1⟩, hw1⟩)
    | (go_at_call 41; refine (HSo.out _ v1 M1 hw1 hm1 ho1).mono ?_; rintro e w2 ⟨rfl, M2, hst, ho2, hw2⟩))
  go_ret
  exact ⟨⟨v1, M2, rfl, by
    have := Ss.Stable.map (d := Tr.cmpT) (fun y : Tr.Iv => y.it) (fun _ _ => rfl) hst
    rw [← hm1]; exact this, ho2⟩, hw2⟩
end Go.Proofs.Ytjifdoneejofiaa
