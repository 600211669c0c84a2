/-
  The same call at both, or at none.
-/
import Derived.Test.YtcbnmoppnoiggaaPairOps5
namespace Go.Proofs.Ytcbnmoppnoiggaa
open Go.RowKit
set_option linter.unusedVariables false
set_option linter.unusedSimpArgs false
def pn : Option St → Option Addr
  | none => none
  | some s => some ⟨s.b, 0, none⟩
def pn' : Option St → Option Addr
  | none => none
  | some s => some ⟨s.b', 0, none⟩
def oown : Option St → List Nat
  | none => []
  | some s => s.own ++ s.own'
def Po (w : World) (base : Nat) : Option St → Prop
  | none => True
  | some s => Pr w base s
def Ob : Option St → Nat → Nat → Prop
  | none, _, _ => True
  | some s, D, N => Sz s D ∧ s.bound ≤ N ∧ s.ns.length ≤ N
structure Mv (w w' : World) (base : Nat) (o o' : Option St) (D N : Nat) : Prop where
  pr : Po w' base o'
  turn : Turn w w' (oown o)
  sub : ∀ k ∈ oown o', k ∈ oown o ∨ w.heap.size ≤ k
  e : pn o' = pn o
  e' : pn' o' = pn' o
  ob : Ob o' D N
theorem Mv.of {w w' : World} {base : Nat} {s s' : St} {D N : Nat} (h : Moved w w' base s s') (hS : Sz s' D) (hb : s.bound ≤ N) (hn : s.ns.length ≤ N) : Mv w w' base (some s) (some s') D (N + 1) :=
  ⟨h.pr, h.turn, h.sub, by simp [pn, h.eb], by simp [pn', h.eb'], hS, by have := h.bnd; omega, by have := h.nsl; omega⟩
theorem Mv.nil {w w' : World} {base : Nat} {D N : Nat} (e : Same w' w) : Mv w w' base none none D N :=
  ⟨trivial, ⟨e.os, e.tape, e.output, by rw [e.heap]; exact Nat.le_refl _, fun _ _ _ => by rw [e.heap]⟩, fun _ h => .inl h, rfl, rfl, trivial⟩
theorem Mv.after {w0 w w2 : World} {base : Nat} {o o' : Option St} {D N : Nat} (hB : Below w0.heap.size w0 w) (h : Mv w w2 base o o' D N) : Mv w0 w2 base o o' D N :=
  ⟨h.pr, ⟨h.turn.os.trans hB.os, h.turn.tape.trans hB.tape, h.turn.output.trans hB.output, Nat.le_trans hB.size h.turn.size, fun k hk hn => (h.turn.block k (Nat.lt_of_lt_of_le hk hB.size) hn).trans (hB.block k hk)⟩, fun k hk => (h.sub k hk).imp id (fun h' => Nat.le_trans hB.size h'), h.e, h.e', h.ob⟩
theorem Po.lt {w : World} {base : Nat} : ∀ {o : Option St}, Po w base o → ∀ k ∈ oown o, base ≤ k ∧ k < w.heap.size
  | none, _ => fun k h => by cases h
  | some s, h => fun k hk => (List.mem_append.1 hk).elim ((Pr.lt h).1 k) ((Pr.lt h).2 k)
theorem Po.far {w w' : World} {base : Nat} : ∀ {o : Option St}, Po w base o → (∀ k ∈ oown o, w'.heap[k]? = w.heap[k]?) → Po w' base o
  | none, _, _ => trivial
  | some s, h, hk => Pr.far h fun k h' => hk k (List.mem_append.2 h')
theorem Po.below {w w' : World} {base : Nat} {o : Option St} (h : Po w base o) (hB : Below w.heap.size w w') : Po w' base o := h.far fun k hk => hB.block k (h.lt k hk).2
theorem same_turn {w w' : World} (e : Same w' w) (l : List Nat) : Turn w w' l := ⟨e.os, e.tape, e.output, by rw [e.heap]; exact Nat.le_refl _, fun _ _ _ => by rw [e.heap]⟩
variable {w : World} {base : Nat} {o : Option St}
theorem refuse_o (h : Po w base o) (D N : Nat) (hO : Ob o D N) (hN : N < 1000000000) (nm : ByteArray) (t : Int) (hs : nm.size ≤ maxLen) (htw : (Lit.int .i64 t).wf = true) (htm : t ≤ 9223372036854775807) :
    ∃ E : Int, (0 ≤ E ∧ E ≤ 100) ∧ Calls Try.prog 21 #[.pointer (pn o), .string nm, .int .i64 t] w fun e w1 => e = .returned (.int .i64 E) ∧
      Turn w w1 (oown o) ∧ ∀ wx, Same wx w1 → Calls Try.prog 22 #[.pointer (pn' o), .string nm, .int .i64 t] wx fun e w2 => e = .returned (.int .i64 E) ∧ ∃ o', Mv w w2 base o o' D (N + 1) := by
  cases o with
  | none =>
    refine ⟨1, by decide, (refuse_nil nm t w).mono ?_⟩
    rintro e w1 ⟨rfl, rfl⟩
    refine ⟨rfl, Turn.refl _ _, fun wx hx => (rrefuse_nil nm t wx).mono ?_⟩
    rintro e w2 ⟨rfl, rfl⟩
    exact ⟨rfl, none, Mv.nil hx⟩
  | some s =>
    obtain ⟨hS, hb, hn⟩ := hO
    obtain ⟨E, hE, hC⟩ := refuse_pair h D hS nm t hs (by omega) (by omega) htw htm
    exact ⟨E, hE, hC.mono fun e w1 ⟨he, ht, hx⟩ => ⟨he, ht.mono (fun k hk => .inl (List.mem_append.2 (.inl hk))), fun wx hs => (hx wx hs).mono fun e2 w2 ⟨he2, s', hM, hS', _⟩ => ⟨he2, some s', Mv.of hM hS' hb hn⟩⟩⟩
theorem dial_o (h : Po w base o) (D N : Nat) (hO : Ob o D N) (hN : N < 1000000000) (nm : ByteArray) (hs : nm.size ≤ maxLen) :
    ∃ K E : Int, (0 ≤ E ∧ E ≤ 100) ∧ Calls Try.prog 13 #[.pointer (pn o), .string nm] w fun e w1 => e = .returned (.tuple #[.int .i64 K, .int .i64 E]) ∧
      Turn w w1 (oown o) ∧ ∀ wx, Same wx w1 → Calls Try.prog 23 #[.pointer (pn' o), .string nm] wx fun e w2 => e = .returned (.tuple #[.int .i64 K, .int .i64 E]) ∧ ∃ o', Mv w w2 base o o' D (N + 1) := by
  cases o with
  | none =>
    refine ⟨-1, 1, by decide, (dial_nil nm w).mono ?_⟩
    rintro e w1 ⟨rfl, rfl⟩
    refine ⟨rfl, Turn.refl _ _, fun wx hx => (rdial_nil nm wx).mono ?_⟩
    rintro e w2 ⟨rfl, rfl⟩
    exact ⟨rfl, none, Mv.nil hx⟩
  | some s =>
    obtain ⟨hS, hb, hn⟩ := hO
    obtain ⟨K, E, hE, hC⟩ := dial_pair h D hS nm hs (by omega) (by omega)
    exact ⟨K, E, hE, hC.mono fun e w1 ⟨he, ht, hx⟩ => ⟨he, ht.mono (fun k hk => .inl (List.mem_append.2 (.inl hk))), fun wx hs => (hx wx hs).mono fun e2 w2 ⟨he2, s', hM, hS'⟩ => ⟨he2, some s', Mv.of hM hS' hb hn⟩⟩⟩
theorem accept_o (h : Po w base o) (D N : Nat) (hO : Ob o D N) (nm : ByteArray) :
    ∃ (K : Int) (q : Bool), Calls Try.prog 24 #[.pointer (pn o), .string nm] w fun e w1 => e = .returned (.tuple #[.int .i64 K, .bool q]) ∧
      Turn w w1 (oown o) ∧ ∀ wx, Same wx w1 → Calls Try.prog 25 #[.pointer (pn' o), .string nm] wx fun e w2 => e = .returned (.tuple #[.int .i64 K, .bool q]) ∧ ∃ o', Mv w w2 base o o' D (N + 1) := by
  cases o with
  | none =>
    refine ⟨0, false, (accept_nil nm w).mono ?_⟩
    rintro e w1 ⟨rfl, rfl⟩
    refine ⟨rfl, Turn.refl _ _, fun wx hx => (raccept_nil nm wx).mono ?_⟩
    rintro e w2 ⟨rfl, rfl⟩
    exact ⟨rfl, none, Mv.nil hx⟩
  | some s =>
    obtain ⟨hS, hb, hn⟩ := hO
    obtain ⟨K, q, hC⟩ := accept_pair h D hS nm
    exact ⟨K, q, hC.mono fun e w1 ⟨he, ht, hx⟩ => ⟨he, ht.mono (fun k hk => .inl (List.mem_append.2 (.inl hk))), fun wx hs => (hx wx hs).mono fun e2 w2 ⟨he2, s', hM, hS'⟩ => ⟨he2, some s', Mv.of hM hS' hb hn⟩⟩⟩
theorem close_o (h : Po w base o) (D N : Nat) (hO : Ob o D N) (hD : D ≤ 1048576) (conn side : Int) :
    ∃ E : Int, (0 ≤ E ∧ E ≤ 100) ∧ Calls Try.prog 17 #[.pointer (pn o), .int .i64 conn, .int .i64 side] w fun e w1 => e = .returned (.int .i64 E) ∧
      Turn w w1 (oown o) ∧ ∀ wx, Same wx w1 → Calls Try.prog 27 #[.pointer (pn' o), .int .i64 conn, .int .i64 side] wx fun e w2 => e = .returned (.int .i64 E) ∧ ∃ o', Mv w w2 base o o' D (N + 1) := by
  cases o with
  | none =>
    refine ⟨1, by decide, (close_bad none conn side 1 w (writer_bad _ _ _ _ _ w (reach_nil _ _ _ _) (by decide)) (by decide)).mono ?_⟩
    rintro e w1 ⟨rfl, rfl⟩
    refine ⟨rfl, Turn.refl _ _, fun wx hx => (rclose_bad none conn side 1 wx (rwhy_nil _ _ _) (by decide)).mono ?_⟩
    rintro e w2 ⟨rfl, rfl⟩
    exact ⟨rfl, none, Mv.nil hx⟩
  | some s =>
    obtain ⟨hS, hb, hn⟩ := hO
    obtain ⟨E, hE, hC⟩ := close_pair h D hS hD conn side
    exact ⟨E, hE, hC.mono fun e w1 ⟨he, ht, hx⟩ => ⟨he, ht.mono (fun k hk => .inl (List.mem_append.2 (.inl hk))), fun wx hs => (hx wx hs).mono fun e2 w2 ⟨he2, s', hM, hS'⟩ => ⟨he2, some s', Mv.of hM hS' hb hn⟩⟩⟩
theorem cut_o (h : Po w base o) (D N : Nat) (hO : Ob o D N) (conn : Int) :
    ∃ E : Int, (0 ≤ E ∧ E ≤ 100) ∧ Calls Try.prog 18 #[.pointer (pn o), .int .i64 conn] w fun e w1 => e = .returned (.int .i64 E) ∧
      Turn w w1 (oown o) ∧ ∀ wx, Same wx w1 → Calls Try.prog 30 #[.pointer (pn' o), .int .i64 conn] wx fun e w2 => e = .returned (.int .i64 E) ∧ ∃ o', Mv w w2 base o o' D (N + 1) := by
  cases o with
  | none =>
    refine ⟨1, by decide, (cut_bad none conn 1 w (reach_nil _ _ _ _) (by decide)).mono ?_⟩
    rintro e w1 ⟨rfl, rfl⟩
    refine ⟨rfl, Turn.refl _ _, fun wx hx => (rcut_bad none conn 1 wx (rwhy_nil _ _ _) (by decide)).mono ?_⟩
    rintro e w2 ⟨rfl, rfl⟩
    exact ⟨rfl, none, Mv.nil hx⟩
  | some s =>
    obtain ⟨hS, hb, hn⟩ := hO
    obtain ⟨E, hE, hC⟩ := cut_pair h D hS conn
    exact ⟨E, hE, hC.mono fun e w1 ⟨he, ht, hx⟩ => ⟨he, ht.mono (fun k hk => .inl (List.mem_append.2 (.inl hk))), fun wx hs => (hx wx hs).mono fun e2 w2 ⟨he2, s', hM, hS'⟩ => ⟨he2, some s', Mv.of hM hS' hb hn⟩⟩⟩
theorem pass_o (h : Po w base o) (D N : Nat) (hO : Ob o D N) (hD : D ≤ 1048576) (conn side most : Int) :
    ∃ K E : Int, (0 ≤ E ∧ E ≤ 100) ∧ Calls Try.prog 15 #[.pointer (pn o), .int .i64 conn, .int .i64 side, .int .i64 most] w fun e w1 => e = .returned (.tuple #[.int .i64 K, .int .i64 E]) ∧
      Turn w w1 (oown o) ∧ ∀ wx, Same wx w1 → Calls Try.prog 28 #[.pointer (pn' o), .int .i64 conn, .int .i64 side, .int .i64 most] wx fun e w2 => e = .returned (.tuple #[.int .i64 K, .int .i64 E]) ∧ ∃ o', Mv w w2 base o o' D (N + 1) := by
  cases o with
  | none =>
    refine ⟨0, 1, by decide, (pass_bad none conn side most 1 w (reach_nil _ _ _ _) (by decide)).mono ?_⟩
    rintro e w1 ⟨rfl, rfl⟩
    refine ⟨rfl, Turn.refl _ _, fun wx hx => (rpass_nil conn side most 1 wx (rwhy_nil _ _ _) (by decide)).mono ?_⟩
    rintro e w2 ⟨rfl, rfl⟩
    exact ⟨rfl, none, Mv.nil hx⟩
  | some s =>
    obtain ⟨hS, hb, hn⟩ := hO
    obtain ⟨K, E, hE, hC⟩ := pass_pair h D hS hD conn side most
    exact ⟨K, E, hE, hC.mono fun e w1 ⟨he, ht, hx⟩ => ⟨he, ht.mono (fun k hk => .inl (List.mem_append.2 (.inl hk))), fun wx hs => (hx wx hs).mono fun e2 w2 ⟨he2, s', hM, hS'⟩ => ⟨he2, some s', Mv.of hM hS' hb hn⟩⟩⟩
theorem read_o (h : Po w base o) (D N : Nat) (hO : Ob o D N) (hD : D ≤ 1048576) (conn side : Int) :
    ∃ (E : Int) (q : Bool) (zs : List Int), (0 ≤ E ∧ E ≤ 100) ∧ zs.length ≤ D ∧ Calls Try.prog 16 #[.pointer (pn o), .int .i64 conn, .int .i64 side] w fun e w1 => ∃ av cv, e = .returned (.tuple #[.slice av zs.length cv, .bool q, .int .i64 E]) ∧
      Turn w w1 (oown o) ∧ ∀ wx, Same wx w1 → Calls Try.prog 29 #[.pointer (pn' o), .int .i64 conn, .int .i64 side] wx fun e w2 => ∃ av' cv', e = .returned (.tuple #[.slice av' zs.length cv', .bool q, .int .i64 E]) ∧ Has w2 av zs ∧ Has w2 av' zs ∧ ∃ o', Mv w w2 base o o' D (N + 1) := by
  cases o with
  | none =>
    refine ⟨1, false, [], by decide, by simp, (read_bad none conn side 1 w (reach_nil _ _ _ _) (by decide)).mono ?_⟩
    rintro e w1 ⟨rfl, rfl⟩
    refine ⟨none, 0, rfl, Turn.refl _ _, fun wx hx => (rread_bad none conn side 1 wx (rwhy_nil _ _ _) (by decide)).mono ?_⟩
    rintro e w2 ⟨rfl, rfl⟩
    exact ⟨none, 0, rfl, has_nil _ _, has_nil _ _, none, Mv.nil hx⟩
  | some s =>
    obtain ⟨hS, hb, hn⟩ := hO
    obtain ⟨E, q, zs, hE, hz, hC⟩ := read_pair h D hS hD conn side
    exact ⟨E, q, zs, hE, hz, hC.mono fun e w1 ⟨av, cv, he, ht, hx⟩ => ⟨av, cv, he, ht.mono (fun k hk => .inl (List.mem_append.2 (.inl hk))), fun wx hs => (hx wx hs).mono fun e2 w2 ⟨av', cv', he2, hh, hh', s', hM, hS'⟩ => ⟨av', cv', he2, hh, hh', some s', Mv.of hM hS' hb hn⟩⟩⟩
theorem under_o (h : Po w base o) (D N : Nat) (hO : Ob o D N) (hD : D ≤ 1048576) (conn side : Int) :
    ∃ E : Int, Calls Try.prog 9 #[.pointer (pn o), .int .i64 conn, .int .i64 side] w (fun e w1 => w1 = w ∧ e = .returned (.int .i64 E)) ∧
      ∀ wx, Same wx w → Calls Try.prog 10 #[.pointer (pn' o), .int .i64 conn, .int .i64 side] wx fun e w2 => e = .returned (.int .i64 E) ∧ Same w2 w := by
  cases o with
  | none =>
    refine ⟨0, under_bad none conn side 1 w (reach_nil _ _ _ _) (by decide), fun wx hx => (runder_bad none conn side 1 wx (rwhy_nil _ _ _) (by decide)).mono ?_⟩
    rintro e w2 ⟨rfl, rfl⟩
    exact ⟨rfl, hx⟩
  | some s => exact under_pair h D hO.1 hD conn side
theorem write_o {w0 : World} (h : Po w0 base o) (hB : Below w0.heap.size w0 w) (D N : Nat) (hO : Ob o D N) (conn side : Int) (ai : Option Addr) (gc : Nat) (gl : List Nat) (m : Nat) (ps : List Int) (hg : ∀ g ∈ gl, w0.heap.size ≤ g ∧ g < w.heap.size) (hl : ps.length = m) (hbi : ai = none → gc = 0) (hp : Has w ai ps) (ho : Octets ps) (hD : D + m ≤ 1048576) (ao : Option Addr) (cp : Nat) (hb : ao = none → cp = 0) (hp0 : ∀ W, Below base w0 W → Has W ao ps) :
    ∃ E : Int, (0 ≤ E ∧ E ≤ 100) ∧ Calls Try.prog 14 #[.pointer (pn o), .int .i64 conn, .int .i64 side, .slice ai m gc] w fun e w1 => e = .returned (.int .i64 E) ∧ Turn w w1 (oown o) ∧
      ∀ wx, Turn w1 wx gl → Calls Try.prog 26 #[.pointer (pn' o), .int .i64 conn, .int .i64 side, .slice ao m cp] wx fun e w2 => e = .returned (.int .i64 E) ∧ Turn wx w2 (oown o) ∧ ∃ o', Mv w0 w2 base o o' (D + m) (N + 1) := by
  cases o with
  | none =>
    refine ⟨1, by decide, (write_bad none conn side 1 _ m gc w (writer_bad _ _ _ _ _ w (reach_nil _ _ _ _) (by decide)) (by decide)).mono ?_⟩
    rintro e w1 ⟨rfl, rfl⟩
    refine ⟨rfl, Turn.refl _ _, fun wx hx => (rwrite_bad none conn side 1 ao m cp wx (rwhy_nil _ _ _) (by decide)).mono ?_⟩
    rintro e w2 ⟨rfl, rfl⟩
    exact ⟨rfl, Turn.refl _ _, none, ⟨trivial, ⟨hx.os.trans hB.os, hx.tape.trans hB.tape, hx.output.trans hB.output, Nat.le_trans hB.size hx.size, fun k hk _ => (hx.block k (Nat.lt_of_lt_of_le hk hB.size) (fun hm => by have := hg k hm; omega)).trans (hB.block k hk)⟩, fun _ h => .inl h, rfl, rfl, trivial⟩⟩
  | some s =>
    obtain ⟨hS, hb', hn⟩ := hO
    obtain ⟨E, hE, hC⟩ := write_pair h hB D hS conn side ai gc gl m ps hg hl hbi hp ho hD ao cp hb hp0
    exact ⟨E, hE, hC.mono fun e w1 ⟨he, ht, hx⟩ => ⟨he, ht.mono (fun k hk => .inl (List.mem_append.2 (.inl hk))), fun wx hs => (hx wx hs).mono fun e2 w2 ⟨he2, ht2, s', hM, hS'⟩ => ⟨he2, ht2.mono (fun k hk => .inl (List.mem_append.2 (.inr hk))), some s', Mv.of hM hS' hb' hn⟩⟩⟩
end Go.Proofs.Ytcbnmoppnoiggaa
