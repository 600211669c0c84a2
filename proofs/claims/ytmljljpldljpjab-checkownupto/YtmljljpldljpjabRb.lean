/-
  Resources in memory; worlds that have only grown.
-/
import Derived.Test.YtmljljpldljpjabBase
import Derived.Shelf.GgSortFunc.Insertion
namespace Go.Proofs.Ytmljljpldljpjab
open Go.RowKit
set_option linter.unusedVariables false
set_option linter.unusedSimpArgs false
set_option maxRecDepth 100000
theorem hideL {p : Prop} (h : p) : Hid p := h
/-- a world that has drawn, and laid blocks, and nothing else -/
def Gr (w w' : World) : Prop := ∃ q os, w' = Go.Sort.grow (w.drewN q) os
theorem grow_drewN (w : World) (os : Array Obj) (q : Nat) : (Go.Sort.grow w os).drewN q = Go.Sort.grow (w.drewN q) os := rfl
theorem Gr.refl (w : World) : Gr w w := ⟨0, #[], by rw [Go.Sort.grow_empty]; rfl⟩
theorem Gr.trans {a b c : World} (h : Gr a b) (g : Gr b c) : Gr a c := by
  obtain ⟨q, os, rfl⟩ := h
  obtain ⟨r, ps, rfl⟩ := g
  exact ⟨q + r, os ++ ps, by rw [grow_drewN, drew_two, Go.Sort.grow_grow]⟩
theorem Gr.alloc (w : World) (o : Obj) : Gr w (w.alloc o) := ⟨0, #[o], by rw [Go.Sort.alloc_eq_grow]; rfl⟩
theorem Gr.drewN (w : World) (q : Nat) : Gr w (w.drewN q) := ⟨q, #[], by rw [Go.Sort.grow_empty]⟩
theorem Gr.below {w w' : World} (h : Gr w w') : Below w.heap.size w w' := by
  obtain ⟨q, os, rfl⟩ := h
  refine ⟨rfl, rfl, rfl, ?_, fun k hk => ?_⟩
  · rw [Go.Sort.size_grow]; exact Nat.le_add_right _ _
  · show (w.heap ++ os)[k]? = _
    rw [Array.getElem?_append_left hk]
/-- a target -/
structure Tg where
  sv : ByteArray
  sp : ByteArray
  wt : Nat
def Tg.row (t : Tg) : List Value := [.string t.sv, .string t.sp, .float .f64 t.wt]
/-- a rule -/
structure Ru where
  pa : ByteArray
  me : ByteArray
  sp : ByteArray
  al : Bool
def Ru.row (r : Ru) : List Value := [.string r.pa, .string r.me, .string r.sp, .bool r.al]
def strR (s : ByteArray) : List Value := [.string s]
/-- what a resource says -/
structure Rs where
  kd : Int
  nm : ByteArray
  eps : List ByteArray
  tgs : List Tg
  host : ByteArray
  rus : List Ru
  route : ByteArray
  del : Bool
/-- a resource in memory: what it says, and where its lists lie -/
structure Rx extends Rs where
  ea : Option Addr
  ec : Nat
  ta : Option Addr
  tc : Nat
  ra : Option Addr
  rc : Nat
def Rx.row (o : Rx) : List Value := [.int .i64 o.kd, .string o.nm, .slice o.ea o.eps.length o.ec, .slice o.ta o.tgs.length o.tc, .string o.host, .slice o.ra o.rus.length o.rc, .string o.route, .bool o.del]
/-- things of k cells, one behind the other -/
def Cel (w : World) (a : Option Addr) (k : Nat) (rows : List (List Value)) : Prop := rows = [] ∨ ∃ g off, a = some ⟨g, off, none⟩ ∧ ∀ (i : Nat) (r : List Value), rows[i]? = some r → ∀ (j : Nat) (u : Value), r[j]? = some u → w.cell? ⟨g, off + i * k + j, none⟩ = some u
theorem Cel.below {w w' : World} {a : Option Addr} {k : Nat} {rows : List (List Value)} (h : Cel w a k rows) (hb : Below w.heap.size w w') : Cel w' a k rows := by
  rcases h with h | ⟨g, off, h1, h2⟩
  · exact .inl h
  · exact .inr ⟨g, off, h1, fun i r hi j u hu => cell_of_below hb (h2 i r hi j u hu)⟩
theorem Cel.at_ {w : World} {a : Option Addr} {k : Nat} {α : Type} {f : α → List Value} {l : List α} (h : Cel w a k (l.map f)) {i : Nat} {x : α} (hi : l[i]? = some x) : ∃ g off, a = some ⟨g, off, none⟩ ∧ ∀ (j : Nat) (u : Value), (f x)[j]? = some u → w.cell? ⟨g, off + i * k + j, none⟩ = some u := by
  rcases h with h | ⟨g, off, h1, h2⟩
  · simp at h; subst h; simp at hi
  · exact ⟨g, off, h1, fun j u hu => h2 i (f x) (by simp [hi]) j u hu⟩
/-- a text, a number that may be -/
def okS (s : ByteArray) : Prop := s.size ≤ 1048576
/-- what holds of a resource in memory -/
structure Rin (W : World) (o : Rx) : Prop where
  es : Cel W o.ea 1 (o.eps.map strR)
  ts : Cel W o.ta 3 (o.tgs.map Tg.row)
  rs : Cel W o.ra 4 (o.rus.map Ru.row)
  k1 : -9223372036854775808 ≤ o.kd ∧ o.kd ≤ 9223372036854775807
  n1 : okS o.nm
  n2 : okS o.host
  n3 : okS o.route
  se : ∀ s ∈ o.eps, okS s
  st : ∀ t ∈ o.tgs, okS t.sv ∧ okS t.sp ∧ t.wt < 18446744073709551616
  sr : ∀ r ∈ o.rus, okS r.pa ∧ okS r.me ∧ okS r.sp
  le : o.eps.length ≤ 1048576
  lt : o.tgs.length ≤ 1048576
  lr : o.rus.length ≤ 1048576
theorem Rin.below {w w' : World} {o : Rx} (h : Rin w o) (hb : Below w.heap.size w w') : Rin w' o :=
  ⟨h.es.below hb, h.ts.below hb, h.rs.below hb, h.k1, h.n1, h.n2, h.n3, h.se, h.st, h.sr, h.le, h.lt, h.lr⟩
/-- a list of resources in memory -/
structure Lr (W : World) (a : Option Addr) (os : List Rx) : Prop where
  each : ∀ o ∈ os, Rin W o
  row : Cel W a 8 (os.map Rx.row)
theorem Lr.below {w w' : World} {a : Option Addr} {os : List Rx} (h : Lr w a os) (hb : Below w.heap.size w w') : Lr w' a os := ⟨fun o ho => (h.each o ho).below hb, h.row.below hb⟩
theorem Cel.cells {w : World} {a : Option Addr} {os : List Rx} (h : Cel w a 8 (os.map Rx.row)) {i : Nat} {o : Rx} (hi : os[i]? = some o) : ∃ g off, a = some ⟨g, off, none⟩ ∧
    w.cell? ⟨g, off + i * 8, none⟩ = some (.int .i64 o.kd) ∧ w.cell? ⟨g, off + i * 8 + 1, none⟩ = some (.string o.nm) ∧ w.cell? ⟨g, off + i * 8 + 2, none⟩ = some (.slice o.ea o.eps.length o.ec) ∧ w.cell? ⟨g, off + i * 8 + 3, none⟩ = some (.slice o.ta o.tgs.length o.tc) ∧
    w.cell? ⟨g, off + i * 8 + 4, none⟩ = some (.string o.host) ∧ w.cell? ⟨g, off + i * 8 + 5, none⟩ = some (.slice o.ra o.rus.length o.rc) ∧ w.cell? ⟨g, off + i * 8 + 6, none⟩ = some (.string o.route) ∧ w.cell? ⟨g, off + i * 8 + 7, none⟩ = some (.bool o.del) := by
  obtain ⟨g, off, e, hc⟩ := h.at_ hi
  exact ⟨g, off, e, by have := hc 0 _ rfl; rwa [Nat.add_zero] at this, hc 1 _ rfl, hc 2 _ rfl, hc 3 _ rfl, hc 4 _ rfl, hc 5 _ rfl, hc 6 _ rfl, hc 7 _ rfl⟩
/-- a resource's value -/
def Rx.val (o : Rx) : Value := .agg #[.int .i64 o.kd, .string o.nm, .slice o.ea o.eps.length o.ec, .slice o.ta o.tgs.length o.tc, .string o.host, .slice o.ra o.rus.length o.rc, .string o.route, .bool o.del]
/-- a key's value -/
def keyV (k : Int × ByteArray) : Value := .agg #[.int .i64 k.1, .string k.2]
def Rs.key (o : Rs) : Int × ByteArray := (o.kd, o.nm)
set_option maxHeartbeats 4000000 in
/-- keyOf -/
theorem keyOf_any (w : World) (o : Rx) : Calls Try.prog 19 #[o.val] w fun e w' => e = .returned (keyV o.key) ∧ Gr w w' := by
  obtain ⟨⟨kd, nm, eps, tgs, host, rus, route, del⟩, ea, ec, ta, tc, ra, rc⟩ := o
  unfold Rx.val keyV Rs.key
  dsimp only
  generalize eps.length = n1
  generalize tgs.length = n2
  generalize rus.length = n3
  go_enter Try.func19, Try.ntmps19
  go_wp2
  exact bodyPost_ret (v := _) (by simp [results, Try.results19, go_sem]) rfl ⟨rfl, (Gr.alloc _ _).trans (Gr.alloc _ _)⟩
end Go.Proofs.Ytmljljpldljpjab
