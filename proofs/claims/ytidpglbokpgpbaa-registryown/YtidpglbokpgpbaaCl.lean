/- Calls in memory; what a call changes. -/
import Derived.Test.YtidpglbokpgpbaaAw
namespace Go.Proofs.Ytidpglbokpgpbaa
open Go.RowKit
set_option linter.unusedVariables false
set_option linter.unusedSimpArgs false
set_option maxRecDepth 100000
/-- a call -/
structure Cl where
  kd : Int
  sv : List Rx
  sa : Option Addr
  sc : Nat
  en : ByteArray
  ok : Bool
  tk : Nat
def Cl.row (c : Cl) : List Value := [.int .i64 c.kd, .slice c.sa c.sv.length c.sc, .string c.en, .bool c.ok, .float .f64 c.tk]
structure Cin (W : World) (c : Cl) : Prop where
  ls : Lr W c.sa c.sv
  le : c.sv.length ≤ 1048576
  se : okS c.en
  k1 : -9223372036854775808 ≤ c.kd ∧ c.kd ≤ 9223372036854775807
  t1 : c.tk < 18446744073709551616
theorem Cin.below {w w' : World} {c : Cl} (h : Cin w c) (hb : Below w.heap.size w w') : Cin w' c := ⟨h.ls.below hb, h.le, h.se, h.k1, h.t1⟩
structure Lc (W : World) (a : Option Addr) (cs : List Cl) : Prop where
  each : ∀ c ∈ cs, Cin W c
  row : Cel W a 5 (cs.map Cl.row)
theorem Lc.below {w w' : World} {a : Option Addr} {cs : List Cl} (h : Lc w a cs) (hb : Below w.heap.size w w') : Lc w' a cs := ⟨fun o ho => (h.each o ho).below hb, h.row.below hb⟩
theorem Lc.at_ {W : World} {a : Option Addr} {cs : List Cl} (h : Lc W a cs) {i : Nat} {c : Cl} (hi : cs[i]? = some c) : ∃ g off, a = some ⟨g, off, none⟩ ∧
    W.cell? ⟨g, off + i * 5, none⟩ = some (.int .i64 c.kd) ∧ W.cell? ⟨g, off + i * 5 + 1, none⟩ = some (.slice c.sa c.sv.length c.sc) ∧ W.cell? ⟨g, off + i * 5 + 2, none⟩ = some (.string c.en) ∧ W.cell? ⟨g, off + i * 5 + 3, none⟩ = some (.bool c.ok) ∧ W.cell? ⟨g, off + i * 5 + 4, none⟩ = some (.float .f64 c.tk) := by
  obtain ⟨g, off, e, hc⟩ := h.row.at_ hi
  exact ⟨g, off, e, by have := hc 0 _ rfl; rwa [Nat.add_zero] at this, hc 1 _ rfl, hc 2 _ rfl, hc 3 _ rfl, hc 4 _ rfl⟩
/-- what a call changes of view and epoch -/
def StepE (r r' : Rg) : Prop := (sayL r.vw = sayL r'.vw ∧ r'.ep = r.ep) ∨ (sayL r.vw ≠ sayL r'.vw ∧ r'.ep = r.ep + 1)
theorem StepE.refl (r : Rg) : StepE r r := .inl ⟨rfl, rfl⟩
theorem SetE.step {L : List Rs} {r r' : Rg} {k : Int} (h : SetE L r r' k) : StepE r r' := by
  rcases h with ⟨_, rfl, _⟩ | ⟨_, _, _, _, _, h5, h6⟩
  · exact .refl _
  · rw [← h5] at h6; exact h6
theorem LookE.step {r r' : Rg} (h : LookE r r') : StepE r r' := by
  obtain ⟨os, a, c, e, rfl, h1, h2⟩ := h
  rw [← h1] at h2; exact h2
theorem ProbE.step {k : ByteArray} {ok : Bool} {t : Nat} {r r' : Rg} {e : Int} (h : ProbE k ok t r r' e) : StepE r r' := by
  rcases h with ⟨_, _, rfl⟩ | ⟨p, _, _, ⟨_, rfl⟩ | ⟨_, h⟩⟩
  · exact .refl _
  · exact .inl ⟨rfl, rfl⟩
  · exact h.step
/-- a call done -/
structure Did (w w' : World) (base b n : Nat) (r r' : Rg) : Prop where
  rr : Rr w' base b n r'
  st : ∃ bs, Stp w w' bs bs ∧ ∀ p ∈ bs, ∃ cs ty fr, w.heap[p]? = some (.cells cs ty fr) ∧ base ≤ p ∧ (ty = 63 ∨ ty = 57)
  se : StepE r r'
theorem Did.refl {w : World} {base b n m : Nat} {r : Rg} (h : Rr w base b n r) (hn : n ≤ m) : Did w w base b m r r := ⟨h.mono hn, ⟨[], Stp.refl _ _, fun p hp => by cases hp⟩, .refl r⟩
theorem Did.below {w w' : World} {base b n : Nat} {r r' : Rg} (h : Did w w' base b n r r') (hb : base ≤ w.heap.size) : Below base w w' := by
  obtain ⟨bs, g, hbs⟩ := h.st
  exact g.below (fun k hk => by obtain ⟨_, _, _, _, h, _⟩ := hbs k hk; exact h) hb
theorem Did.ov {w w' : World} {base b n : Nat} {r r' : Rg} (h : Did w w' base b n r r') {B : Nat} {v : Value} {os : List Hx} (ho : Ov w B 47 v os) : Ov w' B 47 v os := by
  obtain ⟨bs, g, hbs⟩ := h.st
  exact ho.stp g (fun k hk => by
    obtain ⟨cs, ty, fr, e, _, ht⟩ := hbs k hk
    refine ⟨cs, ty, fr, e, ?_, ?_⟩ <;> (rcases ht with rfl | rfl <;> decide))
theorem Did.drew {w w' : World} {base b n : Nat} {r r' : Rg} {q : Nat} (h : Did (w.drewN q) w' base b n r r') : Did w w' base b n r r' := by
  obtain ⟨bs, g, hbs⟩ := h.st
  exact ⟨h.rr, ⟨bs, (Stp.drew q bs).trans g, hbs⟩, h.se⟩
theorem setD (w : World) (base b n : Nat) (r : Rg) (h : Rr w base b n r) (hn : n ≤ 800000) (c : Cl) (hc : Cin w c) :
    Calls Try.prog 10 #[.pointer (some ⟨b, 0, none⟩), .slice c.sa c.sv.length c.sc] w fun e w' => ∃ k, e = .returned (.int .i64 k) ∧ ∃ r', Did w w' base b (n + 2) r r' := by
  refine (set_any w base b n r h (by omega) c.sa c.sv.length c.sc _ (list_any w c.sa c.sv.length c.sc c.sv rfl hc.ls hc.le)).mono ?_
  rintro e w' ⟨k, rfl, r', h1, h2, h3⟩
  exact ⟨k, rfl, r', h2.mono (by omega), ⟨[b], h3, fun p hp => by simp at hp; subst hp; exact ⟨_, _, _, h.blk, h.lo, .inl rfl⟩⟩, h1.step⟩
theorem probeD (w : World) (base b n : Nat) (r : Rg) (h : Rr w base b n r) (hn : n ≤ 800000) (c : Cl) (hc : Cin w c) :
    Calls Try.prog 11 #[.pointer (some ⟨b, 0, none⟩), .string c.en, .bool c.ok, .float .f64 c.tk] w fun e w' => ∃ k, e = .returned (.int .i64 k) ∧ ∃ r', Did w w' base b (n + 2) r r' := by
  refine (probeR_any w base b n r h (by omega) c.en hc.se c.ok c.tk hc.t1).mono ?_
  rintro e w' ⟨k, rfl, r', h1, h2, h3⟩
  exact ⟨k, rfl, r', h2, h3, h1.step⟩
end Go.Proofs.Ytidpglbokpgpbaa
