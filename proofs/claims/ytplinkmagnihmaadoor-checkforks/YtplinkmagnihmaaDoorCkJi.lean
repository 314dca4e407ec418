/-
  Rows of marks as arguments. The law's cut; a row of bytes as an argument; a MAC of which one byte is changed. Rows of records and heads as arguments; what the tables of package sha hold at the start. The law's few: the first records, as long as they are short. What hold does with one mark: stepA, at every way.
-/
import Derived.Test.YtplinkmagnihmaaDoorCkJd
import Derived.Test.YtplinkmagnihmaaDoorCkHa
import Derived.Test.YtplinkmagnihmaaDoorCkHb
import Derived.Test.YtplinkmagnihmaaDoorCkHc
import Derived.Test.YtplinkmagnihmaaDoorCkHd
import Derived.Test.YtplinkmagnihmaaDoorCkHe
import Derived.Test.YtplinkmagnihmaaDoorCkJf
import Derived.Test.YtplinkmagnihmaaDoorCkJc
import Derived.Test.YtplinkmagnihmaaDoorTie
import Derived.Test.YtplinkmagnihmaaDoorCards
import Derived.LaidMore
import Derived.Lib.LaidTab
import Derived.Stop.Joined
import Derived.Test.YtplinkmagnihmaaDoorCkJe
import Derived.Test.YtplinkmagnihmaaDoorCkJa
namespace Go.Proofs.YtplinkmagnihmaaDoor
open Go.ChangeShapes Go.WideShapes Go.ChangeAt Go.RowKit Go.Deep Go.Lib
def stp(s k r b:Bool)(i j:Int)(f:Int×Int×Int):Int×Int×Int:=
 if (f.1=6∨f.1=5∨f.1=4∨f.1=3)∧s=false then (2,i,0)
 else if (f.1=6∨f.1=5∨f.1=4)∧k=true then (3,j,i)
 else if (f.1=6∨f.1=5)∧r=true∧b=false then (4,i,0)
 else if f.1=6∧r=false then (5,i,0) else f
theorem stepA_eq(key:List Nat)(hs:List Hd)(ms:List Mrk)(i:Nat)(f:Int×Int×Int):stepA key hs ms i f=stp (sealedB key (ms.getD i mkZ)) (!decide ((ms.getD (fst1 ms i) mkZ).2.1=(ms.getD i mkZ).2.1)) (decide ((ms.getD i mkZ).2.1.1<(hs.length:Int))) (hasB hs (ms.getD i mkZ).2.1) (i:Int) (fst1 ms i:Int) f:=by
 unfold stepA stp forkB
 simp only[decide_eq_true_eq,decide_eq_false_iff_not]
theorem audF_kind(key:List Nat)(hs:List Hd)(ms:List Mrk):∀i,(audF key hs ms i).1=6∨(audF key hs ms i).1=5∨(audF key hs ms i).1=4∨(audF key hs ms i).1=3∨(audF key hs ms i).1=2
 | 0=> .inl rfl
 | i+1=>by
   have ih:=audF_kind key hs ms i
   rw[audF,stepA_eq]
   unfold stp
   split
   ·simp
   ·split
    ·simp
    ·split
     ·simp
     ·split
      ·simp
      ·exact ih
theorem hold_word(W0 w:World)(A mp nn:Nat)(ka:Option Addr)(kc:Nat)(key:List Nat)(ha:Option Addr)(hc:Nat)(hs:List Hd)(ma:Option Addr)(mc:Nat)(ms:List Mrk)(i:Nat)(D:DataW Value)(f:Int×Int×Int)
 (hk:f.1=6∨f.1=5∨f.1=4∨f.1=3∨f.1=2) (h:Hc W0 w A mp nn ka kc key ha hc hs ma mc ms i D f) :
 Calls Tryd.prog 32 #[.pointer (some ⟨A,0,none⟩),.int .i64 (i:Int)] w (HoP W0 A mp (.slice ka key.length kc) (.slice ha hs.length hc) (.slice ma ms.length mc) ms i (stepA key hs ms i f)):=by
 obtain⟨F,fI,fK⟩:=f
 rw[stepA_eq]
 cases hR:decide ((ms.getD i mkZ).2.1.1<(hs.length:Int))<;>cases hH:hasB hs (ms.getD i mkZ).2.1<;>cases hF:decide ((ms.getD (fst1 ms i) mkZ).2.1=(ms.getD i mkZ).2.1)<;>cases hS:sealedB key (ms.getD i mkZ)
 ·rcases hk with rfl | rfl | rfl | rfl | rfl
  ·rw[show stp false (!false) false false (i:Int) (fst1 ms i:Int) (6,fI,fK)=(2,(i:Int),0) from by simp[stp]];exact hold_6ftf W0 w A mp nn ka kc key ha hc hs ma mc ms i D fI fK h hR hF hS
  ·rw[show stp false (!false) false false (i:Int) (fst1 ms i:Int) (5,fI,fK)=(2,(i:Int),0) from by simp[stp]];exact hold_5ftf W0 w A mp nn ka kc key ha hc hs ma mc ms i D fI fK h hR hF hS
  ·rw[show stp false (!false) false false (i:Int) (fst1 ms i:Int) (4,fI,fK)=(2,(i:Int),0) from by simp[stp]];exact hold_4tf W0 w A mp nn ka kc key ha hc hs ma mc ms i D fI fK h hF hS
  ·rw[show stp false (!false) false false (i:Int) (fst1 ms i:Int) (3,fI,fK)=(2,(i:Int),0) from by simp[stp]];exact hold_3f W0 w A mp nn ka kc key ha hc hs ma mc ms i D fI fK h hS
  ·rw[show stp false (!false) false false (i:Int) (fst1 ms i:Int) (2,fI,fK)=(2,fI,fK) from by simp[stp]];exact hold_2 W0 w A mp nn ka kc key ha hc hs ma mc ms i D fI fK h
 ·rcases hk with rfl | rfl | rfl | rfl | rfl
  ·rw[show stp true (!false) false false (i:Int) (fst1 ms i:Int) (6,fI,fK)=(3,(fst1 ms i:Int),(i:Int)) from by simp[stp]];exact hold_6ftt W0 w A mp nn ka kc key ha hc hs ma mc ms i D fI fK h hR hF hS
  ·rw[show stp true (!false) false false (i:Int) (fst1 ms i:Int) (5,fI,fK)=(3,(fst1 ms i:Int),(i:Int)) from by simp[stp]];exact hold_5ftt W0 w A mp nn ka kc key ha hc hs ma mc ms i D fI fK h hR hF hS
  ·rw[show stp true (!false) false false (i:Int) (fst1 ms i:Int) (4,fI,fK)=(3,(fst1 ms i:Int),(i:Int)) from by simp[stp]];exact hold_4tt W0 w A mp nn ka kc key ha hc hs ma mc ms i D fI fK h hF hS
  ·rw[show stp true (!false) false false (i:Int) (fst1 ms i:Int) (3,fI,fK)=(3,fI,fK) from by simp[stp]];exact hold_3t W0 w A mp nn ka kc key ha hc hs ma mc ms i D fI fK h hS
  ·rw[show stp true (!false) false false (i:Int) (fst1 ms i:Int) (2,fI,fK)=(2,fI,fK) from by simp[stp]];exact hold_2 W0 w A mp nn ka kc key ha hc hs ma mc ms i D fI fK h
 ·rcases hk with rfl | rfl | rfl | rfl | rfl
  ·rw[show stp false (!true) false false (i:Int) (fst1 ms i:Int) (6,fI,fK)=(2,(i:Int),0) from by simp[stp]];exact hold_6fff W0 w A mp nn ka kc key ha hc hs ma mc ms i D fI fK h hR hF hS
  ·rw[show stp false (!true) false false (i:Int) (fst1 ms i:Int) (5,fI,fK)=(2,(i:Int),0) from by simp[stp]];exact hold_5fff W0 w A mp nn ka kc key ha hc hs ma mc ms i D fI fK h hR hF hS
  ·rw[show stp false (!true) false false (i:Int) (fst1 ms i:Int) (4,fI,fK)=(2,(i:Int),0) from by simp[stp]];exact hold_4ff W0 w A mp nn ka kc key ha hc hs ma mc ms i D fI fK h hF hS
  ·rw[show stp false (!true) false false (i:Int) (fst1 ms i:Int) (3,fI,fK)=(2,(i:Int),0) from by simp[stp]];exact hold_3f W0 w A mp nn ka kc key ha hc hs ma mc ms i D fI fK h hS
  ·rw[show stp false (!true) false false (i:Int) (fst1 ms i:Int) (2,fI,fK)=(2,fI,fK) from by simp[stp]];exact hold_2 W0 w A mp nn ka kc key ha hc hs ma mc ms i D fI fK h
 ·rcases hk with rfl | rfl | rfl | rfl | rfl
  ·rw[show stp true (!true) false false (i:Int) (fst1 ms i:Int) (6,fI,fK)=(5,(i:Int),0) from by simp[stp]];exact hold_6fft W0 w A mp nn ka kc key ha hc hs ma mc ms i D fI fK h hR hF hS
  ·rw[show stp true (!true) false false (i:Int) (fst1 ms i:Int) (5,fI,fK)=(5,fI,fK) from by simp[stp]];exact hold_5fft W0 w A mp nn ka kc key ha hc hs ma mc ms i D fI fK h hR hF hS
  ·rw[show stp true (!true) false false (i:Int) (fst1 ms i:Int) (4,fI,fK)=(4,fI,fK) from by simp[stp]];exact hold_4ft W0 w A mp nn ka kc key ha hc hs ma mc ms i D fI fK h hF hS
  ·rw[show stp true (!true) false false (i:Int) (fst1 ms i:Int) (3,fI,fK)=(3,fI,fK) from by simp[stp]];exact hold_3t W0 w A mp nn ka kc key ha hc hs ma mc ms i D fI fK h hS
  ·rw[show stp true (!true) false false (i:Int) (fst1 ms i:Int) (2,fI,fK)=(2,fI,fK) from by simp[stp]];exact hold_2 W0 w A mp nn ka kc key ha hc hs ma mc ms i D fI fK h
 ·rcases hk with rfl | rfl | rfl | rfl | rfl
  ·rw[show stp false (!false) false true (i:Int) (fst1 ms i:Int) (6,fI,fK)=(2,(i:Int),0) from by simp[stp]];exact hold_6ftf W0 w A mp nn ka kc key ha hc hs ma mc ms i D fI fK h hR hF hS
  ·rw[show stp false (!false) false true (i:Int) (fst1 ms i:Int) (5,fI,fK)=(2,(i:Int),0) from by simp[stp]];exact hold_5ftf W0 w A mp nn ka kc key ha hc hs ma mc ms i D fI fK h hR hF hS
  ·rw[show stp false (!false) false true (i:Int) (fst1 ms i:Int) (4,fI,fK)=(2,(i:Int),0) from by simp[stp]];exact hold_4tf W0 w A mp nn ka kc key ha hc hs ma mc ms i D fI fK h hF hS
  ·rw[show stp false (!false) false true (i:Int) (fst1 ms i:Int) (3,fI,fK)=(2,(i:Int),0) from by simp[stp]];exact hold_3f W0 w A mp nn ka kc key ha hc hs ma mc ms i D fI fK h hS
  ·rw[show stp false (!false) false true (i:Int) (fst1 ms i:Int) (2,fI,fK)=(2,fI,fK) from by simp[stp]];exact hold_2 W0 w A mp nn ka kc key ha hc hs ma mc ms i D fI fK h
 ·rcases hk with rfl | rfl | rfl | rfl | rfl
  ·rw[show stp true (!false) false true (i:Int) (fst1 ms i:Int) (6,fI,fK)=(3,(fst1 ms i:Int),(i:Int)) from by simp[stp]];exact hold_6ftt W0 w A mp nn ka kc key ha hc hs ma mc ms i D fI fK h hR hF hS
  ·rw[show stp true (!false) false true (i:Int) (fst1 ms i:Int) (5,fI,fK)=(3,(fst1 ms i:Int),(i:Int)) from by simp[stp]];exact hold_5ftt W0 w A mp nn ka kc key ha hc hs ma mc ms i D fI fK h hR hF hS
  ·rw[show stp true (!false) false true (i:Int) (fst1 ms i:Int) (4,fI,fK)=(3,(fst1 ms i:Int),(i:Int)) from by simp[stp]];exact hold_4tt W0 w A mp nn ka kc key ha hc hs ma mc ms i D fI fK h hF hS
  ·rw[show stp true (!false) false true (i:Int) (fst1 ms i:Int) (3,fI,fK)=(3,fI,fK) from by simp[stp]];exact hold_3t W0 w A mp nn ka kc key ha hc hs ma mc ms i D fI fK h hS
  ·rw[show stp true (!false) false true (i:Int) (fst1 ms i:Int) (2,fI,fK)=(2,fI,fK) from by simp[stp]];exact hold_2 W0 w A mp nn ka kc key ha hc hs ma mc ms i D fI fK h
 ·rcases hk with rfl | rfl | rfl | rfl | rfl
  ·rw[show stp false (!true) false true (i:Int) (fst1 ms i:Int) (6,fI,fK)=(2,(i:Int),0) from by simp[stp]];exact hold_6fff W0 w A mp nn ka kc key ha hc hs ma mc ms i D fI fK h hR hF hS
  ·rw[show stp false (!true) false true (i:Int) (fst1 ms i:Int) (5,fI,fK)=(2,(i:Int),0) from by simp[stp]];exact hold_5fff W0 w A mp nn ka kc key ha hc hs ma mc ms i D fI fK h hR hF hS
  ·rw[show stp false (!true) false true (i:Int) (fst1 ms i:Int) (4,fI,fK)=(2,(i:Int),0) from by simp[stp]];exact hold_4ff W0 w A mp nn ka kc key ha hc hs ma mc ms i D fI fK h hF hS
  ·rw[show stp false (!true) false true (i:Int) (fst1 ms i:Int) (3,fI,fK)=(2,(i:Int),0) from by simp[stp]];exact hold_3f W0 w A mp nn ka kc key ha hc hs ma mc ms i D fI fK h hS
  ·rw[show stp false (!true) false true (i:Int) (fst1 ms i:Int) (2,fI,fK)=(2,fI,fK) from by simp[stp]];exact hold_2 W0 w A mp nn ka kc key ha hc hs ma mc ms i D fI fK h
 ·rcases hk with rfl | rfl | rfl | rfl | rfl
  ·rw[show stp true (!true) false true (i:Int) (fst1 ms i:Int) (6,fI,fK)=(5,(i:Int),0) from by simp[stp]];exact hold_6fft W0 w A mp nn ka kc key ha hc hs ma mc ms i D fI fK h hR hF hS
  ·rw[show stp true (!true) false true (i:Int) (fst1 ms i:Int) (5,fI,fK)=(5,fI,fK) from by simp[stp]];exact hold_5fft W0 w A mp nn ka kc key ha hc hs ma mc ms i D fI fK h hR hF hS
  ·rw[show stp true (!true) false true (i:Int) (fst1 ms i:Int) (4,fI,fK)=(4,fI,fK) from by simp[stp]];exact hold_4ft W0 w A mp nn ka kc key ha hc hs ma mc ms i D fI fK h hF hS
  ·rw[show stp true (!true) false true (i:Int) (fst1 ms i:Int) (3,fI,fK)=(3,fI,fK) from by simp[stp]];exact hold_3t W0 w A mp nn ka kc key ha hc hs ma mc ms i D fI fK h hS
  ·rw[show stp true (!true) false true (i:Int) (fst1 ms i:Int) (2,fI,fK)=(2,fI,fK) from by simp[stp]];exact hold_2 W0 w A mp nn ka kc key ha hc hs ma mc ms i D fI fK h
 ·rcases hk with rfl | rfl | rfl | rfl | rfl
  ·rw[show stp false (!false) true false (i:Int) (fst1 ms i:Int) (6,fI,fK)=(2,(i:Int),0) from by simp[stp]];exact hold_6tftf W0 w A mp nn ka kc key ha hc hs ma mc ms i D fI fK h hR hH hF hS
  ·rw[show stp false (!false) true false (i:Int) (fst1 ms i:Int) (5,fI,fK)=(2,(i:Int),0) from by simp[stp]];exact hold_5tftf W0 w A mp nn ka kc key ha hc hs ma mc ms i D fI fK h hR hH hF hS
  ·rw[show stp false (!false) true false (i:Int) (fst1 ms i:Int) (4,fI,fK)=(2,(i:Int),0) from by simp[stp]];exact hold_4tf W0 w A mp nn ka kc key ha hc hs ma mc ms i D fI fK h hF hS
  ·rw[show stp false (!false) true false (i:Int) (fst1 ms i:Int) (3,fI,fK)=(2,(i:Int),0) from by simp[stp]];exact hold_3f W0 w A mp nn ka kc key ha hc hs ma mc ms i D fI fK h hS
  ·rw[show stp false (!false) true false (i:Int) (fst1 ms i:Int) (2,fI,fK)=(2,fI,fK) from by simp[stp]];exact hold_2 W0 w A mp nn ka kc key ha hc hs ma mc ms i D fI fK h
 ·rcases hk with rfl | rfl | rfl | rfl | rfl
  ·rw[show stp true (!false) true false (i:Int) (fst1 ms i:Int) (6,fI,fK)=(3,(fst1 ms i:Int),(i:Int)) from by simp[stp]];exact hold_6tftt W0 w A mp nn ka kc key ha hc hs ma mc ms i D fI fK h hR hH hF hS
  ·rw[show stp true (!false) true false (i:Int) (fst1 ms i:Int) (5,fI,fK)=(3,(fst1 ms i:Int),(i:Int)) from by simp[stp]];exact hold_5tftt W0 w A mp nn ka kc key ha hc hs ma mc ms i D fI fK h hR hH hF hS
  ·rw[show stp true (!false) true false (i:Int) (fst1 ms i:Int) (4,fI,fK)=(3,(fst1 ms i:Int),(i:Int)) from by simp[stp]];exact hold_4tt W0 w A mp nn ka kc key ha hc hs ma mc ms i D fI fK h hF hS
  ·rw[show stp true (!false) true false (i:Int) (fst1 ms i:Int) (3,fI,fK)=(3,fI,fK) from by simp[stp]];exact hold_3t W0 w A mp nn ka kc key ha hc hs ma mc ms i D fI fK h hS
  ·rw[show stp true (!false) true false (i:Int) (fst1 ms i:Int) (2,fI,fK)=(2,fI,fK) from by simp[stp]];exact hold_2 W0 w A mp nn ka kc key ha hc hs ma mc ms i D fI fK h
 ·rcases hk with rfl | rfl | rfl | rfl | rfl
  ·rw[show stp false (!true) true false (i:Int) (fst1 ms i:Int) (6,fI,fK)=(2,(i:Int),0) from by simp[stp]];exact hold_6tfff W0 w A mp nn ka kc key ha hc hs ma mc ms i D fI fK h hR hH hF hS
  ·rw[show stp false (!true) true false (i:Int) (fst1 ms i:Int) (5,fI,fK)=(2,(i:Int),0) from by simp[stp]];exact hold_5tfff W0 w A mp nn ka kc key ha hc hs ma mc ms i D fI fK h hR hH hF hS
  ·rw[show stp false (!true) true false (i:Int) (fst1 ms i:Int) (4,fI,fK)=(2,(i:Int),0) from by simp[stp]];exact hold_4ff W0 w A mp nn ka kc key ha hc hs ma mc ms i D fI fK h hF hS
  ·rw[show stp false (!true) true false (i:Int) (fst1 ms i:Int) (3,fI,fK)=(2,(i:Int),0) from by simp[stp]];exact hold_3f W0 w A mp nn ka kc key ha hc hs ma mc ms i D fI fK h hS
  ·rw[show stp false (!true) true false (i:Int) (fst1 ms i:Int) (2,fI,fK)=(2,fI,fK) from by simp[stp]];exact hold_2 W0 w A mp nn ka kc key ha hc hs ma mc ms i D fI fK h
 ·rcases hk with rfl | rfl | rfl | rfl | rfl
  ·rw[show stp true (!true) true false (i:Int) (fst1 ms i:Int) (6,fI,fK)=(4,(i:Int),0) from by simp[stp]];exact hold_6tfft W0 w A mp nn ka kc key ha hc hs ma mc ms i D fI fK h hR hH hF hS
  ·rw[show stp true (!true) true false (i:Int) (fst1 ms i:Int) (5,fI,fK)=(4,(i:Int),0) from by simp[stp]];exact hold_5tfft W0 w A mp nn ka kc key ha hc hs ma mc ms i D fI fK h hR hH hF hS
  ·rw[show stp true (!true) true false (i:Int) (fst1 ms i:Int) (4,fI,fK)=(4,fI,fK) from by simp[stp]];exact hold_4ft W0 w A mp nn ka kc key ha hc hs ma mc ms i D fI fK h hF hS
  ·rw[show stp true (!true) true false (i:Int) (fst1 ms i:Int) (3,fI,fK)=(3,fI,fK) from by simp[stp]];exact hold_3t W0 w A mp nn ka kc key ha hc hs ma mc ms i D fI fK h hS
  ·rw[show stp true (!true) true false (i:Int) (fst1 ms i:Int) (2,fI,fK)=(2,fI,fK) from by simp[stp]];exact hold_2 W0 w A mp nn ka kc key ha hc hs ma mc ms i D fI fK h
 ·rcases hk with rfl | rfl | rfl | rfl | rfl
  ·rw[show stp false (!false) true true (i:Int) (fst1 ms i:Int) (6,fI,fK)=(2,(i:Int),0) from by simp[stp]];exact hold_6tttf W0 w A mp nn ka kc key ha hc hs ma mc ms i D fI fK h hR hH hF hS
  ·rw[show stp false (!false) true true (i:Int) (fst1 ms i:Int) (5,fI,fK)=(2,(i:Int),0) from by simp[stp]];exact hold_5tttf W0 w A mp nn ka kc key ha hc hs ma mc ms i D fI fK h hR hH hF hS
  ·rw[show stp false (!false) true true (i:Int) (fst1 ms i:Int) (4,fI,fK)=(2,(i:Int),0) from by simp[stp]];exact hold_4tf W0 w A mp nn ka kc key ha hc hs ma mc ms i D fI fK h hF hS
  ·rw[show stp false (!false) true true (i:Int) (fst1 ms i:Int) (3,fI,fK)=(2,(i:Int),0) from by simp[stp]];exact hold_3f W0 w A mp nn ka kc key ha hc hs ma mc ms i D fI fK h hS
  ·rw[show stp false (!false) true true (i:Int) (fst1 ms i:Int) (2,fI,fK)=(2,fI,fK) from by simp[stp]];exact hold_2 W0 w A mp nn ka kc key ha hc hs ma mc ms i D fI fK h
 ·rcases hk with rfl | rfl | rfl | rfl | rfl
  ·rw[show stp true (!false) true true (i:Int) (fst1 ms i:Int) (6,fI,fK)=(3,(fst1 ms i:Int),(i:Int)) from by simp[stp]];exact hold_6tttt W0 w A mp nn ka kc key ha hc hs ma mc ms i D fI fK h hR hH hF hS
  ·rw[show stp true (!false) true true (i:Int) (fst1 ms i:Int) (5,fI,fK)=(3,(fst1 ms i:Int),(i:Int)) from by simp[stp]];exact hold_5tttt W0 w A mp nn ka kc key ha hc hs ma mc ms i D fI fK h hR hH hF hS
  ·rw[show stp true (!false) true true (i:Int) (fst1 ms i:Int) (4,fI,fK)=(3,(fst1 ms i:Int),(i:Int)) from by simp[stp]];exact hold_4tt W0 w A mp nn ka kc key ha hc hs ma mc ms i D fI fK h hF hS
  ·rw[show stp true (!false) true true (i:Int) (fst1 ms i:Int) (3,fI,fK)=(3,fI,fK) from by simp[stp]];exact hold_3t W0 w A mp nn ka kc key ha hc hs ma mc ms i D fI fK h hS
  ·rw[show stp true (!false) true true (i:Int) (fst1 ms i:Int) (2,fI,fK)=(2,fI,fK) from by simp[stp]];exact hold_2 W0 w A mp nn ka kc key ha hc hs ma mc ms i D fI fK h
 ·rcases hk with rfl | rfl | rfl | rfl | rfl
  ·rw[show stp false (!true) true true (i:Int) (fst1 ms i:Int) (6,fI,fK)=(2,(i:Int),0) from by simp[stp]];exact hold_6ttff W0 w A mp nn ka kc key ha hc hs ma mc ms i D fI fK h hR hH hF hS
  ·rw[show stp false (!true) true true (i:Int) (fst1 ms i:Int) (5,fI,fK)=(2,(i:Int),0) from by simp[stp]];exact hold_5ttff W0 w A mp nn ka kc key ha hc hs ma mc ms i D fI fK h hR hH hF hS
  ·rw[show stp false (!true) true true (i:Int) (fst1 ms i:Int) (4,fI,fK)=(2,(i:Int),0) from by simp[stp]];exact hold_4ff W0 w A mp nn ka kc key ha hc hs ma mc ms i D fI fK h hF hS
  ·rw[show stp false (!true) true true (i:Int) (fst1 ms i:Int) (3,fI,fK)=(2,(i:Int),0) from by simp[stp]];exact hold_3f W0 w A mp nn ka kc key ha hc hs ma mc ms i D fI fK h hS
  ·rw[show stp false (!true) true true (i:Int) (fst1 ms i:Int) (2,fI,fK)=(2,fI,fK) from by simp[stp]];exact hold_2 W0 w A mp nn ka kc key ha hc hs ma mc ms i D fI fK h
 ·rcases hk with rfl | rfl | rfl | rfl | rfl
  ·rw[show stp true (!true) true true (i:Int) (fst1 ms i:Int) (6,fI,fK)=(6,fI,fK) from by simp[stp]];exact hold_6ttft W0 w A mp nn ka kc key ha hc hs ma mc ms i D fI fK h hR hH hF hS
  ·rw[show stp true (!true) true true (i:Int) (fst1 ms i:Int) (5,fI,fK)=(5,fI,fK) from by simp[stp]];exact hold_5ttft W0 w A mp nn ka kc key ha hc hs ma mc ms i D fI fK h hR hH hF hS
  ·rw[show stp true (!true) true true (i:Int) (fst1 ms i:Int) (4,fI,fK)=(4,fI,fK) from by simp[stp]];exact hold_4ft W0 w A mp nn ka kc key ha hc hs ma mc ms i D fI fK h hF hS
  ·rw[show stp true (!true) true true (i:Int) (fst1 ms i:Int) (3,fI,fK)=(3,fI,fK) from by simp[stp]];exact hold_3t W0 w A mp nn ka kc key ha hc hs ma mc ms i D fI fK h hS
  ·rw[show stp true (!true) true true (i:Int) (fst1 ms i:Int) (2,fI,fK)=(2,fI,fK) from by simp[stp]];exact hold_2 W0 w A mp nn ka kc key ha hc hs ma mc ms i D fI fK h
end Go.Proofs.YtplinkmagnihmaaDoor
namespace Go.Proofs.YtplinkmagnihmaaDoor
open Go.ChangeShapes Go.WideShapes Go.ChangeAt Go.RowKit Go.Deep Go.Lib
def okR(r:Rec):Bool:=decide (r.ps.length<=60)&&decide (r.path.size<=300)
def firL(l:List Rec):List Rec:=(l.take 30).takeWhile okR
theorem take_while:∀(l:List Rec) (k:Nat),k<=l.length->(∀j,j<k->okR (l.getD j recZ)=true)->(k=l.length∨okR (l.getD k recZ)=false)->l.takeWhile okR=l.take k
 | [],k,_,_,_=>by simp
 | r::l,0,_,_,h=>by
   rcases h with h | h
   ·simp at h
   ·have:okR r=false:=by simpa using h
    rw[List.takeWhile_cons,this]
    rfl
 | r::l,k+1,hk,hb,h=>by
   have h0:okR r=true:=by simpa using hb 0 (Nat.succ_pos _)
   rw[List.takeWhile_cons,h0,List.take_succ_cons,<-take_while l k (by simpa using hk) (fun j hj=>by simpa using hb (j+1) (by omega)) (by
    rcases h with h | h
    ·exact .inl (by simpa using h)
    ·exact .inr (by simpa using h))]
   rfl
theorem fir_at{l:List Rec}{k:Nat}(hk:k<=l.length)(hk3:k<=30)(hb:∀j,j<k->okR (l.getD j recZ)=true)(h:k=l.length∨k=30∨okR (l.getD k recZ)=false):firL l=l.take k:=by
 have hg:∀j,j<30->(l.take 30).getD j recZ=l.getD j recZ:=fun j hj=>by simp[List.getD,List.getElem?_take_of_lt hj]
 have hl:(l.take 30).length=min 30 l.length:=List.length_take
 unfold firL
 rw[take_while (l.take 30) k (by rw[hl];omega) (fun j hj=>by rw[hg j (by omega)];exact hb j hj) (by
  rcases h with h | h | h
  ·exact .inl (by rw[hl];omega)
  ·exact .inl (by rw[hl];omega)
  ·rcases Nat.lt_or_ge k 30 with q | q
   ·exact .inr (by rw[hg k q];exact h)
   ·exact .inl (by rw[hl];omega)),List.take_take]
 rw[Nat.min_eq_left hk3]
theorem firL_le(l:List Rec):(firL l).length<=30:=by
 unfold firL
 exact Nat.le_trans (List.takeWhile_sublist _).length_le (by rw[List.length_take];omega)
theorem firL_mem{l:List Rec}{r:Rec}(h:r∈firL l):r∈l:=List.mem_of_mem_take ((List.takeWhile_sublist _).subset h)
theorem firL_ok{l:List Rec}{r:Rec}(h:r∈firL l):r.ps.length<=60:=by
 have:okR r=true:=by
  unfold firL at h
  exact(List.all_takeWhile (p:=okR) (l:=l.take 30) |> List.all_eq_true.1) r h
 unfold okR at this
 rw[Bool.and_eq_true,decide_eq_true_eq] at this
 exact this.1
set_option maxHeartbeats 6400000 in
set_option maxRecDepth 100000 in
theorem first_few(a:Option Addr)(cap:Nat)(l:List Rec)(w:World)(hr:Rr w a cap l):
 Calls Tryd.prog 9 #[.slice a l.length cap] w fun e w'=>∃a' cap',e= .returned (.slice a' (firL l).length cap')∧Rr w' a' cap' (firL l)∧Below w.heap.size w w':=by
 have hroom:=hr.room
 have hmost:=hr.most
 unfold maxLen at hmost
 have HR:=hid hr
 obtain⟨i0,hi,hz0,hz1,hz2⟩:=info_parts Tryd.info58
 obtain⟨len,hle⟩:∃n,n=l.length:=⟨_,rfl⟩
 have HL:=hid hle
 rw[<-hle] at hroom|-
 clear hr hle
 have HEND:=hid (fun(k:Nat) (x:Value) (V:World) (hB:Below w.heap.size w V) (ho:V.ownsRow w.heap.size 58 38 x (l.take k).length ((l.take k).flatMap Rec.cs)) (hf:firL l=l.take k)=>
  (show ∃a' cap',x= .slice a' (firL l).length cap'∧Rr V a' cap' (firL l) from by
   obtain⟨a',cap',hv,hrr⟩:=Rr.own ho (fun r q=>(HR.out.fits r (List.mem_of_mem_take q)).later hB)
   rw[hf]
   exact⟨a',cap',hv,hrr⟩))
 go_enter Tryd.func9,Tryd.ntmps9
 go_wp2
 go_loopw [3,4] (fun x3 x4 wr=>∃k:Nat,k<=len∧k<=30∧x4= .int .i64 (k:Int)∧Hid (wr.ownsRow w.heap.size 58 38 x3 (l.take k).length ((l.take k).flatMap Rec.cs))∧Hid (Below w.heap.size w wr)∧Hid (∀j,j<k->okR (l.getD j recZ)=true)) (fun _ x4 _=>30-(RowKit.intOf x4).toNat)
 case atStart=>exact⟨0,by omega,by omega,rfl,World.ownsRow_nil _ _ _ _,Below.refl _ _,fun j hj=>absurd hj (Nat.not_lt_zero _)⟩
 case round=>
  obtain⟨k,hk,hk20,rfl,HO,HB,HOK⟩:=hrel
  by_cases hlt:k<len
  ·by_cases h20:k<30
   ·have hkz:(k:Int)<(len:Int):=by omega
    have hk2:(k:Int)<30:=by omega
    obtain⟨b,off,rfl,hbw,hc⟩:=HR.out.cells (by rw[<-HL.out];omega)
    have hrg:=(hc k (by rw[<-HL.out];exact hlt))
    have HRG:Hid (wr.rangeAt b (off+k*38) (l.getD k recZ).cs):=fun j v hv=>(HB.out.cell (p:=⟨b,off+k*38+j,none⟩) hbw).trans (hrg j v hv)
    have hok:=(HR.out.get (j:=k) (by rw[<-HL.out];exact hlt)).later HB.out
    have HTK:Hid (l.take (k+1)=l.take k++ [l.getD k recZ]):=by
     show _=_
     have hkl:k<l.length:=by rw[<-HL.out];exact hlt
     rw[List.take_add_one]
     simp[List.getD,List.getElem?_eq_getElem hkl]
    have HTL:Hid ((l.take k).length=k):=by show _=_;simp;rw[<-HL.out];omega
    have HFE:=hid (fun(q:okR (l.getD k recZ)=false)=>fir_at (l:=l) (by rw[<-HL.out];omega) hk20 HOK.out (.inr (.inr q)))
    have HOS:=hid (fun(q:okR (l.getD k recZ)=true)=>show ∀j,j<k+1->okR (l.getD j recZ)=true from fun j hj=>by
     rcases Nat.lt_or_ge j k with h | h
     ·exact HOK.out j h
     ·rw[show j=k by omega];exact q)
    generalize l.getD k recZ=x at *
    have HLX:=hid (Rec.cs_len hok.len)
    have HXL:=hid hok.len
    have HS0:Hid (w.heap.size<=wr.heap.size):=HB.out.size
    have hro:=hok.row.room
    have hmo:=hok.row.most
    have hpa:=hok.path
    unfold maxLen at hmo hpa
    have c36:wr.cell? ⟨b,off+k*38+36,none⟩=some (.string x.path):=HRG.out 36 _ (x.tail hok.len 2)
    have c37:wr.cell? ⟨b,off+k*38+37,none⟩=some (.slice x.a x.ps.length x.cap):=HRG.out 37 _ (x.tail hok.len 3)
    clear hrg hc hok
    by_cases h60:60<x.ps.length
    ·have hz:(60:Int)<(x.ps.length:Int):=by omega
     obtain⟨a',cap',hv',hr'⟩:=HEND.out k _ wr HB.out HO.out (HFE.out (by unfold okR;rw[decide_eq_false (by omega)];rfl))
     have HRR:=hid hr'
     subst hv'
     clear hr'
     go_wp2
     go_ret
     exact⟨_,_,rfl,HRR.out,HB.out⟩
    ·have hz:¬(60:Int)<(x.ps.length:Int):=by omega
     by_cases h300:300<x.path.size
     ·have hz3:(300:Int)<(x.path.size:Int):=by omega
      obtain⟨a',cap',hv',hr'⟩:=HEND.out k _ wr HB.out HO.out (HFE.out (by unfold okR;rw[decide_eq_false (show ¬x.path.size<=300 by omega)];simp))
      have HRR:=hid hr'
      subst hv'
      clear hr'
      go_wp2
      go_ret
      exact⟨_,_,rfl,HRR.out,HB.out⟩
     ·have hz3:¬(300:Int)<(x.path.size:Int):=by omega
      have HNX:=hid (HOS.out (by unfold okR;rw[decide_eq_true (show x.ps.length<=60 by omega),decide_eq_true (show x.path.size<=300 by omega)];rfl))
      have HO1:=hid (HO.out.alloc (.cells x.cs.toArray 58))
      have HBA:=hid (Bn HB.out (bel_alc wr (.cells x.cs.toArray 58)))
      have HNW:Hid (∀j u,x.cs[j]?=some u->(wr.alloc (.cells x.cs.toArray 58)).cell? ((⟨wr.heap.size,0,none⟩:Addr).add j)=some u):=fun j u hu=>by
       rw[add_plain,Nat.zero_add]
       exact(Joins.cell_of_block (heap_alc wr _) j).trans (by rw[List.getElem?_toArray];exact hu)
      have HS1:Hid (w.heap.size<=(wr.alloc (.cells x.cs.toArray 58)).heap.size):=HBA.out.size
      clear HO HEND HFE HOS
      go_wp2_with (first | refine wpList_load_g rfl 58 _ rfl b (off+k*38) rfl x.cs _ HRG.out Tryd.underlying58 rfl (by rw[HLX.out];exact Tryd.size58) ?_ | refine wpList_buildOne rfl 23 58 _ rfl (some 37) rfl x.cs.toArray i0 _ Tryd.underlying23 hi hz0 (by rw[hz1,Rec.cs_size HXL.out]) (by rw[Rec.cs_size HXL.out];decide) (by rw[Rec.cs_size HXL.out];decide) rfl ?_ | (at_builtin;refine wpList_append_own _ rfl _ _ 23 rfl w.heap.size 58 i0 _ 38 104 Tryd.underlying23 hi hz0 hz1 hz2 rfl (by decide) _ _ _ rfl HO1.out ⟨wr.heap.size,0,none⟩ 1 1 x.cs rfl (by rw[Rec.cs_len HXL.out]) HNW.out (Rec.cs_one _) (by rw[HTL.out];unfold maxLen;omega) (by rw[HTL.out];omega) HS1.out ?_) | fail)
      intro v2 W4 ho2 hg2 _
      have HO2:Hid (W4.ownsRow w.heap.size 58 38 v2 (l.take (k+1)).length ((l.take (k+1)).flatMap Rec.cs)):=by
       show World.ownsRow _ _ _ _ _ _ _
       rw[HTK.out,List.length_append,List.flatMap_append]
       simpa using ho2
      have HB4:Hid (Below w.heap.size w W4):=HBA.out.trans ((Below.refl _ _).grown hg2 HS1.out (fun j hj=>(HO1.out.lt j hj).1))
      clear ho2 hg2 HO1 HNW
      go_wp2
      go_round
      case rel=>exact⟨k+1,by omega,by omega,by go_num,HO2.out,HB4.out,HNX.out⟩
      case measure=>simp[RowKit.intOf];omega
   ·have hkz:(k:Int)<(len:Int):=by omega
    have hk2:¬(k:Int)<30:=by omega
    obtain⟨a',cap',hv',hr'⟩:=HEND.out k _ wr HB.out HO.out (fir_at (by rw[<-HL.out];omega) hk20 HOK.out (.inr (.inl (by omega))))
    have HRR:=hid hr'
    subst hv'
    clear hr'
    go_wp2
    go_ret
    exact⟨_,_,rfl,HRR.out,HB.out⟩
  ·have hkz:¬(k:Int)<(len:Int):=by omega
   obtain⟨a',cap',hv',hr'⟩:=HEND.out k _ wr HB.out HO.out (fir_at (by rw[<-HL.out];omega) hk20 HOK.out (.inl (by rw[<-HL.out];omega)))
   have HRR:=hid hr'
   subst hv'
   clear hr'
   go_wp2
   go_ret
   exact⟨_,_,rfl,HRR.out,HB.out⟩
end Go.Proofs.YtplinkmagnihmaaDoor
namespace Go.Proofs.YtplinkmagnihmaaDoor
open Go.ChangeShapes Go.WideShapes Go.ChangeAt Go.RowKit Go.Deep
instance:Inhabited Rec:=⟨recZ⟩
section
variable {H : Type} {enc : TypeId × Value → H} {W : World} {fuel : Nat} {cs : List Value} {x : DataW H × List MemPlace}
set_option maxRecDepth 100000 in
theorem trod_recs(h:DataW.trod enc Tryd.prog W 0 (fun _=>true) true fuel 23 cs=some x)(hlt:∀q∈x.2,q.block<W.heap.size):∃a cap l,cs= [.slice a (l:List Rec).length cap]∧Rr W a cap l:=by
 rcases open_slice Tryd.underlying23 h with ⟨hcs,_⟩ | ⟨a,len,cap,m,n,D,Pl,hcs,_,hl,hm,hmm,hx,hel⟩
 ·exact⟨none,0,[],hcs,⟨Nat.le_refl _,by unfold maxLen;exact Nat.zero_le _,fun _=>rfl,fun h=>absurd h (by simp),fun r hr=>by cases hr⟩⟩
 ·rw[if_pos rfl] at hmm
  subst hmm
  rw[Tryd.cells58] at hel
  have hp:x.2=MemPlace.row a (m*Tryd.prog.cellsOf 58)++(List.range m).flatMap Pl:=congrArg Prod.snd hx
  have key:∀j,j<len->∃y:Rec,Rv W y∧∀i u,y.cs[i]?=some u->W.cell? ((a.add (j*38)).add i)=some u:=by
   intro j hj
   obtain⟨cs',h1,h2⟩:=hel j (by omega)
   obtain⟨_,hcl,hcc⟩:=World.cells?_some h1
   obtain⟨y,rfl,hy⟩:=trod_rec h2 (fun q hq=>hlt q (by
    rw[hp,List.mem_append]
    exact Or.inr (List.mem_flatMap.2 ⟨j,List.mem_range.2 (by omega),hq⟩)))
   refine⟨y,hy,fun i u hu=>?_⟩
   have hi:i<y.cs.length:=(List.getElem?_eq_some_iff.1 hu).1
   have:=hcc i (by rw[<-hcl];exact hi)
   rw[this]
   exact hu
  obtain⟨Y,hY⟩:=choose_lt key
  have hlen:((List.range len).map Y).length=len:=by simp
  have hgd:∀j,j<len->((List.range len).map Y).getD j recZ=Y j:=fun j hj=>by simp[List.getD,hj]
  refine⟨some a,m,(List.range len).map Y,by rw[hlen];exact hcs,by rw[hlen];exact hl,hm,(fun h=>by cases h),fun h0=>?_,fun y hy=>?_⟩
  ·rw[hlen] at h0
   obtain⟨b,off,spot⟩:=a
   have hc0:=(hY 0 h0).2 0 _ rfl
   have hspot:spot=none:=by
    have:=World.cell?_spot hc0
    simpa [Addr.add] using this
   subst hspot
   have hbW:b<W.heap.size:=hlt (.cell b off) (by
    rw[hp,List.mem_append]
    refine Or.inl (MemPlace.mem_row.2 ⟨0,?_,by simp⟩)
    rw[Tryd.cells58];omega)
   refine⟨b,off,rfl,hbW,fun j hj=>?_⟩
   rw[hlen] at hj
   rw[hgd j hj]
   intro i u hu
   have:=(hY j hj).2 i u hu
   rw[add_plain,add_plain] at this
   exact this
  ·obtain⟨i,hi,rfl⟩:=List.mem_map.1 hy
   exact(hY i (List.mem_range.1 hi)).1
set_option maxRecDepth 100000 in
theorem trod_head(h:DataW.trod enc Tryd.prog W 0 (fun _=>true) true fuel 27 cs=some x):∃y:Hd,cs=hdV y∧y.2.2.length=32∧(∀j,(Lit.int .u8 (y.2.2.getD j 0)).wf=true)∧(Lit.int .i64 y.1).wf=true∧(Lit.int .i64 y.2.1).wf=true:=by
 obtain⟨xs,k,_,_,hcl,hxl,hf⟩:=DataW.trod_struct Tryd.underlying27 h
 rw[Tryd.cells27] at hcl
 have hx3:xs.length=3:=hxl
 have g0:DataW.trod enc Tryd.prog W 0 (fun _=>true) true k 3 (List.take (Tryd.prog.cellsOf 3) (List.drop 0 cs))=xs[0]?:=hf 0 _ rfl
 have g1:DataW.trod enc Tryd.prog W 0 (fun _=>true) true k 3 (List.take (Tryd.prog.cellsOf 3) (List.drop 1 cs))=xs[1]?:=hf 1 _ rfl
 have g2:DataW.trod enc Tryd.prog W 0 (fun _=>true) true k 25 (List.take (Tryd.prog.cellsOf 25) (List.drop 2 cs))=xs[2]?:=hf 2 _ rfl
 rw[Tryd.cells3,List.getElem?_eq_getElem (by omega)] at g0 g1
 rw[Tryd.cells25,List.getElem?_eq_getElem (by omega)] at g2
 obtain⟨z0,e0,_,f0⟩:=DataW.trod_int Tryd.underlying3 g0
 obtain⟨z1,e1,_,f1⟩:=DataW.trod_int Tryd.underlying3 g1
 obtain⟨l,e2,hl,h8⟩:=trod_digest g2
 refine⟨(z0,z1,l),?_,hl,h8,f0,f1⟩
 unfold hdV hdL
 rw[<-e2,List.take_of_length_le (l:=List.drop 2 cs) (by simp;omega)]
 have c0:=at_one e0
 have c1:=at_one e1
 match cs,c0,c1 with
 | a::b::t,c0,c1=>
   simp at c0 c1
   subst c0 c1
   rfl
end
set_option maxRecDepth 100000 in
theorem open_recs{H:Type}{enc:TypeId×Value->H}{W:World}{base:Nat}{v:Value}{d:DataW H}{p:List MemPlace}(hv:Value.okWide Tryd.prog W .any base 23 v)
 (h:DataW.Trod enc Tryd.prog W 0 (fun _=>true) true 23 v d p) (hlt:∀x∈p,x.block<W.heap.size):∃a cap l,v= .slice a (l:List Rec).length cap∧Rr W a cap l:=by
 obtain⟨a0,len,cap0,rfl⟩:=okWide_slice Tryd.underlying23 hv
 obtain⟨fuel,hf⟩:=h
 obtain⟨a,cap,l,e,hr⟩:=trod_recs hf hlt
 simp[Value.cells] at e
 obtain⟨rfl,rfl,rfl⟩:=e
 exact⟨_,_,_,rfl,hr⟩
set_option maxRecDepth 100000 in
theorem open_head{H:Type}{enc:TypeId×Value->H}{W:World}{base:Nat}{v:Value}{d:DataW H}{p:List MemPlace}(hv:Value.okWide Tryd.prog W .any base 27 v)
 (h:DataW.Trod enc Tryd.prog W 0 (fun _=>true) true 27 v d p):∃y:Hd,v= .agg (hdV y).toArray∧y.2.2.length=32∧(∀j,(Lit.int .u8 (y.2.2.getD j 0)).wf=true)∧(Lit.int .i64 y.1).wf=true∧(Lit.int .i64 y.2.1).wf=true:=by
 obtain⟨cs,rfl,_⟩:=okWide_struct Tryd.underlying27 hv
 obtain⟨fuel,hf⟩:=h
 obtain⟨y,e,hy⟩:=trod_head hf
 refine⟨y,?_,hy⟩
 rw[<-e]
 simp[Value.cells]
def laidL:List (String×DataW Unit):= [("saltern/sha.start",Rows.laid_saltern_sha_start),("saltern/sha.constants",Rows.laid_saltern_sha_constants)]
theorem own:ownKnob Tryd.prog.godebug=none:=by kernel_rfl
theorem gStart:Tryd.prog.globalNamed "saltern/sha.start" = some 0:=by kernel_rfl
theorem gConst:Tryd.prog.globalNamed "saltern/sha.constants" = some 1:=by kernel_rfl
theorem tStart:(Tryd.prog.globals[0]?).map (·.type)=some 122:=by kernel_rfl
theorem tConst:(Tryd.prog.globals[1]?).map (·.type)=some 138:=by kernel_rfl
theorem Tryd.cells121:Tryd.prog.cellsOf 117=1:=by kernel_rfl
theorem Tryd.cells122:Tryd.prog.cellsOf 122=8:=by kernel_rfl
theorem Tryd.cells138:Tryd.prog.cellsOf 138=64:=by kernel_rfl
theorem door_met(os:Os)(args:Array Value):laidMetH Tryd.prog laidL ((World.doorLaid Tryd.prog 400 os).forCall (fun _ _=>0) ⟨#[],args,[]⟩).memory:=
 laidMetH_of_parts3 (fuel:=8) (laidMet_of_run' 8 (by kernel_rfl) (by kernel_rfl)) (by kernel_rfl) (by kernel_rfl)
set_option maxHeartbeats 3200000 in
set_option maxRecDepth 100000 in
theorem of_laid{W:World}(h:laidMetH Tryd.prog laidL W):Sh.Laid W:=by
 rw[MakeChecks.laidMetH_plain _ _ _ (by kernel_rfl)] at h
 obtain⟨ps,⟨g0,t0,cs0,f0,p0,q0,hg0,ht0,hv0,hd0,⟨g1,t1,cs1,f1,p1,q1,hg1,ht1,hv1,hd1,_,_⟩,_⟩,_,_⟩:=h
 obtain rfl:=Option.some.inj (gStart.symm.trans hg0)
 obtain rfl:=Option.some.inj (gConst.symm.trans hg1)
 obtain rfl:=Option.some.inj (tStart.symm.trans ht0)
 obtain rfl:=Option.some.inj (tConst.symm.trans ht1)
 have e0:=Lib.cells_of_tab (zs:=Sh.ints Sh.Sha.start.list) Tryd.underlying122 Tryd.underlying121 Tryd.cells121 Tryd.cells122 hd0
 have e1:=Lib.cells_of_tab (zs:=Sh.ints Sh.Sha.kL) Tryd.underlying138 Tryd.underlying121 Tryd.cells121 Tryd.cells138 hd1
 have c0:∀i,W.cell? ⟨0,i,none⟩=((Sh.ints Sh.Sha.start.list).map fun z=>Value.int .u32 z)[i]?:=fun i=>by
  have:=World.var?_cell hg0 hv0 i
  rw[this,<-e0];simp
 have c1:∀i,W.cell? ⟨1,i,none⟩=((Sh.ints Sh.Sha.kL).map fun z=>Value.int .u32 z)[i]?:=fun i=>by
  have:=World.var?_cell hg1 hv1 i
  rw[this,<-e1];simp
 refine⟨fun i hi=>?_,fun i hi=>?_,?_⟩
 ·rw[c1 i]
  simp[Sh.ints,List.getD,List.getElem?_eq_getElem (show i<Sh.Sha.kL.length from hi)]
 ·rw[c0 i]
  simp[Sh.ints,List.getD,List.getElem?_eq_getElem (show i<Sh.Sha.start.list.length from hi)]
 ·have:=World.block_lt_of_cell? W ⟨1,0,none⟩ (c1 0)
  exact this
end Go.Proofs.YtplinkmagnihmaaDoor
namespace Go.Proofs.YtplinkmagnihmaaDoor.Sh
open Go.ChangeShapes Go.WideShapes Go.ChangeAt Go.RowKit Sha
set_option maxRecDepth 100000 in
theorem open_rd{H:Type}{enc:TypeId×Value->H}{W:World}{base:Nat}{v:Value}{d:DataW H}{p:List MemPlace}(hv:Value.okWide Tryd.prog W .any base 22 v)
 (h:DataW.Trod enc Tryd.prog W 0 (fun _=>true) true 22 v d p) (hlt:∀x∈p,x.block<W.heap.size):∃a cap zs,v= .slice a (zs:List Nat).length cap∧Rd W (.slice a zs.length cap) a cap zs:=by
 obtain⟨a0,len,cap,rfl⟩:=okWide_slice Tryd.underlying22 hv
 obtain⟨fuel,hf⟩:=h
 rcases open_ints Tryd.underlying22 Tryd.underlying5 Tryd.cells5 hf with ⟨hcs,hx⟩ | ⟨a,len',cap',zs,hcs,_,hl,hm,hz,hx,hcell,hwz⟩
 ·simp[Value.cells] at hcs
  obtain⟨rfl,rfl,rfl⟩:=hcs
  exact⟨none,0,[],rfl,rfl,Nat.le_refl _,by unfold maxLen;omega,fun h=>absurd h (by simp),fun j=>by simp,fun _=>rfl⟩
 ·simp[Value.cells] at hcs
  obtain⟨rfl,rfl,rfl⟩:=hcs
  simp only[Prod.mk.injEq] at hx
  obtain⟨_,rfl⟩:=hx
  simp only[if_true] at hz
  have hlen:((zs.take len).map Int.toNat).length=len:=by simp;omega
  have hby:∀j,0<=(zs.take len).getD j 0∧(zs.take len).getD j 0<=255:=by
   intro j
   by_cases hj:j<(zs.take len).length
   ·have hm:(zs.take len).getD j 0∈zs:=by
     simp only[List.getD,List.getElem?_eq_getElem hj,Option.getD_some]
     exact List.mem_of_mem_take (List.getElem_mem hj)
    exact wf_u8 (hwz _ hm)
   ·simp[List.getD,List.getElem?_eq_none (show(zs.take len).length<=j from by omega)]
  refine⟨some a,cap,(zs.take len).map Int.toNat,by rw[hlen],rfl,by omega,hm,fun h0=>?_,fun j=>?_,fun h=>by cases h⟩
  ·rw[hlen] at h0|-
   obtain⟨b,off,spot⟩:=a
   have hspot:spot=none:=by simpa [Addr.add] using World.cell?_spot (hcell 0 (by omega))
   subst hspot
   have hbW:b<W.heap.size:=hlt (.cell b off) (MemPlace.mem_row.2 ⟨0,by omega,by simp⟩)
   refine⟨b,off,rfl,hbW,fun j hj=>?_⟩
   rw[getD_nat,Int.toNat_of_nonneg (hby j).1,<-add_plain]
   have e:(zs.take len).getD j 0=zs.getD j 0:=by simp[List.getD,List.getElem?_take_of_lt hj]
   rw[e]
   exact hcell j (by omega)
  ·rw[getD_nat]
   have:=hby j
   omega
end Go.Proofs.YtplinkmagnihmaaDoor.Sh
namespace Go.Proofs.YtplinkmagnihmaaDoor
open Go.ChangeShapes Go.WideShapes Go.ChangeAt Go.RowKit Go.Deep Go.Lib
set_option maxRecDepth 100000 in
theorem open_key{H:Type}{enc:TypeId×Value->H}{W:World}{base:Nat}{v:Value}{d:DataW H}{p:List MemPlace}(hv:Value.okWide Tryd.prog W .any base 22 v)
 (h:DataW.Trod enc Tryd.prog W 0 (fun _=>true) true 22 v d p) (hlt:∀x∈p,x.block<W.heap.size):∃a cap zs,v= .slice a (zs:List Nat).length cap∧Sh.Rd W (.slice a zs.length cap) a cap zs:=Sh.open_rd hv h hlt
set_option maxRecDepth 100000 in
theorem ccut_word(a:Option Addr)(cap:Nat)(zs:List Nat)(w:World)(hr:Sh.Rd w (.slice a zs.length cap) a cap zs):
 Calls Tryd.prog 8 #[.slice a zs.length cap] w fun e w'=>e= .returned (.slice a (zs.take 300).length cap)∧w'=w:=by
 have hroom:=hr.room
 have hmost:=hr.most
 unfold maxLen at hmost
 by_cases h:300<zs.length
 ·have h':(300:Int)<(zs.length:Int):=by omega
  obtain⟨b,o,rfl,_,_⟩:=hr.cells (by omega)
  have hl:(zs.take 300).length=300:=by rw[List.length_take];omega
  rw[hl]
  clear hr
  generalize zs.length=n at *
  go_enter Tryd.func8,Tryd.ntmps8
  go_wp2
  go_ret
  exact⟨rfl,rfl⟩
 ·have h':¬(300:Int)<(zs.length:Int):=by omega
  have hl:(zs.take 300).length=zs.length:=by rw[List.length_take];omega
  rw[hl]
  clear hr
  generalize zs.length=n at *
  go_enter Tryd.func8,Tryd.ntmps8
  go_wp2
  go_ret
  exact⟨rfl,rfl⟩
theorem xor_same{x y:Int}(hx:0<=x∧x<=255)(hy:0<=y∧y<=255):(bits .xor .u8 x y=x↔y=0)∧(Lit.int .u8 (bits .xor .u8 x y)).wf=true:=by
 obtain⟨n,rfl⟩:=Int.eq_ofNat_of_zero_le hx.1
 obtain⟨m,rfl⟩:=Int.eq_ofNat_of_zero_le hy.1
 have h:=u8_xor_nat n m (by omega) (by omega)
 rw[h]
 have hlt:=Nat.xor_lt_two_pow (n:=8) (show n<2^8 by omega) (show m<2^8 by omega)
 refine⟨⟨fun e=>?_,fun e=>?_⟩,wf_mk_u8 (by omega) (by omega)⟩
 ·have e2:n^^^m=n:=by omega
  have e3:n^^^(n^^^m)=m:=by rw[<-Nat.xor_assoc,Nat.xor_self,Nat.zero_xor]
  rw[e2,Nat.xor_self] at e3
  omega
 ·have:m=0:=by omega
  subst this
  rw[Nat.xor_zero]
theorem set_same{L:List Int}{j:Nat}(hj:j<L.length)(z:Int):L.set j z=L↔z=L.getD j 0:=by
 constructor
 ·intro h
  have:=congrArg (fun l=>l.getD j 0) h
  simpa [List.getD,hj] using this
 ·intro h
  subst h
  apply List.ext_getElem
  ·simp
  ·intro i h1 h2
   by_cases e:j=i
   ·subst e
    simp[List.getD,hj]
   ·simp[e]
theorem sealed_flip{key:List Nat}{s:Int}{x:Hd}(hm:mayM (s,x,z32)=true){j:Nat}(hj:j<32)(z:Int):sealedB key (s,x,(sealL key (s,x,z32)).set j z)=decide (z=(sealL key (s,x,z32)).getD j 0):=by
 obtain⟨D,hD⟩:∃D,D=sealL key (s,x,z32):=⟨_,rfl⟩
 have hl:j<D.length:=by rw[hD,sealL_len];exact hj
 rw[<-hD]
 have h1:mayM (s,x,D.set j z)=true:=(may_hd s x _ z32).trans hm
 have h2:sealL key (s,x,D.set j z)=D:=(seal_hd key s x _ z32).trans hD.symm
 unfold sealedB
 rw[h1,h2,Bool.true_and]
 exact decide_eq_decide.2 (set_same hl z)
theorem sealed_made{key:List Nat}{s:Int}{x:Hd}(hm:mayM (s,x,z32)=true):sealedB key (s,x,sealL key (s,x,z32))=true:=by
 obtain⟨D,hD⟩:∃D,D=sealL key (s,x,z32):=⟨_,rfl⟩
 rw[<-hD]
 have h1:mayM (s,x,D)=true:=(may_hd s x _ z32).trans hm
 have h2:sealL key (s,x,D)=D:=(seal_hd key s x _ z32).trans hD.symm
 unfold sealedB
 rw[h1,h2]
 simp
end Go.Proofs.YtplinkmagnihmaaDoor
namespace Go.Proofs.YtplinkmagnihmaaDoor
open Go.ChangeShapes Go.WideShapes Go.ChangeAt Go.RowKit Go.Deep
instance:Inhabited Mrk:=⟨mkZ⟩
theorem Tryd.cells45:Tryd.prog.cellsOf 45=67:=by kernel_rfl
section
variable {H : Type} {enc : TypeId × Value → H} {W : World} {fuel : Nat} {cs : List Value} {x : DataW H × List MemPlace}
set_option maxRecDepth 100000 in
theorem trod_mark(h:DataW.trod enc Tryd.prog W 0 (fun _=>true) true fuel 45 cs=some x):∃y:Mrk,cs=mkV y∧MOk y:=by
 obtain⟨xs,k,_,_,hcl,hxl,hf⟩:=DataW.trod_struct Tryd.underlying45 h
 rw[Tryd.cells45] at hcl
 have hx3:xs.length=3:=hxl
 have g0:DataW.trod enc Tryd.prog W 0 (fun _=>true) true k 3 (List.take (Tryd.prog.cellsOf 3) (List.drop 0 cs))=xs[0]?:=hf 0 _ rfl
 have g1:DataW.trod enc Tryd.prog W 0 (fun _=>true) true k 27 (List.take (Tryd.prog.cellsOf 27) (List.drop 1 cs))=xs[1]?:=hf 1 _ rfl
 have g2:DataW.trod enc Tryd.prog W 0 (fun _=>true) true k 25 (List.take (Tryd.prog.cellsOf 25) (List.drop 35 cs))=xs[2]?:=hf 2 _ rfl
 rw[Tryd.cells3,List.getElem?_eq_getElem (by omega)] at g0
 rw[Tryd.cells27,List.getElem?_eq_getElem (by omega)] at g1
 rw[Tryd.cells25,List.getElem?_eq_getElem (by omega)] at g2
 obtain⟨z0,e0,_,f0⟩:=DataW.trod_int Tryd.underlying3 g0
 obtain⟨y,e1,h1,h2,h3,h4⟩:=trod_head g1
 obtain⟨l,e2,hl,h8⟩:=trod_digest g2
 refine⟨(z0,y,l),?_,f0,⟨h3,h4,h1,h2⟩,hl,h8⟩
 unfold mkV
 have c0:=at_one e0
 have e3:List.drop 35 cs=l.map (Value.int .u8):=by
  rw[<-e2,List.take_of_length_le (by simp;omega)]
 match cs,c0 with
 | a::t,c0=>
   simp at c0
   subst c0
   show _::t=_
   congr 1
   have e4:List.take 34 t=hdV y:=e1
   have e5:List.drop 34 t=l.map (Value.int .u8):=e3
   rw[<-e4,<-e5,List.take_append_drop]
set_option maxRecDepth 100000 in
theorem trod_marks(h:DataW.trod enc Tryd.prog W 0 (fun _=>true) true fuel 28 cs=some x)(hlt:∀q∈x.2,q.block<W.heap.size):∃a cap l,cs= [.slice a (l:List Mrk).length cap]∧Rw 67 mkV mkZ W a cap l∧∀m∈l,MOk m:=by
 rcases open_slice Tryd.underlying28 h with ⟨hcs,_⟩ | ⟨a,len,cap,m,n,D,Pl,hcs,_,hl,hm,hmm,hx,hel⟩
 ·exact⟨none,0,[],hcs,⟨Nat.le_refl _,by unfold maxLen;exact Nat.zero_le _,fun _=>rfl,fun h=>absurd h (by simp)⟩,fun r hr=>by cases hr⟩
 ·rw[if_pos rfl] at hmm
  subst hmm
  rw[Tryd.cells45] at hel
  have hp:x.2=MemPlace.row a (m*Tryd.prog.cellsOf 45)++(List.range m).flatMap Pl:=congrArg Prod.snd hx
  have key:∀j,j<len->∃y:Mrk,MOk y∧∀i u,(mkV y)[i]?=some u->W.cell? ((a.add (j*67)).add i)=some u:=by
   intro j hj
   obtain⟨cs',h1,h2⟩:=hel j (by omega)
   obtain⟨_,hcl,hcc⟩:=World.cells?_some h1
   obtain⟨y,rfl,hy⟩:=trod_mark h2
   refine⟨y,hy,fun i u hu=>?_⟩
   have hi:i<(mkV y).length:=(List.getElem?_eq_some_iff.1 hu).1
   have:=hcc i (by rw[<-hcl];exact hi)
   rw[this]
   exact hu
  obtain⟨Y,hY⟩:=choose_lt key
  have hlen:((List.range len).map Y).length=len:=by simp
  have hgd:∀j,j<len->((List.range len).map Y).getD j mkZ=Y j:=fun j hj=>by simp[List.getD,hj]
  refine⟨some a,m,(List.range len).map Y,by rw[hlen];exact hcs,⟨by rw[hlen];exact hl,hm,(fun h=>by cases h),fun h0=>?_⟩,fun y hy=>?_⟩
  ·rw[hlen] at h0
   obtain⟨b,off,spot⟩:=a
   have hc0:=(hY 0 h0).2 0 _ rfl
   have hspot:spot=none:=by
    have:=World.cell?_spot hc0
    simpa [Addr.add] using this
   subst hspot
   have hbW:b<W.heap.size:=hlt (.cell b off) (by
    rw[hp,List.mem_append]
    refine Or.inl (MemPlace.mem_row.2 ⟨0,?_,by simp⟩)
    rw[Tryd.cells45];omega)
   refine⟨b,off,rfl,hbW,fun j hj=>?_⟩
   rw[hlen] at hj
   rw[hgd j hj]
   intro i u hu
   have:=(hY j hj).2 i u hu
   rw[add_plain,add_plain] at this
   exact this
  ·obtain⟨i,hi,rfl⟩:=List.mem_map.1 hy
   exact(hY i (List.mem_range.1 hi)).1
end
set_option maxRecDepth 100000 in
theorem open_marks{H:Type}{enc:TypeId×Value->H}{W:World}{base:Nat}{v:Value}{d:DataW H}{p:List MemPlace}(hv:Value.okWide Tryd.prog W .any base 28 v)
 (h:DataW.Trod enc Tryd.prog W 0 (fun _=>true) true 28 v d p) (hlt:∀x∈p,x.block<W.heap.size):∃a cap l,v= .slice a (l:List Mrk).length cap∧Rw 67 mkV mkZ W a cap l∧∀m∈l,MOk m:=by
 obtain⟨a0,len,cap0,rfl⟩:=okWide_slice Tryd.underlying28 hv
 obtain⟨fuel,hf⟩:=h
 obtain⟨a,cap,l,e,hr⟩:=trod_marks hf hlt
 simp[Value.cells] at e
 obtain⟨rfl,rfl,rfl⟩:=e
 exact⟨_,_,_,rfl,hr⟩
end Go.Proofs.YtplinkmagnihmaaDoor
