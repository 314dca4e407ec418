/-
  The law's few, once more: its row lies in a block of its own; rows of records that no store reaches.
-/
import Derived.Test.YtplinkmagnihmaaDoorCkJc
namespace Go.Proofs.YtplinkmagnihmaaDoor
open Go.ChangeShapes Go.WideShapes Go.ChangeAt Go.RowKit Go.Deep
theorem Rr.own2{w:World}{base:Nat}{v:Value}{l:List Rec}(h:w.ownsRow base 58 38 v l.length (l.flatMap Rec.cs))(hf:∀r∈l,Rv w r):∃a cap,v= .slice a l.length cap∧Rr w a cap l∧∀b off,a=some ⟨b,off,none⟩->base<=b:=by
 obtain⟨a,cap,hv,hr⟩:=Rr.own h hf
 refine⟨a,cap,hv,hr,fun b off e=>?_⟩
 rcases h.2 with ⟨h1,_⟩ | ⟨g,cap2,cur,h1,h2,_⟩
 ·rw[hv,e] at h1
  cases h1
 ·rw[hv,e] at h1
  injection h1 with h1
  injection h1 with h1
  injection h1 with h1
  omega
theorem Rr.kept{w w':World}{a:Option Addr}{cap:Nat}{l:List Rec}(h:Rr w a cap l)(hk:∀b off,a=some ⟨b,off,none⟩->w'.heap[b]?=w.heap[b]?)(hf:∀r∈l,Rv w' r):Rr w' a cap l:=by
 refine⟨h.room,h.most,h.none0,fun h0=>?_,hf⟩
 obtain⟨b,off,ha,hb,hc⟩:=h.cells h0
 have e:=hk b off ha
 refine⟨b,off,ha,?_,fun j hj i u hu=>(World.cell?_of_block (w:=w) (a:=⟨b,off+j*38+i,none⟩) e).trans (hc j hj i u hu)⟩
 have:w.heap[b]?≠none:=by simp;omega
 rw[<-e] at this
 simpa using this
end Go.Proofs.YtplinkmagnihmaaDoor
